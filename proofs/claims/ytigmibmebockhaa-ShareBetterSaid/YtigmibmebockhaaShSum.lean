/-
  Package share: sum, right, within, Fits, Poor: contracts.
-/
import Derived.Test.YtigmibmebockhaaShSpec
import Derived.Test.YtigmibmebockhaaKsRow
set_option linter.unusedVariables false
set_option maxRecDepth 100000
namespace Go.Proofs.Ytigmibmebockhaa
open Go.RowKit

theorem ks_ok {w : World} {q : Option Addr} {c : Nat} {l : List Int} (h : KsOk w q l.length c l) : Ks w q l := h.hl

set_option maxHeartbeats 800000 in
theorem ssum_any {w : World} {q : Option Addr} {m c : Nat} {l : List Int} (h : KsOk w q m c l) (hb : ∀ x ∈ l, 0 ≤ x ∧ x ≤ 8589934592) (hl : l.length ≤ 4096) :
    Calls Try.prog 33 #[.slice q m c] w fun e w' => e = .returned (.int .i64 l.sum) ∧ w' = w := by
  obtain ⟨rfl, h1, h2, hk⟩ := h
  have HK := Lib.hid hk
  have HB := Lib.hid hb
  have hl2 : l.length < 9223372036854775808 := by omega
  clear hk hb
  go_enter Try.func33, Try.ntmps33
  go_wp2
  go_loopw [3, 8] (fun x i wr => ∃ j : Nat, x = .int .i64 (shP l j) ∧ i = .int .i64 (j : Int) ∧ j ≤ l.length ∧ wr = w) (fun _ i _ => l.length - (intOf i).toNat)
  case atStart => exact ⟨0, by rw [shP_zero], rfl, by omega, rfl⟩
  case round =>
    obtain ⟨j, rfl, rfl, hj, rfl⟩ := hrel
    by_cases hjl : j < l.length
    · obtain ⟨x, hx⟩ : ∃ x, l[j]? = some x := ⟨_, List.getElem?_eq_getElem hjl⟩
      obtain ⟨b, o, hq, hcell⟩ := HK.out.at hx
      have hs := Lib.hid (shP_succ hx)
      have hx1 := HB.out x (List.mem_of_getElem? hx)
      have hp := shP_bounds HB.out (by omega) j
      subst hq
      clear hx
      generalize shP l j = p at *
      go_wp2
      go_roundw
      case rel => exact ⟨j + 1, by rw [hs.out], by go_num, by omega, trivial⟩
      case measure => simp [intOf]; omega
    · obtain rfl : j = l.length := by omega
      have hs : Hid (shP l l.length = l.sum) := Lib.hid (by simp [shP])
      generalize shP l l.length = p at *
      go_wp2
      go_ret
      exact ⟨by rw [← hs.out]; rfl, rfl⟩

theorem shRight_any (l : List Int) : shRight l ↔ l.length ≤ 4096 ∧ ∀ x ∈ l, 0 ≤ x ∧ x ≤ 1048576 := Iff.rfl
def SrPost (w : World) (l : List Int) (e : Ending) (w' : World) : Prop := (∃ b : Bool, e = .returned (.bool b) ∧ (b = true ↔ shRight l)) ∧ w' = w
set_option maxHeartbeats 800000 in
theorem sright_any {w : World} {q : Option Addr} {m c : Nat} {l : List Int} (h : KsOk w q m c l) :
    Calls Try.prog 32 #[.slice q m c] w (SrPost w l) := by
  obtain ⟨rfl, h1, h2, hk⟩ := h
  have HK := Lib.hid hk
  have HR := Lib.hid (shRight_any l)
  by_cases hl : l.length ≤ 4096
  · have d1 : decide ((4096 : Int) < l.length) = false := decide_eq_false (by omega)
    clear hk
    go_enter Try.func32, Try.ntmps32
    go_wp2
    go_loopw [10] (fun i wr => ∃ j : Nat, i = .int .i64 (j : Int) ∧ j ≤ l.length ∧ (∀ x ∈ l.take j, 0 ≤ x ∧ x ≤ 1048576) ∧ wr = w) (fun i _ => l.length - (intOf i).toNat)
    case atStart => exact ⟨0, rfl, by omega, fun x hx => by simp at hx, rfl⟩
    case round =>
      obtain ⟨j, rfl, hj, hall, rfl⟩ := hrel
      have HA := Lib.hid hall
      clear hall
      by_cases hjl : j < l.length
      · obtain ⟨x, hx⟩ : ∃ x, l[j]? = some x := ⟨_, List.getElem?_eq_getElem hjl⟩
        obtain ⟨b, o, hq, hcell⟩ := HK.out.at hx
        have HX := Lib.hid hx
        subst hq
        clear hx
        by_cases hx0 : x < 0
        · have e1 : decide (x < 0) = true := decide_eq_true hx0
          go_wp2
          go_ret
          exact ⟨⟨false, rfl, fun h => (by cases h), fun h => by have := (HR.out.1 h).2 x (List.mem_of_getElem? HX.out); omega⟩, rfl⟩
        · have e1 : decide (x < 0) = false := decide_eq_false hx0
          by_cases hx1 : 1048576 < x
          · have e2 : decide (1048576 < x) = true := decide_eq_true hx1
            go_wp2
            go_ret
            exact ⟨⟨false, rfl, fun h => (by cases h), fun h => by have := (HR.out.1 h).2 x (List.mem_of_getElem? HX.out); omega⟩, rfl⟩
          · have e2 : decide (1048576 < x) = false := decide_eq_false hx1
            go_wp2
            go_roundw
            case rel =>
              refine ⟨j + 1, by go_num, by omega, ?_, trivial⟩
              intro y hy
              rw [List.take_add_one, HX.out] at hy
              rcases List.mem_append.1 hy with hy | hy
              · exact HA.out y hy
              · simp at hy
                subst hy
                omega
            case measure => simp [intOf]; omega
      · obtain rfl : j = l.length := by omega
        go_wp2
        go_ret
        refine ⟨⟨true, rfl, fun _ => HR.out.2 ⟨hl, fun x hx => HA.out x (by simpa using hx)⟩, fun _ => rfl⟩, rfl⟩
  · have d1 : decide ((4096 : Int) < l.length) = true := decide_eq_true (by omega)
    clear hk
    go_enter Try.func32, Try.ntmps32
    go_wp2
    go_ret
    exact ⟨⟨false, rfl, fun h => (by cases h), fun h => absurd (HR.out.1 h).1 hl⟩, rfl⟩

/-- Whether parts are so many together. -/
def withinS : Int → List Int → Bool
  | _, [] => true
  | left, p :: l => if p < 0 ∨ left < p then false else withinS (left - p) l
theorem within_step {v x : Int} {l : List Int} (h1 : 0 ≤ x) (h2 : x ≤ v) : withinS v (x :: l) = withinS (v - x) l := by
  conv => lhs; unfold withinS
  rw [if_neg (by omega)]
def fitsS (a b more most : Int) : Bool := decide (0 ≤ a ∧ 0 ≤ b ∧ 0 ≤ more ∧ a + b + more ≤ most)
theorem within_fits (a b more most : Int) : withinS most [a, b, more] = fitsS a b more most := by
  unfold fitsS
  by_cases h : 0 ≤ a ∧ 0 ≤ b ∧ 0 ≤ more ∧ a + b + more ≤ most
  · rw [decide_eq_true h]
    simp only [withinS]
    rw [if_neg (by omega), if_neg (by omega), if_neg (by omega)]
  · rw [decide_eq_false h]
    simp only [withinS]
    split
    · rfl
    · split
      · rfl
      · split
        · rfl
        · omega

set_option maxHeartbeats 800000 in
theorem within_any {w : World} {q : Option Addr} {m c : Nat} {l : List Int} (h : KsOk w q m c l) (n : Int) (hn : n ≤ 9223372036854775807) (hn2 : -9223372036854775808 ≤ n) :
    Calls Try.prog 36 #[.int .i64 n, .slice q m c] w fun e w' => e = .returned (.bool (withinS n l)) ∧ w' = w := by
  obtain ⟨rfl, h1, h2, hk⟩ := h
  have HK := Lib.hid hk
  obtain ⟨R, hR⟩ : ∃ R, R = withinS n l := ⟨_, rfl⟩
  have HR := Lib.hid hR
  rw [← hR]
  clear hR hk
  have hl2 : l.length ≤ 9223372036854775807 := by omega
  go_enter Try.func36, Try.ntmps36
  go_wp2
  go_loopw [0, 9] (fun x i wr => ∃ (j : Nat) (v : Int), x = .int .i64 v ∧ i = .int .i64 (j : Int) ∧ j ≤ l.length ∧ v ≤ 9223372036854775807 ∧ -9223372036854775808 ≤ v ∧ R = withinS v (l.drop j) ∧ wr = w) (fun _ i _ => l.length - (intOf i).toNat)
  case atStart => exact ⟨0, n, rfl, rfl, by omega, hn, hn2, HR.out, rfl⟩
  case round =>
    clear HR
    obtain ⟨j, v, rfl, rfl, hj, hv, hv2, hr, rfl⟩ := hrel
    by_cases hjl : j < l.length
    · obtain ⟨x, hx⟩ : ∃ x, l[j]? = some x := ⟨_, List.getElem?_eq_getElem hjl⟩
      obtain ⟨b, o, hq, hcell⟩ := HK.out.at hx
      rw [drop_get hx] at hr
      have HR := Lib.hid hr
      subst hq
      clear hx hr
      by_cases hx0 : x < 0
      · have e1 : decide (x < 0) = true := decide_eq_true hx0
        have e3 : R = false := by rw [HR.out]; unfold withinS; rw [if_pos (.inl hx0)]
        go_wp2
        go_ret
        exact ⟨by first | rfl | (rw [e3]; rfl), rfl⟩
      · have e1 : decide (x < 0) = false := decide_eq_false hx0
        by_cases hx1 : v < x
        · have e2 : decide (v < x) = true := decide_eq_true hx1
          have e3 : R = false := by rw [HR.out]; unfold withinS; rw [if_pos (.inr hx1)]
          go_wp2
          go_ret
          exact ⟨by first | rfl | (rw [e3]; rfl), rfl⟩
        · have e2 : decide (v < x) = false := decide_eq_false hx1
          have e3 : Hid (R = withinS (v - x) (l.drop (j + 1))) := Lib.hid (HR.out.trans (within_step (by omega) (by omega)))
          go_wp2
          go_roundw
          case rel => exact ⟨j + 1, v - x, by go_num, by go_num, by omega, by omega, by omega, e3.out, trivial⟩
          case measure => simp [intOf]; omega
    · obtain rfl : j = l.length := by omega
      rw [List.drop_eq_nil_of_le (Nat.le_refl _)] at hr
      have e3 : R = true := by rw [hr]; rfl
      clear hr
      go_wp2
      go_ret
      exact ⟨by first | rfl | (rw [e3]; rfl), rfl⟩

end Go.Proofs.Ytigmibmebockhaa
