/-
  The reference's Cut, Fits, Poor: contracts.
-/
import Derived.Test.YtigmibmebockhaaShFits
set_option linter.unusedVariables false
set_option maxRecDepth 100000
namespace Go.Proofs.Ytigmibmebockhaa
open Go.RowKit

set_option maxHeartbeats 800000 in
theorem rpoor_any {w : World} (a most : Int) (hm : I64 most) : Calls Try.prog 22 #[.int .i64 a, .int .i64 most] w (YesPost w (poorS a most)) := by
  obtain ⟨m1, m2⟩ := hm
  have HP : Hid (poorS a most = decide (0 ≤ a ∧ 0 < most ∧ 4 * a < most)) := Lib.hid rfl
  generalize poorS a most = B at *
  by_cases h0 : 0 ≤ a
  · by_cases h1 : 0 < most
    · have e0 : decide (0 ≤ a) = true := decide_eq_true h0
      have e1 : decide (0 < most) = true := decide_eq_true h1
      have hq : (most - 1).tdiv 4 = (most - 1) / 4 := Int.tdiv_eq_ediv_of_nonneg (by omega)
      have e2 : Hid (decide (a ≤ (most - 1) / 4) = B) := Lib.hid (by rw [HP.out]; exact decide_eq_decide.2 (by omega))
      go_enter Try.func22, Try.ntmps22
      go_wp2
      go_ret
      exact ⟨by rw [← e2.out]; rfl, Below.refl _ _⟩
    · have e0 : decide (0 ≤ a) = true := decide_eq_true h0
      have e1 : decide (0 < most) = false := decide_eq_false h1
      have e2 : false = B := by rw [HP.out]; exact (decide_eq_false (by omega)).symm
      subst e2
      go_enter Try.func22, Try.ntmps22
      go_wp2
      go_ret
      exact ⟨rfl, Below.refl _ _⟩
  · have e0 : decide (0 ≤ a) = false := decide_eq_false h0
    have e2 : false = B := by rw [HP.out]; exact (decide_eq_false (by omega)).symm
    subst e2
    go_enter Try.func22, Try.ntmps22
    go_wp2
    go_ret
    exact ⟨rfl, Below.refl _ _⟩

set_option maxHeartbeats 1600000 in
theorem rfits_any {w : World} (a b more most : Int) (ha : I64 a) (hb : I64 b) (hm : I64 most) : Calls Try.prog 20 #[.int .i64 a, .int .i64 b, .int .i64 more, .int .i64 most] w (YesPost w (fitsS a b more most)) := by
  obtain ⟨m1, m2⟩ := hm
  obtain ⟨a1, a2⟩ := ha
  obtain ⟨b1, b2⟩ := hb
  have HP : Hid (fitsS a b more most = decide (0 ≤ a ∧ 0 ≤ b ∧ 0 ≤ more ∧ a + b + more ≤ most)) := Lib.hid rfl
  generalize fitsS a b more most = B at *
  by_cases h0 : 0 ≤ a ∧ 0 ≤ b ∧ 0 ≤ more ∧ 0 ≤ most
  · obtain ⟨h1, h2, h3, h4⟩ := h0
    have e1 : decide (a < 0) = false := decide_eq_false (by omega)
    have e2 : decide (b < 0) = false := decide_eq_false (by omega)
    have e3 : decide (more < 0) = false := decide_eq_false (by omega)
    have e4 : decide (most < 0) = false := decide_eq_false (by omega)
    by_cases h5 : most < a
    · have e5 : decide (most < a) = true := decide_eq_true h5
      have e6 : false = B := by rw [HP.out]; exact (decide_eq_false (by omega)).symm
      subst e6
      go_enter Try.func20, Try.ntmps20
      go_wp2
      go_ret
      exact ⟨rfl, Below.refl _ _⟩
    · have e5 : decide (most < a) = false := decide_eq_false h5
      by_cases h6 : most - a < b
      · have e7 : decide (most - a < b) = true := decide_eq_true h6
        have e6 : false = B := by rw [HP.out]; exact (decide_eq_false (by omega)).symm
        subst e6
        go_enter Try.func20, Try.ntmps20
        go_wp2
        go_ret
        exact ⟨rfl, Below.refl _ _⟩
      · have e7 : decide (most - a < b) = false := decide_eq_false h6
        have e6 : Hid (decide (more ≤ most - a - b) = B) := Lib.hid (by rw [HP.out]; exact decide_eq_decide.2 (by omega))
        go_enter Try.func20, Try.ntmps20
        go_wp2
        go_ret
        exact ⟨by rw [← e6.out]; rfl, Below.refl _ _⟩
  · have e6 : false = B := by rw [HP.out]; exact (decide_eq_false (by omega)).symm
    subst e6
    have hw : ∀ x : Int, x < 0 ∨ 0 ≤ x := fun x => by omega
    rcases hw a with h1 | h1
    · have e1 : decide (a < 0) = true := decide_eq_true h1
      clear hw h0
      go_enter Try.func20, Try.ntmps20
      go_wp2
      go_ret
      exact ⟨rfl, Below.refl _ _⟩
    · have e1 : decide (a < 0) = false := decide_eq_false (by omega)
      rcases hw b with h2 | h2
      · have e2 : decide (b < 0) = true := decide_eq_true h2
        clear hw h0
        go_enter Try.func20, Try.ntmps20
        go_wp2
        go_ret
        exact ⟨rfl, Below.refl _ _⟩
      · have e2 : decide (b < 0) = false := decide_eq_false (by omega)
        rcases hw more with h3 | h3
        · have e3 : decide (more < 0) = true := decide_eq_true h3
          clear hw h0
          go_enter Try.func20, Try.ntmps20
          go_wp2
          go_ret
          exact ⟨rfl, Below.refl _ _⟩
        · have e3 : decide (more < 0) = false := decide_eq_false (by omega)
          have h4 : most < 0 := by omega
          have e4 : decide (most < 0) = true := decide_eq_true h4
          clear hw h0
          go_enter Try.func20, Try.ntmps20
          go_wp2
          go_ret
          exact ⟨rfl, Below.refl _ _⟩

set_option maxHeartbeats 800000 in
theorem rsum_any {w : World} {q : Option Addr} {m c : Nat} {l : List Int} (h : KsOk w q m c l) (hb : ∀ x ∈ l, 0 ≤ x ∧ x ≤ 8589934592) (hl : l.length ≤ 4096) :
    Calls Try.prog 35 #[.slice q m c] w fun e w' => e = .returned (.int .i64 l.sum) ∧ w' = w := by
  obtain ⟨rfl, h1, h2, hk⟩ := h
  have HK := Lib.hid hk
  have HB := Lib.hid hb
  have hl2 : l.length < 9223372036854775808 := by omega
  clear hk hb
  go_enter Try.func35, Try.ntmps35
  go_wp2
  go_loopw [3, 4] (fun x i wr => ∃ j : Nat, x = .int .i64 (shP l j) ∧ i = .int .i64 (j : Int) ∧ j ≤ l.length ∧ wr = w) (fun _ i _ => l.length - (intOf i).toNat)
  case atStart => exact ⟨0, by rw [shP_zero], rfl, by omega, rfl⟩
  case round =>
    obtain ⟨j, rfl, rfl, hj, rfl⟩ := hrel
    by_cases hjl : j < l.length
    · obtain ⟨x, hx⟩ : ∃ x, l[j]? = some x := ⟨_, List.getElem?_eq_getElem hjl⟩
      obtain ⟨b, o, hq, hcell⟩ := HK.out.at hx
      have hs := Lib.hid (shP_succ hx)
      have hx1 := HB.out x (List.mem_of_getElem? hx)
      have hp := shP_bounds HB.out (by omega) j
      subst hq
      clear hx
      generalize shP l j = p at *
      go_wp2
      go_roundw
      case rel => exact ⟨j + 1, by rw [hs.out], by go_num, by omega, trivial⟩
      case measure => (first | (simp [intOf]; omega) | simp [intOf])
    · obtain rfl : j = l.length := by omega
      have hs : Hid (shP l l.length = l.sum) := Lib.hid (by simp [shP])
      generalize shP l l.length = p at *
      go_wp2
      go_ret
      exact ⟨by rw [← hs.out]; rfl, rfl⟩

theorem KsOk.take {w : World} {q : Option Addr} {m c : Nat} {l : List Int} (h : KsOk w q m c l) {k : Nat} (hk : k ≤ m) : KsOk w q k c (l.take k) := by
  obtain ⟨rfl, h1, h2, h3⟩ := h
  refine ⟨by rw [List.length_take]; omega, by omega, h2, fun hne => ?_⟩
  obtain ⟨b, o, hq, hc⟩ := h3 (by intro e; subst e; simp at hne)
  refine ⟨b, o, hq, fun i x hx => hc i x ?_⟩
  rw [List.getElem?_take] at hx
  split at hx
  · exact hx
  · cases hx
theorem KsOk.drop {w : World} {b o m c : Nat} {l : List Int} (h : KsOk w (some ⟨b, o, none⟩) m c l) {k : Nat} (hk : k ≤ m) : KsOk w (some ⟨b, o + k, none⟩) (m - k) (c - k) (l.drop k) := by
  obtain ⟨rfl, h1, h2, h3⟩ := h
  refine ⟨by rw [List.length_drop], by omega, by omega, fun hne => ?_⟩
  obtain ⟨b', o', hq, hc⟩ := h3 (by intro e; subst e; simp at hne)
  cases hq
  refine ⟨b, o + k, rfl, fun i x hx => ?_⟩
  rw [List.getElem?_drop] at hx
  rw [Nat.add_assoc]
  exact hc _ x hx

theorem shG_of (l : List Int) (k : Nat) : (shP l k < shQ l k → shG l k = shQ l k - shP l k) ∧ (shQ l k ≤ shP l k → shG l k = shP l k - shQ l k) := by
  unfold shG
  constructor <;> intro h <;> split <;> omega
set_option maxHeartbeats 3200000 in
theorem rcut_any {w : World} {q : Option Addr} {m c : Nat} {l : List Int} (h : KsOk w q m c l) (most : Int) :
    Calls Try.prog 18 #[.slice q m c, .int .i64 most] w (CutPost w l most) := by
  have HBAD : Hid (∀ w', (most < 0 ∨ ¬ shRight l) → Below w.heap.size w w' → CutPost w l most (.returned (.tuple #[.int .i64 0, .bool false])) w') := Lib.hid fun w' h1 h2 => ⟨0, false, rfl, ⟨fun h3 => by rcases h1 with h1 | h1; omega; exact absurd h3.2 h1, fun _ => ⟨rfl, rfl⟩⟩, h2⟩
  have HK := Lib.hid h
  have HR := Lib.hid (shRight_any l)
  obtain ⟨rfl, hc1, hc2, hk⟩ := h
  clear hk
  by_cases h0 : most < 0
  · have e0 : decide (most < 0) = true := decide_eq_true h0
    go_enter Try.func18, Try.ntmps18
    go_wp2
    go_ret2
    exact HBAD.out _ (.inl h0) (Below.refl _ _)
  · have e0 : decide (most < 0) = false := decide_eq_false h0
    by_cases hl : l.length ≤ 4096
    · have d1 : decide ((4096 : Int) < l.length) = false := decide_eq_false (by omega)
      go_enter Try.func18, Try.ntmps18
      go_wp2
      go_loopw [6] (fun i wr => ∃ j : Nat, i = .int .i64 (j : Int) ∧ j ≤ l.length ∧ (∀ x ∈ l.take j, 0 ≤ x ∧ x ≤ 1048576) ∧ wr = w) (fun i _ => l.length - (intOf i).toNat)
      case atStart => exact ⟨0, rfl, by omega, fun x hx => by simp at hx, rfl⟩
      case round =>
        obtain ⟨j, rfl, hj, hall, rfl⟩ := hrel
        have HA := Lib.hid hall
        clear hall
        by_cases hjl : j < l.length
        · obtain ⟨x, hx⟩ : ∃ x, l[j]? = some x := ⟨_, List.getElem?_eq_getElem hjl⟩
          obtain ⟨b, o, hq, hcell⟩ := HK.out.hl.at hx
          have HX := Lib.hid hx
          subst hq
          clear hx
          by_cases hx0 : x < 0
          · have e1 : decide (x < 0) = true := decide_eq_true hx0
            go_wp2
            go_ret2
            exact HBAD.out _ (.inr fun h => by have := (HR.out.1 h).2 x (List.mem_of_getElem? HX.out); omega) (Below.refl _ _)
          · have e1 : decide (x < 0) = false := decide_eq_false hx0
            by_cases hx1 : 1048576 < x
            · have e2 : decide (1048576 < x) = true := decide_eq_true hx1
              go_wp2
              go_ret2
              exact HBAD.out _ (.inr fun h => by have := (HR.out.1 h).2 x (List.mem_of_getElem? HX.out); omega) (Below.refl _ _)
            · have e2 : decide (1048576 < x) = false := decide_eq_false hx1
              go_wp2
              go_roundw
              case rel =>
                refine ⟨j + 1, by go_num, by omega, ?_, trivial⟩
                intro y hy
                rw [List.take_add_one, HX.out] at hy
                rcases List.mem_append.1 hy with hy | hy
                · exact HA.out y hy
                · simp at hy
                  subst hy
                  omega
              case measure => (first | (simp [intOf]; omega) | simp [intOf])
        · obtain rfl : j = l.length := by omega
          have HALL : Hid (∀ x ∈ l, 0 ≤ x ∧ x ≤ 1048576) := Lib.hid fun x hx => HA.out x (by simpa using hx)
          clear HA HBAD HR
          have HSL : Hid (∀ k, 0 ≤ shP l k ∧ shP l k ≤ 4294967296) := Lib.hid fun k => by have := shP_bounds HALL.out (by omega) k; omega
          have HSQ : Hid (∀ k, 0 ≤ shQ l k ∧ shQ l k ≤ 4294967296) := Lib.hid fun k => by have := shQ_bounds HALL.out (by omega) k; omega
          go_wp2
          go_loopw [7, 8, 9] (fun x8 x9 x12 w' => ∃ (k b : Nat) (d : Int) (f : Bool), x12 = .int .i64 ((k + 1 : Nat) : Int) ∧ x8 = .int .i64 (b : Int) ∧ x9 = .int .i64 d ∧ (k = 0 ∨ k < l.length) ∧ ShBest l most (k + 1) b d f ∧ w' = wr) (fun _ _ i _ => l.length + 1 - (intOf i).toNat)
          case atStart => exact ⟨0, 0, 0, false, rfl, rfl, rfl, .inl rfl, ShBest.one l most, rfl⟩
          case round =>
            obtain ⟨k, b, d, f, rfl, rfl, rfl, hk, hbest, rfl⟩ := hrel
            have HBEST := Lib.hid hbest
            clear hbest
            have hk1 : (((k + 1 : Nat) : Int)) = (k : Int) + 1 := by omega
            by_cases hkl : k + 1 < l.length
            · obtain ⟨x, hx⟩ : ∃ x, l[k]? = some x := ⟨_, List.getElem?_eq_getElem (by omega)⟩
              obtain ⟨bx, ox, hq, _⟩ := HK.out.hl.at hx
              clear hx
              subst hq
              have hp := HSL.out (k + 1)
              have hqq := HSQ.out (k + 1)
              have hall8 : ∀ x ∈ l, 0 ≤ x ∧ x ≤ 8589934592 := fun x hx => by have := HALL.out x hx; omega
              have HS1 := Lib.hid (rsum_any (HK.out.take (k := k + 1) (by omega)) (fun x hx => hall8 x (List.mem_of_mem_take hx)) (by rw [List.length_take]; omega))
              have HS2 := Lib.hid (rsum_any (HK.out.drop (k := k + 1) (by omega)) (fun x hx => hall8 x (List.mem_of_mem_drop hx)) (by rw [List.length_drop]; omega))
              rw [show (l.take (k + 1)).sum = shP l (k + 1) from rfl] at HS1
              rw [show (l.drop (k + 1)).sum = shQ l (k + 1) from rfl] at HS2
              have HG := Lib.hid (shG_of l (k + 1))
              have HF : Hid (ShFit l most (k + 1) ↔ shP l (k + 1) ≤ most ∧ shQ l (k + 1) ≤ most) := Lib.hid Iff.rfl
              have HT : Hid (∀ g, g = shG l (k + 1) → ShFit l most (k + 1) → (f = false ∨ g < d) → ShBest l most (k + 1 + 1) (k + 1) g true) := Lib.hid fun g hg h1 h2 => by
                subst hg
                exact HBEST.out.take (by omega) h1 h2
              have HSK : Hid (∀ g, g = shG l (k + 1) → (¬ ShFit l most (k + 1) ∨ (f = true ∧ d ≤ g)) → ShBest l most (k + 1 + 1) b d f) := Lib.hid fun g hg h2 => by
                subst hg
                exact HBEST.out.skip h2
              have HBF : Hid ((f = false → b = 0) ∧ (f = true → 1 ≤ b)) := Lib.hid ⟨fun h => (HBEST.out.no h).1, fun h => (HBEST.out.yes h).1⟩
              clear hall8
              generalize shP l (k + 1) = p at *
              generalize shQ l (k + 1) = q at *
              rcases Int.lt_or_le p q with hs | hs
              · have e5 : decide (p - q < 0) = true := decide_eq_true (by omega)
                by_cases hpm : p ≤ most
                · have e6 : decide (p ≤ most) = true := decide_eq_true hpm
                  by_cases hqm : q ≤ most
                  · have e7 : decide (q ≤ most) = true := decide_eq_true hqm
                    cases f
                    · obtain rfl : b = 0 := HBF.out.1 rfl
                      go_wp2_with fail
                      refine HS1.out.mono ?_
                      rintro e w3 ⟨rfl, rfl⟩
                      go_wp2_with fail
                      refine HS2.out.mono ?_
                      rintro e w3 ⟨rfl, rfl⟩
                      go_wp2
                      go_roundw
                      case rel => exact ⟨k + 1, k + 1, _, true, by go_num, by go_num, rfl, .inr hkl, HT.out _ (by have := HG.out.1 hs; omega) (HF.out.2 ⟨hpm, hqm⟩) (by simp), trivial⟩
                      case measure => (first | (simp [intOf]; omega) | simp [intOf])
                    · have hb1 : 1 ≤ b := HBF.out.2 rfl
                      have e8 : ((b : Int) == 0) = false := by simp; omega
                      have e8' : (b == 0) = false := by simp; omega
                      by_cases hlt : q - p < d
                      · have e9 : decide (q - p < d) = true := decide_eq_true hlt
                        go_wp2_with fail
                        refine HS1.out.mono ?_
                        rintro e w3 ⟨rfl, rfl⟩
                        go_wp2_with fail
                        refine HS2.out.mono ?_
                        rintro e w3 ⟨rfl, rfl⟩
                        go_wp2
                        go_roundw
                        case rel => exact ⟨k + 1, k + 1, _, true, by go_num, by go_num, rfl, .inr hkl, HT.out _ (by have := HG.out.1 hs; omega) (HF.out.2 ⟨hpm, hqm⟩) (.inr (by omega)), trivial⟩
                        case measure => (first | (simp [intOf]; omega) | simp [intOf])
                      · have e9 : decide (q - p < d) = false := decide_eq_false hlt
                        have hskip : ¬ ShFit l most (k + 1) ∨ (true = true ∧ d ≤ shG l (k + 1)) := .inr ⟨rfl, by have := HG.out.1 hs; omega⟩
                        replace hskip := Lib.hid hskip
                        go_wp2_with fail
                        refine HS1.out.mono ?_
                        rintro e w3 ⟨rfl, rfl⟩
                        go_wp2_with fail
                        refine HS2.out.mono ?_
                        rintro e w3 ⟨rfl, rfl⟩
                        go_wp2
                        go_roundw
                        case rel => exact ⟨k + 1, b, d, _, by go_num, rfl, rfl, .inr hkl, HSK.out _ rfl hskip.out, trivial⟩
                        case measure => (first | (simp [intOf]; omega) | simp [intOf])
                  · have e7 : decide (q ≤ most) = false := decide_eq_false hqm
                    have hskip := Lib.hid (show ¬ ShFit l most (k + 1) ∨ (f = true ∧ d ≤ shG l (k + 1)) from .inl fun h => hqm (HF.out.1 h).2)
                    go_wp2_with fail
                    refine HS1.out.mono ?_
                    rintro e w3 ⟨rfl, rfl⟩
                    go_wp2_with fail
                    refine HS2.out.mono ?_
                    rintro e w3 ⟨rfl, rfl⟩
                    go_wp2
                    go_roundw
                    case rel => exact ⟨k + 1, b, d, _, by go_num, rfl, rfl, .inr hkl, HSK.out _ rfl hskip.out, trivial⟩
                    case measure => (first | (simp [intOf]; omega) | simp [intOf])
                · have e6 : decide (p ≤ most) = false := decide_eq_false hpm
                  have hskip := Lib.hid (show ¬ ShFit l most (k + 1) ∨ (f = true ∧ d ≤ shG l (k + 1)) from .inl fun h => hpm (HF.out.1 h).1)
                  go_wp2_with fail
                  refine HS1.out.mono ?_
                  rintro e w3 ⟨rfl, rfl⟩
                  go_wp2_with fail
                  refine HS2.out.mono ?_
                  rintro e w3 ⟨rfl, rfl⟩
                  go_wp2
                  go_roundw
                  case rel => exact ⟨k + 1, b, d, _, by go_num, rfl, rfl, .inr hkl, HSK.out _ rfl hskip.out, trivial⟩
                  case measure => (first | (simp [intOf]; omega) | simp [intOf])
              · have e5 : decide (p - q < 0) = false := decide_eq_false (by omega)
                by_cases hpm : p ≤ most
                · have e6 : decide (p ≤ most) = true := decide_eq_true hpm
                  by_cases hqm : q ≤ most
                  · have e7 : decide (q ≤ most) = true := decide_eq_true hqm
                    cases f
                    · obtain rfl : b = 0 := HBF.out.1 rfl
                      go_wp2_with fail
                      refine HS1.out.mono ?_
                      rintro e w3 ⟨rfl, rfl⟩
                      go_wp2_with fail
                      refine HS2.out.mono ?_
                      rintro e w3 ⟨rfl, rfl⟩
                      go_wp2
                      go_roundw
                      case rel => exact ⟨k + 1, k + 1, _, true, by go_num, by go_num, rfl, .inr hkl, HT.out _ (by have := HG.out.2 hs; omega) (HF.out.2 ⟨hpm, hqm⟩) (by simp), trivial⟩
                      case measure => (first | (simp [intOf]; omega) | simp [intOf])
                    · have hb1 : 1 ≤ b := HBF.out.2 rfl
                      have e8 : ((b : Int) == 0) = false := by simp; omega
                      have e8' : (b == 0) = false := by simp; omega
                      by_cases hlt : p - q < d
                      · have e9 : decide (p - q < d) = true := decide_eq_true hlt
                        go_wp2_with fail
                        refine HS1.out.mono ?_
                        rintro e w3 ⟨rfl, rfl⟩
                        go_wp2_with fail
                        refine HS2.out.mono ?_
                        rintro e w3 ⟨rfl, rfl⟩
                        go_wp2
                        go_roundw
                        case rel => exact ⟨k + 1, k + 1, _, true, by go_num, by go_num, rfl, .inr hkl, HT.out _ (by have := HG.out.2 hs; omega) (HF.out.2 ⟨hpm, hqm⟩) (.inr (by omega)), trivial⟩
                        case measure => (first | (simp [intOf]; omega) | simp [intOf])
                      · have e9 : decide (p - q < d) = false := decide_eq_false hlt
                        have hskip : ¬ ShFit l most (k + 1) ∨ (true = true ∧ d ≤ shG l (k + 1)) := .inr ⟨rfl, by have := HG.out.2 hs; omega⟩
                        replace hskip := Lib.hid hskip
                        go_wp2_with fail
                        refine HS1.out.mono ?_
                        rintro e w3 ⟨rfl, rfl⟩
                        go_wp2_with fail
                        refine HS2.out.mono ?_
                        rintro e w3 ⟨rfl, rfl⟩
                        go_wp2
                        go_roundw
                        case rel => exact ⟨k + 1, b, d, _, by go_num, rfl, rfl, .inr hkl, HSK.out _ rfl hskip.out, trivial⟩
                        case measure => (first | (simp [intOf]; omega) | simp [intOf])
                  · exfalso
                    omega
                · have e6 : decide (p ≤ most) = false := decide_eq_false hpm
                  have hskip := Lib.hid (show ¬ ShFit l most (k + 1) ∨ (f = true ∧ d ≤ shG l (k + 1)) from .inl fun h => hpm (HF.out.1 h).1)
                  go_wp2_with fail
                  refine HS1.out.mono ?_
                  rintro e w3 ⟨rfl, rfl⟩
                  go_wp2_with fail
                  refine HS2.out.mono ?_
                  rintro e w3 ⟨rfl, rfl⟩
                  go_wp2
                  go_roundw
                  case rel => exact ⟨k + 1, b, d, _, by go_num, rfl, rfl, .inr hkl, HSK.out _ rfl hskip.out, trivial⟩
                  case measure => (first | (simp [intOf]; omega) | simp [intOf])
            · have HEND : Hid (CutPost wr l most (.returned (.tuple #[.int .i64 (b : Int), .bool f])) wr) := Lib.hid (by
                refine ⟨b, f, rfl, ⟨fun _ => ⟨d, ?_⟩, fun h => absurd ⟨h0, hl, HALL.out⟩ h⟩, Below.refl _ _⟩
                have h1 := HBEST.out
                rcases hk with rfl | hk
                · rcases Nat.eq_zero_or_pos l.length with h2 | h2
                  · rw [h2]; exact h1.zero
                  · obtain h3 : l.length = 1 := by omega
                    rw [h3]; exact h1
                · obtain h3 : l.length = k + 1 := by omega
                  rw [h3]; exact h1)
              have HBF : Hid ((f = false → b = 0) ∧ (f = true → 1 ≤ b)) := Lib.hid ⟨fun h => (HBEST.out.no h).1, fun h => (HBEST.out.yes h).1⟩
              cases f
              · obtain rfl : b = 0 := HBF.out.1 rfl
                go_wp2
                go_ret2
                exact HEND.out
              · have hb1 : 1 ≤ b := HBF.out.2 rfl
                have e8 : decide ((0 : Int) < (b : Int)) = true := decide_eq_true (by omega)
                have e8' : decide (0 < b) = true := decide_eq_true (by omega)
                go_wp2
                go_ret2
                exact HEND.out
    · have d1 : decide ((4096 : Int) < l.length) = true := decide_eq_true (by omega)
      go_enter Try.func18, Try.ntmps18
      go_wp2
      go_ret2
      exact HBAD.out _ (.inr fun h => hl (HR.out.1 h).1) (Below.refl _ _)

end Go.Proofs.Ytigmibmebockhaa
