/-
  record.Set's comparison, slices.BinarySearchFunc, appendProps: contracts for the walks.
-/
import Derived.Test.YtekaedafhiddeaaRSetP
import Derived.Test.YtekaedafhiddeaaRApart
import Derived.Test.YtekaedafhiddeaaRRight
import Derived.Test.YtekaedafhiddeaaVCmp
set_option linter.unusedVariables false
set_option maxRecDepth 100000
namespace Go.Proofs.Ytekaedafhiddeaa
open Go.RowKit

set_option maxHeartbeats 800000 in
theorem cmpName_any {w : World} (p : Pr) (s : ByteArray) : Calls Try.prog 41 #[p.cell, .string s] w fun e w' => e = .returned (.int .i64 (cmpS p.n s)) ∧ Below w.heap.size w w' := by
  have hst := store_flt
  have HC := Lib.hid (fun w => cmpStr_any (w := w) p.n s)
  generalize cmpS p.n s = r at *
  show Calls Try.prog _ #[.agg #[.string p.n, .int .i64 p.v.a.k, .int .i64 p.v.a.n, .float .f64 p.v.a.f, .string p.v.a.s, .slice p.v.q p.v.m p.v.c], .string s] w _
  go_enter Try.func41, Try.ntmps41
  go_wp2_with fail
  refine (HC.out _).mono ?_; rintro e w' ⟨rfl, rfl⟩
  go_wp2
  go_ret
  exact ⟨rfl, box_below (Below.refl _ _)⟩

theorem inc_lo {l : List Pc} (h : Inc l) {n : ByteArray} {k : Nat} {x : Pc} (hx : l[k]? = some x) (hc : cmpS x.n n < 0) : ∀ p ∈ l.take (k + 1), cmpS p.n n < 0 := by
  obtain ⟨hk, rfl⟩ := List.getElem?_eq_some_iff.1 hx
  intro p hp
  rw [List.take_succ_eq_append_getElem hk, List.mem_append] at hp
  rcases hp with hp | hp
  · obtain ⟨i, hi, rfl⟩ := List.mem_iff_getElem.1 hp
    rw [List.length_take] at hi
    rw [List.getElem_take]
    exact cmpS_tr (List.pairwise_iff_getElem.1 h i k (by omega) hk (by omega)) hc
  · obtain rfl := List.mem_singleton.1 hp
    exact hc
theorem inc_hi {l : List Pc} (h : Inc l) {n : ByteArray} {k : Nat} {x : Pc} (hx : l[k]? = some x) (hc : 0 ≤ cmpS x.n n) : ∀ p ∈ l.drop k, 0 ≤ cmpS p.n n := by
  obtain ⟨hk, rfl⟩ := List.getElem?_eq_some_iff.1 hx
  intro p hp
  obtain ⟨i, hi, rfl⟩ := List.mem_iff_getElem.1 hp
  rw [List.getElem_drop]
  rcases Nat.eq_zero_or_pos i with h0 | h0
  · subst h0
    exact hc
  · have hki : k + i < l.length := by rw [List.length_drop] at hi; omega
    have h1 := List.pairwise_iff_getElem.1 h k (k + i) hk hki (by omega)
    have h2 := IsCmp.str.tr n l[k].n l[k + i].n (by have := cmpS_anti l[k].n n; omega) (by omega)
    have := cmpS_anti l[k + i].n n
    omega

/-- Where a name stands, or would. -/
structure At1 (l : List Pc) (n : ByteArray) (k : Nat) (b : Bool) : Prop where
  le : k ≤ l.length
  lo : ∀ p ∈ l.take k, cmpS p.n n < 0
  hi : ∀ p ∈ l.drop k, 0 ≤ cmpS p.n n
  eq : b = true ↔ ∃ p, l[k]? = some p ∧ cmpS p.n n = 0
def BsPost (w : World) (l : List Pc) (n : ByteArray) (e : Ending) (w' : World) : Prop := ∃ (k : Nat) (b : Bool), e = .returned (.tuple #[.int .i64 (k : Int), .bool b]) ∧ At1 l n k b ∧ Below w.heap.size w w'

set_option maxHeartbeats 3200000 in
theorem bsearch_any {w : World} {q : Option Addr} {m c : Nat} {l : List Pr} (h : PsOk w q m c l) (h16 : m ≤ 16) (hinc : Inc (l.map Pr.c)) (n : ByteArray) :
    Calls Try.prog 40 #[.slice q m c, .string n, .func (.func 41) #[] #[]] w (BsPost w (l.map Pr.c) n) := by
  have hst := store_flt
  have eg : ∀ args (w : World), (callFunc 41 args).run Try.prog w = .ok (.enter 41 args) w := fun _ _ => rfl
  obtain ⟨hn, h1, h2, _, hl⟩ := h
  have HN := Lib.hid hn
  have HL := Lib.hid hl
  have HI := Lib.hid hinc
  clear hn hl hinc
  go_enter Try.func40, Try.ntmps40
  go_wp2
  go_loopw [9, 10] (fun x y wr => ∃ a b : Nat, x = .int .i64 a ∧ y = .int .i64 b ∧ a ≤ b ∧ b ≤ m ∧ (∀ p ∈ (l.map Pr.c).take a, cmpS p.n n < 0) ∧ (∀ p ∈ (l.map Pr.c).drop b, 0 ≤ cmpS p.n n) ∧ Below w.heap.size w wr) (fun x y _ => (intOf y).toNat - (intOf x).toNat)
  case atStart => exact ⟨0, m, rfl, rfl, by omega, by omega, by simp, by rw [List.drop_eq_nil_of_le (by rw [List.length_map, HN.out]; omega)]; simp, Below.refl _ _⟩
  case round =>
    obtain ⟨a, b, rfl, rfl, hab, hbm, hlo, hhi, hb⟩ := hrel
    have HLO := Lib.hid hlo
    have HHI := Lib.hid hhi
    have HB := Lib.hid hb
    clear hlo hhi hb
    by_cases hlt : a < b
    · obtain ⟨h, hh⟩ : ∃ h : Nat, ((a : Int) + (b : Int)) / 2 = (h : Int) := ⟨(a + b) / 2, by omega⟩
      have hah : a ≤ h ∧ h < b := by omega
      obtain ⟨hah, hhb⟩ := hah
      obtain ⟨x, hx⟩ : ∃ x, l[h]? = some x := ⟨_, List.getElem?_eq_getElem (by have := HN.out; omega)⟩
      have hxm : (l.map Pr.c)[h]? = some x.c := by rw [List.getElem?_map, hx]; rfl
      obtain ⟨_, b0, o0, rfl, hc⟩ := HL.out.at hx
      obtain ⟨c0, c1, c2, c3, c4, c5⟩ := hc.below HB.out
      have hblt := (hc.below HB.out).lt
      have HCM : Hid (∀ w, Calls Try.prog 41 #[.agg #[.string x.n, .int .i64 x.v.a.k, .int .i64 x.v.a.n, .float .f64 x.v.a.f, .string x.v.a.s, .slice x.v.q x.v.m x.v.c], .string n] w fun e w' => e = .returned (.int .i64 (cmpS x.n n)) ∧ Below w.heap.size w w') := Lib.hid fun w => cmpName_any x n
      have HLO2 : Hid (cmpS x.n n < 0 → ∀ p ∈ (l.map Pr.c).take (h + 1), cmpS p.n n < 0) := Lib.hid (inc_lo HI.out hxm)
      have HHI2 : Hid (0 ≤ cmpS x.n n → ∀ p ∈ (l.map Pr.c).drop h, 0 ≤ cmpS p.n n) := Lib.hid (inc_hi HI.out hxm)
      have hhm : h < m := by omega
      clear hx hxm hc
      generalize cmpS x.n n = r at *
      by_cases hr : r < 0
      · go_wp2_with fail
        refine (HCM.out _).mono ?_
        rintro e w1 ⟨rfl, hb1⟩
        have HB1 := Lib.hid (HB.out.trans (hb1.mono HB.out.size))
        have HL2 := Lib.hid (HLO2.out hr)
        clear hb1
        go_wp2
        go_roundw
        case rel => exact ⟨h + 1, b, by go_num, rfl, by omega, hbm, HL2.out, HHI.out, HB1.out⟩
        case measure => simp [intOf]; omega
      · go_wp2_with fail
        refine (HCM.out _).mono ?_
        rintro e w1 ⟨rfl, hb1⟩
        have HB1 := Lib.hid (HB.out.trans (hb1.mono HB.out.size))
        have HH2 := Lib.hid (HHI2.out (by omega))
        clear hb1
        go_wp2
        go_roundw
        case rel => exact ⟨a, h, rfl, rfl, hah, by omega, HLO.out, HH2.out, HB1.out⟩
        case measure => simp [intOf]; omega
    · have hab' : a = b := by omega
      subst hab'
      by_cases ham : a < m
      · obtain ⟨x, hx⟩ : ∃ x, l[a]? = some x := ⟨_, List.getElem?_eq_getElem (by have := HN.out; omega)⟩
        have hxm : (l.map Pr.c)[a]? = some x.c := by rw [List.getElem?_map, hx]; rfl
        obtain ⟨_, b0, o0, rfl, hc⟩ := HL.out.at hx
        obtain ⟨c0, c1, c2, c3, c4, c5⟩ := hc.below HB.out
        have hblt := (hc.below HB.out).lt
        have HCM : Hid (∀ w, Calls Try.prog 41 #[.agg #[.string x.n, .int .i64 x.v.a.k, .int .i64 x.v.a.n, .float .f64 x.v.a.f, .string x.v.a.s, .slice x.v.q x.v.m x.v.c], .string n] w fun e w' => e = .returned (.int .i64 (cmpS x.n n)) ∧ Below w.heap.size w w') := Lib.hid fun w => cmpName_any x n
        have HEQ : Hid ((cmpS x.n n == 0) = true ↔ ∃ p, (l.map Pr.c)[a]? = some p ∧ cmpS p.n n = 0) := Lib.hid (by
          rw [beq_iff_eq, hxm]
          exact ⟨fun h => ⟨x.c, rfl, h⟩, fun ⟨p, hp, h⟩ => by obtain rfl := Option.some.inj hp; exact h⟩)
        clear hx hxm hc
        generalize cmpS x.n n = r at *
        obtain ⟨z, hz⟩ : ∃ z, (r == 0) = z := ⟨_, rfl⟩
        rw [hz] at HEQ
        have ham1 : decide ((a : Int) < (m : Int)) = true := decide_eq_true (by omega)
        go_wp2_with fail
        refine (HCM.out _).mono ?_
        rintro e w1 ⟨rfl, hb1⟩
        have HB1 := Lib.hid (HB.out.trans (hb1.mono HB.out.size))
        clear hb1
        go_wp2
        go_ret2
        exact ⟨a, z, rfl, ⟨by rw [List.length_map, ← HN.out]; omega, HLO.out, HHI.out, HEQ.out⟩, HB1.out⟩
      · have ham0 : a = m := by omega
        have ham1 : decide ((a : Int) < (m : Int)) = false := decide_eq_false (by omega)
        go_wp2
        go_ret2
        refine ⟨a, false, rfl, ⟨by rw [List.length_map, ← HN.out]; omega, HLO.out, HHI.out, ?_⟩, HB.out⟩
        constructor
        · intro h; cases h
        · rintro ⟨p, hp, _⟩
          rw [List.getElem?_eq_none (by rw [List.length_map, ← HN.out]; omega)] at hp
          cases hp

/-- What Set tells: properties that lie there, and the error. -/
def SePost (w : World) (x : List Pc × Int) (e : Ending) (w' : World) : Prop :=
  ∃ q m c r, e = .returned (.tuple #[.slice q m c, .int .i64 x.2]) ∧ PsOk w' q m c r ∧ r.map Pr.c = x.1 ∧ Below w.heap.size w w'

end Go.Proofs.Ytekaedafhiddeaa
