/-
  The reference's number, nan and same: contracts.
-/
import Derived.Test.YtinbdneajbommaaDoorVRefCmp
set_option linter.unusedVariables false
set_option maxRecDepth 100000
namespace Go.Proofs.YtinbdneajbommaaDoor
open Go.RowKit

set_option maxHeartbeats 400000 in
theorem refNumber_any {w : World} (k n : Int) (f : Nat) (s : ByteArray) :
    Calls Tryd.prog 39 #[.agg #[.int .i64 k, .int .i64 n, .float .f64 f, .string s]] w fun e w' => e = .returned (.bool (isNum2 k)) ∧ Below w.heap.size w w' := by
  unfold isNum2
  obtain ⟨x, hx⟩ : ∃ x, (k == 2) = x := ⟨_, rfl⟩
  rw [hx]
  cases x
  all_goals
    go_enter Tryd.func39, Tryd.ntmps39
    go_wp2
    go_ret
    exact ⟨rfl, box_below (Below.refl _ _)⟩

theorem nanB_class {f : Nat} (hf : f < 18446744073709551616) : nanB f = (classB f == 0) := by
  by_cases h : isNum f
  · rw [nanB_num hf h]
    have : classB f ≠ 0 := fun h0 => classB_0.1 h0 h
    simp [this]
  · rw [nanB_nan h, classB_0.2 h]
    rfl

set_option maxHeartbeats 400000 in
theorem refNan_any {w : World} (k n : Int) (f : Nat) (s : ByteArray) (hf : f < 18446744073709551616) :
    Calls Tryd.prog 38 #[.agg #[.int .i64 k, .int .i64 n, .float .f64 f, .string s]] w fun e w' => e = .returned (.bool (nanA k f)) ∧ Below w.heap.size w w' := by
  have HX := Lib.hid (fun (w : World) => vBits_any (w := w) f)
  have HC := Lib.hid (fun (w : World) => refClass_any (w := w) f hf)
  have e : nanA k f = (k == 3 && (classB f == 0)) := by unfold nanA; rw [nanB_class hf]
  rw [e]
  clear e hf
  generalize classB f = c at *
  obtain ⟨x, hx⟩ : ∃ x, (k == 3) = x := ⟨_, rfl⟩
  rw [hx]
  cases x
  · go_enter Tryd.func38, Tryd.ntmps38
    go_wp2
    go_ret
    exact ⟨rfl, box_below (Below.refl _ _)⟩
  · go_enter Tryd.func38, Tryd.ntmps38
    go_wp2_with fail
    refine (HX.out _).mono ?_; rintro e w1 ⟨rfl, rfl⟩
    go_wp2_with fail
    refine (HC.out _).mono ?_; rintro e w1 ⟨rfl, rfl⟩
    go_wp2
    go_ret
    exact ⟨ret_bool (by simp), box_below (Below.refl _ _)⟩

/-- What the reference's same tells. -/
def sameR (a b : At) : Bool :=
  if (nanA a.k a.f || nanA b.k b.f) = true then false
  else if (isNum2 a.k && isNum2 b.k) = true then numbersR a.k a.n a.f b.k b.n b.f == 0 else atomsR a b == 0

set_option maxHeartbeats 3200000 in
theorem refSame_any {w : World} {k n : Int} {f : Nat} {s : ByteArray} {k' n' : Int} {g : Nat} {t : ByteArray} (h : At.Ok ⟨k, n, f, s⟩) (h' : At.Ok ⟨k', n', g, t⟩) :
    Calls Tryd.prog 34 #[.agg #[.int .i64 k, .int .i64 n, .float .f64 f, .string s], .agg #[.int .i64 k', .int .i64 n', .float .f64 g, .string t]] w fun e w' => e = .returned (.bool (sameR ⟨k, n, f, s⟩ ⟨k', n', g, t⟩)) ∧ Below w.heap.size w w' := by
  have N1 := Lib.hid (fun (w : World) => refNan_any (w := w) k n f s h.f1)
  have N2 := Lib.hid (fun (w : World) => refNan_any (w := w) k' n' g t h'.f1)
  have M1 := Lib.hid (fun (w : World) => refNumber_any (w := w) k n f s)
  have M2 := Lib.hid (fun (w : World) => refNumber_any (w := w) k' n' g t)
  have R1 := Lib.hid (fun (w : World) => refNumbers_any (w := w) k n f s k' n' g t h.n1 h.n2 h.f1 h'.n1 h'.n2 h'.f1)
  have R2 := Lib.hid (fun (w : World) => refAtoms_any (w := w) h h')
  have HE : Hid (sameR ⟨k, n, f, s⟩ ⟨k', n', g, t⟩ = if (nanA k f || nanA k' g) = true then false else if (isNum2 k && isNum2 k') = true then numbersR k n f k' n' g == 0 else atomsR ⟨k, n, f, s⟩ ⟨k', n', g, t⟩ == 0) := Lib.hid rfl
  clear h h'
  generalize sameR ⟨k, n, f, s⟩ ⟨k', n', g, t⟩ = v at *
  generalize nanA k f = x1 at *
  generalize nanA k' g = x2 at *
  generalize isNum2 k = y1 at *
  generalize isNum2 k' = y2 at *
  generalize numbersR k n f k' n' g = z1 at *
  generalize atomsR ⟨k, n, f, s⟩ ⟨k', n', g, t⟩ = z2 at *
  obtain ⟨W, hW⟩ : ∃ W, W = (w.alloc (.cells #[.int .i64 k, .int .i64 n, .float .f64 f, .string s] 24)).alloc (.cells #[.int .i64 k', .int .i64 n', .float .f64 g, .string t] 24) := ⟨_, rfl⟩
  have HK : Hid (∀ w', Below W.heap.size W w' → (w'.cell? ⟨w.heap.size, 0, none⟩ = some (.int .i64 k) ∧ w'.cell? ⟨w.heap.size, 1, none⟩ = some (.int .i64 n) ∧ w'.cell? ⟨w.heap.size, 2, none⟩ = some (.float .f64 f) ∧ w'.cell? ⟨w.heap.size, 3, none⟩ = some (.string s) ∧
      w'.cell? ⟨w.heap.size + 1, 0, none⟩ = some (.int .i64 k') ∧ w'.cell? ⟨w.heap.size + 1, 1, none⟩ = some (.int .i64 n') ∧ w'.cell? ⟨w.heap.size + 1, 2, none⟩ = some (.float .f64 g) ∧ w'.cell? ⟨w.heap.size + 1, 3, none⟩ = some (.string t))) := by
    refine Lib.hid fun w' hb => ?_
    rw [hW] at hb
    have h12 := fun i => box2_cell hb i
    exact ⟨(h12 0).1, (h12 1).1, (h12 2).1, (h12 3).1, (h12 0).2, (h12 1).2, (h12 2).2, (h12 3).2⟩
  have HWB : Hid (∀ w', Below W.heap.size W w' → Below w.heap.size w w') := by
    refine Lib.hid fun w' hb => ?_
    rw [hW] at hb
    exact box2_below hb
  go_enter Tryd.func34, Tryd.ntmps34
  go_wp2_with fail
  rw [← hW]
  replace hW := Lib.hid hW
  refine (N1.out _).mono ?_; rintro e w1 ⟨rfl, hb1⟩
  have HB1 : Hid (Below W.heap.size W w1) := Lib.hid hb1
  clear hb1
  obtain ⟨c0, c1, c2, c3, d0, d1, d2, d3⟩ := HK.out _ HB1.out
  cases x1
  case true =>
    go_wp2
    go_ret
    exact ⟨ret_bool (by rw [HE.out]; simp), HWB.out _ HB1.out⟩
  go_wp2_with fail
  refine (N2.out _).mono ?_; rintro e w2 ⟨rfl, hb2⟩
  have HB2 : Hid (Below W.heap.size W w2) := Lib.hid (HB1.out.trans (hb2.mono HB1.out.size))
  clear hb2 c0 c1 c2 c3 d0 d1 d2 d3
  obtain ⟨c0, c1, c2, c3, d0, d1, d2, d3⟩ := HK.out _ HB2.out
  cases x2
  case true =>
    go_wp2
    go_ret
    exact ⟨ret_bool (by rw [HE.out]; simp), HWB.out _ HB2.out⟩
  go_wp2_with fail
  refine (M1.out _).mono ?_; rintro e w3 ⟨rfl, hb3⟩
  have HB3 : Hid (Below W.heap.size W w3) := Lib.hid (HB2.out.trans (hb3.mono HB2.out.size))
  clear hb3 c0 c1 c2 c3 d0 d1 d2 d3
  obtain ⟨c0, c1, c2, c3, d0, d1, d2, d3⟩ := HK.out _ HB3.out
  cases y1
  · go_wp2_with fail
    refine (R2.out _).mono ?_; rintro e w4 ⟨rfl, hb4⟩
    have HB4 : Hid (Below W.heap.size W w4) := Lib.hid (HB3.out.trans (hb4.mono HB3.out.size))
    clear hb4
    go_wp2
    go_ret
    exact ⟨ret_bool (by rw [HE.out]; simp), HWB.out _ HB4.out⟩
  go_wp2_with fail
  refine (M2.out _).mono ?_; rintro e w4 ⟨rfl, hb4⟩
  have HB4 : Hid (Below W.heap.size W w4) := Lib.hid (HB3.out.trans (hb4.mono HB3.out.size))
  clear hb4 c0 c1 c2 c3 d0 d1 d2 d3
  obtain ⟨c0, c1, c2, c3, d0, d1, d2, d3⟩ := HK.out _ HB4.out
  cases y2
  · go_wp2_with fail
    refine (R2.out _).mono ?_; rintro e w5 ⟨rfl, hb5⟩
    have HB5 : Hid (Below W.heap.size W w5) := Lib.hid (HB4.out.trans (hb5.mono HB4.out.size))
    clear hb5
    go_wp2
    go_ret
    exact ⟨ret_bool (by rw [HE.out]; simp), HWB.out _ HB5.out⟩
  · go_wp2_with fail
    refine (R1.out _).mono ?_; rintro e w5 ⟨rfl, hb5⟩
    have HB5 : Hid (Below W.heap.size W w5) := Lib.hid (HB4.out.trans (hb5.mono HB4.out.size))
    clear hb5
    go_wp2
    go_ret
    exact ⟨ret_bool (by rw [HE.out]; simp), HWB.out _ HB5.out⟩

end Go.Proofs.YtinbdneajbommaaDoor
