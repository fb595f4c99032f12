/-
  The law ValueTells: the walk.
-/
import Derived.Test.YtinbdneajbommaaDoorVPrV
import Derived.Test.YtinbdneajbommaaDoorVCmpV
import Derived.Test.YtinbdneajbommaaDoorVAskV
import Derived.Test.YtinbdneajbommaaDoorVRefCmpV
import Derived.Test.YtinbdneajbommaaDoorVRefLess
import Derived.Test.YtinbdneajbommaaDoorVRefEq
import Derived.Test.YtinbdneajbommaaDoorVShort
set_option linter.unusedVariables false
set_option maxRecDepth 100000
namespace Go.Proofs.YtinbdneajbommaaDoor
open Go.RowKit

theorem PrPost.lit {w w' : World} {l : List UInt8} {e : Ending} (h : PrPost w l e w') : e = .returned (.string ⟨l.toArray⟩) ∧ Below w.heap.size w w' := by
  obtain ⟨⟨t, rfl, ht⟩, hb⟩ := h
  refine ⟨?_, hb⟩
  have e : t = ⟨l.toArray⟩ := by
    apply ByteArray.ext
    apply Array.ext'
    rw [ht]
  rw [e]
theorem zeroOk (w : World) : VaOk w ⟨0, 0, 0, ⟨#[]⟩⟩ none 0 0 [] :=
  ⟨⟨by dsimp only; omega, by dsimp only; omega, by dsimp only; omega, by dsimp only; omega, by dsimp only; omega, by show 0 ≤ _; omega⟩, rfl, by omega, by omega, As.nil _ _, fun a h => by cases h⟩
theorem zeroV : validV ⟨0, 0, 0, ⟨#[]⟩⟩ [] = true := by
  have h : (⟨#[]⟩ : ByteArray).toList = [] := by rw [ByteArray.toList_eq]
  unfold validV At.valid validA
  simp [h]
theorem zeroValid (w : World) : Calls Tryd.prog 7 #[.agg #[.int .i64 0, .int .i64 0, .float .f64 0, .string ⟨#[]⟩, .slice none 0 0]] w fun e w' => e = .returned (.bool true) ∧ Below w.heap.size w w' := by
  have h1 := valid_any (zeroOk w)
  rw [zeroV] at h1
  exact h1

set_option maxHeartbeats 8000000 in
theorem lawVTells_any {w : World} (hP : PW w) {k1 n1 : Int} {f1 : Nat} {s1 : ByteArray} {q1 : Option Addr} {m1 c1 : Nat} {l1 : List At} (h1 : VaOk w ⟨k1, n1, f1, s1⟩ q1 m1 c1 l1) {k2 n2 : Int} {f2 : Nat} {s2 : ByteArray} {q2 : Option Addr} {m2 c2 : Nat} {l2 : List At} (h2 : VaOk w ⟨k2, n2, f2, s2⟩ q2 m2 c2 l2) :
    Calls Tryd.prog 3 #[.agg #[.int .i64 k1, .int .i64 n1, .float .f64 f1, .string s1, .slice q1 m1 c1], .agg #[.int .i64 k2, .int .i64 n2, .float .f64 f2, .string s2, .slice q2 m2 c2]] w fun e w' => e = .returned (.bool true) ∧ Below w.heap.size w w' := by
  obtain ⟨W, hW⟩ : ∃ W, W = (w.alloc (.cells #[.int .i64 k1, .int .i64 n1, .float .f64 f1, .string s1, .slice q1 m1 c1] 27)).alloc (.cells #[.int .i64 k2, .int .i64 n2, .float .f64 f2, .string s2, .slice q2 m2 c2] 27) := ⟨_, rfl⟩
  have HK : Hid (∀ w', Below W.heap.size W w' → (w'.cell? ⟨w.heap.size, 0, none⟩ = some (.int .i64 k1) ∧ w'.cell? ⟨w.heap.size, 1, none⟩ = some (.int .i64 n1) ∧ w'.cell? ⟨w.heap.size, 2, none⟩ = some (.float .f64 f1) ∧ w'.cell? ⟨w.heap.size, 3, none⟩ = some (.string s1) ∧ w'.cell? ⟨w.heap.size, 4, none⟩ = some (.slice q1 m1 c1) ∧ w'.cell? ⟨w.heap.size + 1, 0, none⟩ = some (.int .i64 k2) ∧ w'.cell? ⟨w.heap.size + 1, 1, none⟩ = some (.int .i64 n2) ∧ w'.cell? ⟨w.heap.size + 1, 2, none⟩ = some (.float .f64 f2) ∧ w'.cell? ⟨w.heap.size + 1, 3, none⟩ = some (.string s2) ∧ w'.cell? ⟨w.heap.size + 1, 4, none⟩ = some (.slice q2 m2 c2))) := by
    refine Lib.hid fun w' hb => ?_
    rw [hW] at hb
    have h12 := fun i => box2_cell hb i
    exact ⟨(h12 0).1, (h12 1).1, (h12 2).1, (h12 3).1, (h12 4).1, (h12 0).2, (h12 1).2, (h12 2).2, (h12 3).2, (h12 4).2⟩
  have HWB : Hid (∀ w', Below W.heap.size W w' → Below w.heap.size w w') := by
    refine Lib.hid fun w' hb => ?_
    rw [hW] at hb
    exact box2_below hb
  have v1 : ∀ w', Below W.heap.size W w' → VaOk w' ⟨k1, n1, f1, s1⟩ q1 m1 c1 l1 := fun w' hb => h1.below (HWB.out _ hb)
  have v2 : ∀ w', Below W.heap.size W w' → VaOk w' ⟨k2, n2, f2, s2⟩ q2 m2 c2 l2 := fun w' hb => h2.below (HWB.out _ hb)
  have S1 : Hid (∀ w', Below W.heap.size W w' → Calls Tryd.prog 6 #[.agg #[.int .i64 k1, .int .i64 n1, .float .f64 f1, .string s1, .slice q1 m1 c1]] w' (SomeBool w')) := Lib.hid fun w' hb => short_any (v1 w' hb)
  have S2 : Hid (∀ w', Below W.heap.size W w' → Calls Tryd.prog 6 #[.agg #[.int .i64 k2, .int .i64 n2, .float .f64 f2, .string s2, .slice q2 m2 c2]] w' (SomeBool w')) := Lib.hid fun w' hb => short_any (v2 w' hb)
  have A1 : Hid (∀ w', Below W.heap.size W w' → Calls Tryd.prog 7 #[.agg #[.int .i64 k1, .int .i64 n1, .float .f64 f1, .string s1, .slice q1 m1 c1]] w' fun e w'' => e = .returned (.bool (validV ⟨k1, n1, f1, s1⟩ l1)) ∧ Below w'.heap.size w' w'') := Lib.hid fun w' hb => valid_any (v1 w' hb)
  have A2 : Hid (∀ w', Below W.heap.size W w' → Calls Tryd.prog 8 #[.agg #[.int .i64 k1, .int .i64 n1, .float .f64 f1, .string s1, .slice q1 m1 c1]] w' fun e w'' => e = .returned (.bool (validV ⟨k1, n1, f1, s1⟩ l1)) ∧ Below w'.heap.size w' w'') := Lib.hid fun w' hb => refValid_any (v1 w' hb)
  have A3 : Hid (∀ w', Below W.heap.size W w' → Calls Tryd.prog 9 #[.agg #[.int .i64 k1, .int .i64 n1, .float .f64 f1, .string s1, .slice q1 m1 c1], .agg #[.int .i64 k2, .int .i64 n2, .float .f64 f2, .string s2, .slice q2 m2 c2]] w' fun e w'' => e = .returned (.int .i64 (cmpV ⟨k1, n1, f1, s1⟩ l1 ⟨k2, n2, f2, s2⟩ l2)) ∧ Below w'.heap.size w' w'') := Lib.hid fun w' hb => valueCompare_any (v1 w' hb) (v2 w' hb)
  have A4 : Hid (∀ w', Below W.heap.size W w' → Calls Tryd.prog 10 #[.agg #[.int .i64 k1, .int .i64 n1, .float .f64 f1, .string s1, .slice q1 m1 c1], .agg #[.int .i64 k2, .int .i64 n2, .float .f64 f2, .string s2, .slice q2 m2 c2]] w' fun e w'' => e = .returned (.int .i64 (cmpV ⟨k1, n1, f1, s1⟩ l1 ⟨k2, n2, f2, s2⟩ l2)) ∧ Below w'.heap.size w' w'') := Lib.hid fun w' hb => (by have hh := refCompareV_any (v1 w' hb) (v2 w' hb); rw [compareR_eq h1.ok h1.hok h2.ok h2.hok] at hh; exact hh)
  have A5 : Hid (∀ w', Below W.heap.size W w' → Calls Tryd.prog 11 #[.agg #[.int .i64 k1, .int .i64 n1, .float .f64 f1, .string s1, .slice q1 m1 c1], .agg #[.int .i64 k2, .int .i64 n2, .float .f64 f2, .string s2, .slice q2 m2 c2]] w' fun e w'' => e = .returned (.int .i64 (equalV ⟨k1, n1, f1, s1⟩ l1 ⟨k2, n2, f2, s2⟩ l2)) ∧ Below w'.heap.size w' w'') := Lib.hid fun w' hb => valueEqual_any (v1 w' hb) (v2 w' hb)
  have A6 : Hid (∀ w', Below W.heap.size W w' → Calls Tryd.prog 12 #[.agg #[.int .i64 k1, .int .i64 n1, .float .f64 f1, .string s1, .slice q1 m1 c1], .agg #[.int .i64 k2, .int .i64 n2, .float .f64 f2, .string s2, .slice q2 m2 c2]] w' fun e w'' => e = .returned (.int .i64 (equalV ⟨k1, n1, f1, s1⟩ l1 ⟨k2, n2, f2, s2⟩ l2)) ∧ Below w'.heap.size w' w'') := Lib.hid fun w' hb => (by have hh := refEqual_any (v1 w' hb) (v2 w' hb); rw [equalR_eq] at hh; exact hh)
  have A7 : Hid (∀ w', Below W.heap.size W w' → Calls Tryd.prog 13 #[.agg #[.int .i64 k1, .int .i64 n1, .float .f64 f1, .string s1, .slice q1 m1 c1], .agg #[.int .i64 k2, .int .i64 n2, .float .f64 f2, .string s2, .slice q2 m2 c2]] w' fun e w'' => e = .returned (.int .i64 (lessV ⟨k1, n1, f1, s1⟩ l1 ⟨k2, n2, f2, s2⟩ l2)) ∧ Below w'.heap.size w' w'') := Lib.hid fun w' hb => valueLess_any (v1 w' hb) (v2 w' hb)
  have A8 : Hid (∀ w', Below W.heap.size W w' → Calls Tryd.prog 14 #[.agg #[.int .i64 k1, .int .i64 n1, .float .f64 f1, .string s1, .slice q1 m1 c1], .agg #[.int .i64 k2, .int .i64 n2, .float .f64 f2, .string s2, .slice q2 m2 c2]] w' fun e w'' => e = .returned (.int .i64 (lessV ⟨k1, n1, f1, s1⟩ l1 ⟨k2, n2, f2, s2⟩ l2)) ∧ Below w'.heap.size w' w'') := Lib.hid fun w' hb => (by have hh := refLess_any (v1 w' hb) (v2 w' hb); rw [lessR_eq h1.ok h1.hok h2.ok h2.hok] at hh; exact hh)
  have A9 : Hid (∀ w', Below W.heap.size W w' → Calls Tryd.prog 15 #[.agg #[.int .i64 k1, .int .i64 n1, .float .f64 f1, .string s1, .slice q1 m1 c1]] w' fun e w'' => e = .returned (.string (⟨(prV ⟨k1, n1, f1, s1⟩ l1).toArray⟩)) ∧ Below w'.heap.size w' w'') := Lib.hid fun w' hb => (print_any (hP.below (HWB.out _ hb)) (v1 w' hb)).mono fun e w2 hp => PrPost.lit hp
  have A10 : Hid (∀ w', Below W.heap.size W w' → Calls Tryd.prog 16 #[.agg #[.int .i64 k1, .int .i64 n1, .float .f64 f1, .string s1, .slice q1 m1 c1]] w' fun e w'' => e = .returned (.string (⟨(prV ⟨k1, n1, f1, s1⟩ l1).toArray⟩)) ∧ Below w'.heap.size w' w'') := Lib.hid fun w' hb => (printR_any (v1 w' hb)).mono fun e w2 hp => PrPost.lit hp
  have A11 : Hid (∀ w', Below W.heap.size W w' → Calls Tryd.prog 7 #[.agg #[.int .i64 0, .int .i64 0, .float .f64 0, .string ⟨#[]⟩, .slice none 0 0]] w' fun e w'' => e = .returned (.bool true) ∧ Below w'.heap.size w' w'') := Lib.hid fun w' hb => zeroValid w'
  clear v1 v2 h1 h2 hP
  generalize validV ⟨k1, n1, f1, s1⟩ l1 = V at *
  generalize cmpV ⟨k1, n1, f1, s1⟩ l1 ⟨k2, n2, f2, s2⟩ l2 = X at *
  generalize equalV ⟨k1, n1, f1, s1⟩ l1 ⟨k2, n2, f2, s2⟩ l2 = Q at *
  generalize lessV ⟨k1, n1, f1, s1⟩ l1 ⟨k2, n2, f2, s2⟩ l2 = Y at *
  obtain ⟨T, hTT⟩ : ∃ T : ByteArray, T = ⟨(prV ⟨k1, n1, f1, s1⟩ l1).toArray⟩ := ⟨_, rfl⟩
  rw [← hTT] at A9 A10
  clear hTT
  go_enter Tryd.func3, Tryd.ntmps3
  go_wp2_with fail
  rw [← hW]
  clear hW
  with_reducible refine (S1.out W (Below.refl _ _)).mono ?_
  rintro e w1 ⟨b1, rfl, hb1⟩
  have HB1 := Lib.hid hb1
  clear hb1 S1
  cases b1
  · go_wp2
    go_ret
    exact ⟨rfl, HWB.out _ HB1.out⟩
  obtain ⟨x0, x1, x2, x3, x4, y0, y1, y2, y3, y4⟩ := HK.out _ HB1.out
  go_wp2_with fail
  with_reducible refine (S2.out w1 HB1.out).mono ?_
  rintro e w2 ⟨b2, rfl, hb2⟩
  have HB2 := Lib.hid (HB1.out.trans (hb2.mono HB1.out.size))
  clear hb2 S2 x0 x1 x2 x3 x4 y0 y1 y2 y3 y4
  cases b2
  · go_wp2
    go_ret
    exact ⟨rfl, HWB.out _ HB2.out⟩
  go_wp2_with fail
  go_region_held3 (fun w' => w'.cell? ⟨w.heap.size, 0, none⟩ = some (.int .i64 k1) ∧ w'.cell? ⟨w.heap.size, 1, none⟩ = some (.int .i64 n1) ∧ w'.cell? ⟨w.heap.size, 2, none⟩ = some (.float .f64 f1) ∧ w'.cell? ⟨w.heap.size, 3, none⟩ = some (.string s1) ∧ w'.cell? ⟨w.heap.size, 4, none⟩ = some (.slice q1 m1 c1) ∧ w'.cell? ⟨w.heap.size + 1, 0, none⟩ = some (.int .i64 k2) ∧ w'.cell? ⟨w.heap.size + 1, 1, none⟩ = some (.int .i64 n2) ∧ w'.cell? ⟨w.heap.size + 1, 2, none⟩ = some (.float .f64 f2) ∧ w'.cell? ⟨w.heap.size + 1, 3, none⟩ = some (.string s2) ∧ w'.cell? ⟨w.heap.size + 1, 4, none⟩ = some (.slice q2 m2 c2))
    (first | exact HK.out _ HC11.out | exact HK.out _ HC10.out | exact HK.out _ HC9.out | exact HK.out _ HC8.out | exact HK.out _ HC7.out | exact HK.out _ HC6.out | exact HK.out _ HC5.out | exact HK.out _ HC4.out | exact HK.out _ HC3.out | exact HK.out _ HC2.out | exact HK.out _ HC1.out | exact HK.out _ HB2.out.drew)
    (first
      | (go_at_call 7; (with_reducible refine (A11.out _ HC10.out).mono ?_); rintro e u11 ⟨rfl, hu11⟩; have HC11 : Hid (Below W.heap.size W u11) := Lib.hid (HC10.out.trans (hu11.mono HC10.out.size)); clear hu11)
      | (go_at_call 16; (with_reducible refine (A10.out _ HC9.out).mono ?_); rintro e u10 ⟨rfl, hu10⟩; have HC10 : Hid (Below W.heap.size W u10) := Lib.hid (HC9.out.trans (hu10.mono HC9.out.size)); clear hu10)
      | (go_at_call 15; (with_reducible refine (A9.out _ HC8.out).mono ?_); rintro e u9 ⟨rfl, hu9⟩; have HC9 : Hid (Below W.heap.size W u9) := Lib.hid (HC8.out.trans (hu9.mono HC8.out.size)); clear hu9)
      | (go_at_call 14; (with_reducible refine (A8.out _ HC7.out).mono ?_); rintro e u8 ⟨rfl, hu8⟩; have HC8 : Hid (Below W.heap.size W u8) := Lib.hid (HC7.out.trans (hu8.mono HC7.out.size)); clear hu8)
      | (go_at_call 13; (with_reducible refine (A7.out _ HC6.out).mono ?_); rintro e u7 ⟨rfl, hu7⟩; have HC7 : Hid (Below W.heap.size W u7) := Lib.hid (HC6.out.trans (hu7.mono HC6.out.size)); clear hu7)
      | (go_at_call 12; (with_reducible refine (A6.out _ HC5.out).mono ?_); rintro e u6 ⟨rfl, hu6⟩; have HC6 : Hid (Below W.heap.size W u6) := Lib.hid (HC5.out.trans (hu6.mono HC5.out.size)); clear hu6)
      | (go_at_call 11; (with_reducible refine (A5.out _ HC4.out).mono ?_); rintro e u5 ⟨rfl, hu5⟩; have HC5 : Hid (Below W.heap.size W u5) := Lib.hid (HC4.out.trans (hu5.mono HC4.out.size)); clear hu5)
      | (go_at_call 10; (with_reducible refine (A4.out _ HC3.out).mono ?_); rintro e u4 ⟨rfl, hu4⟩; have HC4 : Hid (Below W.heap.size W u4) := Lib.hid (HC3.out.trans (hu4.mono HC3.out.size)); clear hu4)
      | (go_at_call 9; (with_reducible refine (A3.out _ HC2.out).mono ?_); rintro e u3 ⟨rfl, hu3⟩; have HC3 : Hid (Below W.heap.size W u3) := Lib.hid (HC2.out.trans (hu3.mono HC2.out.size)); clear hu3)
      | (go_at_call 8; (with_reducible refine (A2.out _ HC1.out).mono ?_); rintro e u2 ⟨rfl, hu2⟩; have HC2 : Hid (Below W.heap.size W u2) := Lib.hid (HC1.out.trans (hu2.mono HC1.out.size)); clear hu2)
      | (go_at_call 7; (with_reducible refine (A1.out _ HB2.out.drew).mono ?_); rintro e u1 ⟨rfl, hu1⟩; have HC1 : Hid (Below W.heap.size W u1) := Lib.hid ((HB2.out.drew).trans (hu1.mono HB2.out.drew.size)); clear hu1))
  go_wp2
  go_ret
  exact ⟨rfl, HWB.out _ HC11.out⟩

end Go.Proofs.YtinbdneajbommaaDoor
