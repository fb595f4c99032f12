/-
  ValueOrder: Compare is an order on values: the other way round it is the other way; what is below what is below is below; like are just values that are the same. Conditions: none.
-/
import Derived.Test.YtmcfeibfbamncaaVCmpV
import Derived.Test.YtmcfeibfbamncaaVSameP
import Derived.Test.YtmcfeibfbamncaaVOf
import Derived.Test.YtmcfeibfbamncaaVShort
import Derived.Test.YtmcfeibfbamncaaVRefW
import Derived.Test.YtmcfeibfbamncaaVSame
import Derived.Outline
set_option linter.unusedVariables false
namespace Go.Proofs.Ytmcfeibfbamncaa
open Go.RowKit

theorem valid_int (n : Int) : validV ⟨2, n, 0, ⟨#[]⟩⟩ [] = true := by
  unfold validV At.valid validA
  simp [toList_data]
theorem valid_real {f : Nat} : validV ⟨3, 0, canonB f, ⟨#[]⟩⟩ [] = true := by
  unfold validV At.valid validA canonT
  simp [toList_data, canonB_idem]
theorem cmpV_ints (a b : Int) : cmpV ⟨2, a, 0, ⟨#[]⟩⟩ [] ⟨2, b, 0, ⟨#[]⟩⟩ [] = cmpI a b := by
  unfold cmpV
  rw [if_pos ⟨valid_int a, valid_int b⟩]
  have h : cmpA ⟨2, a, 0, ⟨#[]⟩⟩ ⟨2, b, 0, ⟨#[]⟩⟩ = orI (cmpI a b) 0 := rfl
  rw [h]
  unfold orI cmpLs
  repeat' split
  all_goals first | rfl | (exfalso; omega) | omega
theorem cmpV_two : cmpV ⟨2, 2, 0, ⟨#[]⟩⟩ [] ⟨3, 0, 4611686018427387904, ⟨#[]⟩⟩ [] = -1 := by
  unfold cmpV
  have hc : canonB 4611686018427387904 = 4611686018427387904 := by decide +kernel
  have hv := valid_real (f := 4611686018427387904)
  rw [hc] at hv
  rw [if_pos ⟨valid_int 2, hv⟩]
  have hn : cmpN 2 4611686018427387904 = 0 := by decide +kernel
  have h : cmpA ⟨2, 2, 0, ⟨#[]⟩⟩ ⟨3, 0, 4611686018427387904, ⟨#[]⟩⟩ = orI (cmpN 2 4611686018427387904) (-1) := rfl
  rw [h, hn]
  rfl
theorem vaOk_int (w : World) (n : Int) (h1 : -9223372036854775808 ≤ n) (h2 : n ≤ 9223372036854775807) : VaOk w ⟨2, n, 0, ⟨#[]⟩⟩ none 0 0 [] :=
  ⟨⟨by dsimp only; omega, by dsimp only; omega, h1, h2, by dsimp only; omega, by show 0 ≤ _; omega⟩, rfl, by omega, by omega, As.nil _ _, fun a h => by cases h⟩
theorem vaOk_real (w : World) (f : Nat) (hf : f < 18446744073709551616) : VaOk w ⟨3, 0, f, ⟨#[]⟩⟩ none 0 0 [] :=
  ⟨⟨by dsimp only; omega, by dsimp only; omega, by dsimp only; omega, by dsimp only; omega, hf, by show 0 ≤ _; omega⟩, rfl, by omega, by omega, As.nil _ _, fun a h => by cases h⟩

/-- Three boxes. -/
theorem box3_below {w w1 : World} {o o' o2 : Obj} (hb : Below (((w.alloc o).alloc o').alloc o2).heap.size (((w.alloc o).alloc o').alloc o2) w1) : Below w.heap.size w w1 :=
  box2_below ((box_below hb : Below _ _ _))
theorem box3_cells {w w1 : World} {a b c : Array Value} {t t' t2 : TypeId} (hb : Below (((w.alloc (.cells a t)).alloc (.cells b t')).alloc (.cells c t2)).heap.size (((w.alloc (.cells a t)).alloc (.cells b t')).alloc (.cells c t2)) w1) :
    (∀ i, w1.cell? ⟨w.heap.size, i, none⟩ = a[i]?) ∧ (∀ i, w1.cell? ⟨w.heap.size + 1, i, none⟩ = b[i]?) ∧ (∀ i, w1.cell? ⟨w.heap.size + 2, i, none⟩ = c[i]?) := by
  have h12 := fun i => box2_cell (box_below hb : Below _ _ _) i
  refine ⟨fun i => (h12 i).1, fun i => (h12 i).2, fun i => ?_⟩
  have h := box_cell hb i
  have e : ((w.alloc (.cells a t)).alloc (.cells b t')).heap.size = w.heap.size + 2 := by simp
  rw [e] at h
  exact h

set_option maxHeartbeats 8000000 in
theorem lawOrder_any {w : World} {k1 n1 : Int} {f1 : Nat} {s1 : ByteArray} {q1 : Option Addr} {m1 c1 : Nat} {l1 : List At} (h1 : VaOk w ⟨k1, n1, f1, s1⟩ q1 m1 c1 l1) {k2 n2 : Int} {f2 : Nat} {s2 : ByteArray} {q2 : Option Addr} {m2 c2 : Nat} {l2 : List At} (h2 : VaOk w ⟨k2, n2, f2, s2⟩ q2 m2 c2 l2) {k3 n3 : Int} {f3 : Nat} {s3 : ByteArray} {q3 : Option Addr} {m3 c3 : Nat} {l3 : List At} (h3 : VaOk w ⟨k3, n3, f3, s3⟩ q3 m3 c3 l3) :
    Calls Try.prog 3 #[.agg #[.int .i64 k1, .int .i64 n1, .float .f64 f1, .string s1, .slice q1 m1 c1], .agg #[.int .i64 k2, .int .i64 n2, .float .f64 f2, .string s2, .slice q2 m2 c2], .agg #[.int .i64 k3, .int .i64 n3, .float .f64 f3, .string s3, .slice q3 m3 c3]] w fun e w' => e = .returned (.bool true) ∧ Below w.heap.size w w' := by
  obtain ⟨W, hW⟩ : ∃ W, W = ((w.alloc (.cells #[.int .i64 k1, .int .i64 n1, .float .f64 f1, .string s1, .slice q1 m1 c1] 27)).alloc (.cells #[.int .i64 k2, .int .i64 n2, .float .f64 f2, .string s2, .slice q2 m2 c2] 27)).alloc (.cells #[.int .i64 k3, .int .i64 n3, .float .f64 f3, .string s3, .slice q3 m3 c3] 27) := ⟨_, rfl⟩
  have HK : Hid (∀ w', Below W.heap.size W w' → (w'.cell? ⟨w.heap.size, 0, none⟩ = some (.int .i64 k1) ∧ w'.cell? ⟨w.heap.size, 1, none⟩ = some (.int .i64 n1) ∧ w'.cell? ⟨w.heap.size, 2, none⟩ = some (.float .f64 f1) ∧ w'.cell? ⟨w.heap.size, 3, none⟩ = some (.string s1) ∧ w'.cell? ⟨w.heap.size, 4, none⟩ = some (.slice q1 m1 c1) ∧ w'.cell? ⟨w.heap.size + 1, 0, none⟩ = some (.int .i64 k2) ∧ w'.cell? ⟨w.heap.size + 1, 1, none⟩ = some (.int .i64 n2) ∧ w'.cell? ⟨w.heap.size + 1, 2, none⟩ = some (.float .f64 f2) ∧ w'.cell? ⟨w.heap.size + 1, 3, none⟩ = some (.string s2) ∧ w'.cell? ⟨w.heap.size + 1, 4, none⟩ = some (.slice q2 m2 c2) ∧ w'.cell? ⟨w.heap.size + 2, 0, none⟩ = some (.int .i64 k3) ∧ w'.cell? ⟨w.heap.size + 2, 1, none⟩ = some (.int .i64 n3) ∧ w'.cell? ⟨w.heap.size + 2, 2, none⟩ = some (.float .f64 f3) ∧ w'.cell? ⟨w.heap.size + 2, 3, none⟩ = some (.string s3) ∧ w'.cell? ⟨w.heap.size + 2, 4, none⟩ = some (.slice q3 m3 c3))) := by
    refine Lib.hid fun w' hb => ?_
    rw [hW] at hb
    obtain ⟨h1, h2, h3⟩ := box3_cells hb
    exact ⟨h1 0, h1 1, h1 2, h1 3, h1 4, h2 0, h2 1, h2 2, h2 3, h2 4, h3 0, h3 1, h3 2, h3 3, h3 4⟩
  have HWB : Hid (∀ w', Below W.heap.size W w' → Below w.heap.size w w') := by
    refine Lib.hid fun w' hb => ?_
    rw [hW] at hb
    exact box3_below hb
  have v1 : ∀ w', Below W.heap.size W w' → VaOk w' ⟨k1, n1, f1, s1⟩ q1 m1 c1 l1 := fun w' hb => h1.below (HWB.out _ hb)
  have v2 : ∀ w', Below W.heap.size W w' → VaOk w' ⟨k2, n2, f2, s2⟩ q2 m2 c2 l2 := fun w' hb => h2.below (HWB.out _ hb)
  have v3 : ∀ w', Below W.heap.size W w' → VaOk w' ⟨k3, n3, f3, s3⟩ q3 m3 c3 l3 := fun w' hb => h3.below (HWB.out _ hb)
  have S1 : Hid (∀ w', Below W.heap.size W w' → Calls Try.prog 6 #[.agg #[.int .i64 k1, .int .i64 n1, .float .f64 f1, .string s1, .slice q1 m1 c1]] w' (SomeBool w')) := Lib.hid fun w' hb => short_any (v1 w' hb)
  have S2 : Hid (∀ w', Below W.heap.size W w' → Calls Try.prog 6 #[.agg #[.int .i64 k2, .int .i64 n2, .float .f64 f2, .string s2, .slice q2 m2 c2]] w' (SomeBool w')) := Lib.hid fun w' hb => short_any (v2 w' hb)
  have S3 : Hid (∀ w', Below W.heap.size W w' → Calls Try.prog 6 #[.agg #[.int .i64 k3, .int .i64 n3, .float .f64 f3, .string s3, .slice q3 m3 c3]] w' (SomeBool w')) := Lib.hid fun w' hb => short_any (v3 w' hb)
  have C12 : Hid (∀ w', Below W.heap.size W w' → Calls Try.prog 7 #[.agg #[.int .i64 k1, .int .i64 n1, .float .f64 f1, .string s1, .slice q1 m1 c1], .agg #[.int .i64 k2, .int .i64 n2, .float .f64 f2, .string s2, .slice q2 m2 c2]] w' fun e w'' => e = .returned (.int .i64 (cmpV ⟨k1, n1, f1, s1⟩ l1 ⟨k2, n2, f2, s2⟩ l2)) ∧ Below w'.heap.size w' w'') := Lib.hid fun w' hb => valueCompare_any (v1 w' hb) (v2 w' hb)
  have C23 : Hid (∀ w', Below W.heap.size W w' → Calls Try.prog 7 #[.agg #[.int .i64 k2, .int .i64 n2, .float .f64 f2, .string s2, .slice q2 m2 c2], .agg #[.int .i64 k3, .int .i64 n3, .float .f64 f3, .string s3, .slice q3 m3 c3]] w' fun e w'' => e = .returned (.int .i64 (cmpV ⟨k2, n2, f2, s2⟩ l2 ⟨k3, n3, f3, s3⟩ l3)) ∧ Below w'.heap.size w' w'') := Lib.hid fun w' hb => valueCompare_any (v2 w' hb) (v3 w' hb)
  have C13 : Hid (∀ w', Below W.heap.size W w' → Calls Try.prog 7 #[.agg #[.int .i64 k1, .int .i64 n1, .float .f64 f1, .string s1, .slice q1 m1 c1], .agg #[.int .i64 k3, .int .i64 n3, .float .f64 f3, .string s3, .slice q3 m3 c3]] w' fun e w'' => e = .returned (.int .i64 (cmpV ⟨k1, n1, f1, s1⟩ l1 ⟨k3, n3, f3, s3⟩ l3)) ∧ Below w'.heap.size w' w'') := Lib.hid fun w' hb => valueCompare_any (v1 w' hb) (v3 w' hb)
  have C21 : Hid (∀ w', Below W.heap.size W w' → Calls Try.prog 7 #[.agg #[.int .i64 k2, .int .i64 n2, .float .f64 f2, .string s2, .slice q2 m2 c2], .agg #[.int .i64 k1, .int .i64 n1, .float .f64 f1, .string s1, .slice q1 m1 c1]] w' fun e w'' => e = .returned (.int .i64 (cmpV ⟨k2, n2, f2, s2⟩ l2 ⟨k1, n1, f1, s1⟩ l1)) ∧ Below w'.heap.size w' w'') := Lib.hid fun w' hb => valueCompare_any (v2 w' hb) (v1 w' hb)
  have C11 : Hid (∀ w', Below W.heap.size W w' → Calls Try.prog 7 #[.agg #[.int .i64 k1, .int .i64 n1, .float .f64 f1, .string s1, .slice q1 m1 c1], .agg #[.int .i64 k1, .int .i64 n1, .float .f64 f1, .string s1, .slice q1 m1 c1]] w' fun e w'' => e = .returned (.int .i64 (cmpV ⟨k1, n1, f1, s1⟩ l1 ⟨k1, n1, f1, s1⟩ l1)) ∧ Below w'.heap.size w' w'') := Lib.hid fun w' hb => valueCompare_any (v1 w' hb) (v1 w' hb)
  have R1 : Hid (∀ w', Below W.heap.size W w' → Calls Try.prog 10 #[.agg #[.int .i64 k1, .int .i64 n1, .float .f64 f1, .string s1, .slice q1 m1 c1]] w' fun e w'' => e = .returned (.bool (validV ⟨k1, n1, f1, s1⟩ l1)) ∧ Below w'.heap.size w' w'') := Lib.hid fun w' hb => refValid_any (v1 w' hb)
  have R2 : Hid (∀ w', Below W.heap.size W w' → Calls Try.prog 10 #[.agg #[.int .i64 k2, .int .i64 n2, .float .f64 f2, .string s2, .slice q2 m2 c2]] w' fun e w'' => e = .returned (.bool (validV ⟨k2, n2, f2, s2⟩ l2)) ∧ Below w'.heap.size w' w'') := Lib.hid fun w' hb => refValid_any (v2 w' hb)
  have R3 : Hid (∀ w', Below W.heap.size W w' → Calls Try.prog 10 #[.agg #[.int .i64 k3, .int .i64 n3, .float .f64 f3, .string s3, .slice q3 m3 c3]] w' fun e w'' => e = .returned (.bool (validV ⟨k3, n3, f3, s3⟩ l3)) ∧ Below w'.heap.size w' w'') := Lib.hid fun w' hb => refValid_any (v3 w' hb)
  have RS : Hid (∀ w', Below W.heap.size W w' → Calls Try.prog 11 #[.agg #[.int .i64 k1, .int .i64 n1, .float .f64 f1, .string s1, .slice q1 m1 c1], .agg #[.int .i64 k2, .int .i64 n2, .float .f64 f2, .string s2, .slice q2 m2 c2]] w' fun e w'' => e = .returned (.bool (sameV ⟨k1, n1, f1, s1⟩ l1 ⟨k2, n2, f2, s2⟩ l2)) ∧ Below w'.heap.size w' w'') := Lib.hid fun w' hb => same_any (v1 w' hb) (v2 w' hb)
  have O1 := Lib.hid (fun w => ofInt_any (w := w) 1)
  have O2 := Lib.hid (fun w => ofInt_any (w := w) 2)
  have hc : canonB 4611686018427387904 = 4611686018427387904 := by decide +kernel
  have O3 := fun w => ofReal_any (w := w) 4611686018427387904 (by omega)
  rw [hc] at O3
  replace O3 := Lib.hid O3
  have K12 : ∀ w', Calls Try.prog 7 #[.agg #[.int .i64 2, .int .i64 1, .float .f64 0, .string ⟨#[]⟩, .slice none 0 0], .agg #[.int .i64 2, .int .i64 2, .float .f64 0, .string ⟨#[]⟩, .slice none 0 0]] w' fun e w'' => e = .returned (.int .i64 (-1)) ∧ Below w'.heap.size w' w'' := fun w' => by
    have h := valueCompare_any (vaOk_int w' 1 (by omega) (by omega)) (vaOk_int w' 2 (by omega) (by omega))
    rw [cmpV_ints] at h
    exact h
  replace K12 := Lib.hid K12
  have K2R : ∀ w', Calls Try.prog 7 #[.agg #[.int .i64 2, .int .i64 2, .float .f64 0, .string ⟨#[]⟩, .slice none 0 0], .agg #[.int .i64 3, .int .i64 0, .float .f64 4611686018427387904, .string ⟨#[]⟩, .slice none 0 0]] w' fun e w'' => e = .returned (.int .i64 (-1)) ∧ Below w'.heap.size w' w'' := fun w' => by
    have h := valueCompare_any (vaOk_int w' 2 (by omega) (by omega)) (vaOk_real w' 4611686018427387904 (by omega))
    rw [cmpV_two] at h
    exact h
  replace K2R := Lib.hid K2R
  have HX : Hid ((validV ⟨k1, n1, f1, s1⟩ l1 = true ∧ validV ⟨k2, n2, f2, s2⟩ l2 = true ∧ validV ⟨k3, n3, f3, s3⟩ l3 = true → OrdF (cmpV ⟨k1, n1, f1, s1⟩ l1 ⟨k2, n2, f2, s2⟩ l2) (cmpV ⟨k2, n2, f2, s2⟩ l2 ⟨k3, n3, f3, s3⟩ l3) (cmpV ⟨k1, n1, f1, s1⟩ l1 ⟨k3, n3, f3, s3⟩ l3) (cmpV ⟨k2, n2, f2, s2⟩ l2 ⟨k1, n1, f1, s1⟩ l1) (sameV ⟨k1, n1, f1, s1⟩ l1 ⟨k2, n2, f2, s2⟩ l2)) ∧ cmpV ⟨k1, n1, f1, s1⟩ l1 ⟨k1, n1, f1, s1⟩ l1 = 0) := Lib.hid ⟨fun h => ordF h1 h2 h3 h.1 h.2.1 h.2.2, cmpV_self h1⟩
  clear h1 h2 h3 v1 v2 v3 hc
  generalize cmpV ⟨k1, n1, f1, s1⟩ l1 ⟨k2, n2, f2, s2⟩ l2 = x at *
  generalize cmpV ⟨k2, n2, f2, s2⟩ l2 ⟨k3, n3, f3, s3⟩ l3 = y at *
  generalize cmpV ⟨k1, n1, f1, s1⟩ l1 ⟨k3, n3, f3, s3⟩ l3 = z at *
  generalize cmpV ⟨k2, n2, f2, s2⟩ l2 ⟨k1, n1, f1, s1⟩ l1 = x' at *
  generalize cmpV ⟨k1, n1, f1, s1⟩ l1 ⟨k1, n1, f1, s1⟩ l1 = o at *
  generalize sameV ⟨k1, n1, f1, s1⟩ l1 ⟨k2, n2, f2, s2⟩ l2 = u at *
  generalize validV ⟨k1, n1, f1, s1⟩ l1 = d1 at *
  generalize validV ⟨k2, n2, f2, s2⟩ l2 = d2 at *
  generalize validV ⟨k3, n3, f3, s3⟩ l3 = d3 at *
  go_enter Try.func3, Try.ntmps3
  go_wp2_with fail
  rw [← hW]
  replace hW := Lib.hid hW
  refine (S1.out _ (Below.refl _ _)).mono ?_; rintro e w1 ⟨b1, rfl, hb1⟩
  have e1 := HK.out _ hb1
  obtain ⟨e0, e1, e2, e3, e4, e5, e6, e7, e8, e9, e10, e11, e12, e13, e14⟩ := e1
  have HB1 := Lib.hid hb1
  clear hb1
  cases b1
  · go_wp2
    go_ret
    exact ⟨rfl, HWB.out _ HB1.out⟩
  go_wp2_with fail
  refine (S2.out _ HB1.out).mono ?_; rintro e w2 ⟨b2, rfl, hb2⟩
  clear e0 e1 e2 e3 e4 e5 e6 e7 e8 e9 e10 e11 e12 e13 e14
  have HB2 : Hid (Below W.heap.size W w2) := Lib.hid (HB1.out.trans (hb2.mono HB1.out.size))
  obtain ⟨e0, e1, e2, e3, e4, e5, e6, e7, e8, e9, e10, e11, e12, e13, e14⟩ := HK.out _ HB2.out
  clear hb2
  cases b2
  · go_wp2
    go_ret
    exact ⟨rfl, HWB.out _ HB2.out⟩
  go_wp2_with fail
  refine (S3.out _ HB2.out).mono ?_; rintro e w3 ⟨b3, rfl, hb3⟩
  clear e0 e1 e2 e3 e4 e5 e6 e7 e8 e9 e10 e11 e12 e13 e14
  have HB3 : Hid (Below W.heap.size W w3) := Lib.hid (HB2.out.trans (hb3.mono HB2.out.size))
  obtain ⟨e0, e1, e2, e3, e4, e5, e6, e7, e8, e9, e10, e11, e12, e13, e14⟩ := HK.out _ HB3.out
  clear hb3
  cases b3
  · go_wp2
    go_ret
    exact ⟨rfl, HWB.out _ HB3.out⟩
  go_wp2_with fail
  go_region_held3 (fun w' => w'.cell? ⟨w.heap.size, 0, none⟩ = some (.int .i64 k1) ∧ w'.cell? ⟨w.heap.size, 1, none⟩ = some (.int .i64 n1) ∧ w'.cell? ⟨w.heap.size, 2, none⟩ = some (.float .f64 f1) ∧ w'.cell? ⟨w.heap.size, 3, none⟩ = some (.string s1) ∧ w'.cell? ⟨w.heap.size, 4, none⟩ = some (.slice q1 m1 c1) ∧ w'.cell? ⟨w.heap.size + 1, 0, none⟩ = some (.int .i64 k2) ∧ w'.cell? ⟨w.heap.size + 1, 1, none⟩ = some (.int .i64 n2) ∧ w'.cell? ⟨w.heap.size + 1, 2, none⟩ = some (.float .f64 f2) ∧ w'.cell? ⟨w.heap.size + 1, 3, none⟩ = some (.string s2) ∧ w'.cell? ⟨w.heap.size + 1, 4, none⟩ = some (.slice q2 m2 c2) ∧ w'.cell? ⟨w.heap.size + 2, 0, none⟩ = some (.int .i64 k3) ∧ w'.cell? ⟨w.heap.size + 2, 1, none⟩ = some (.int .i64 n3) ∧ w'.cell? ⟨w.heap.size + 2, 2, none⟩ = some (.float .f64 f3) ∧ w'.cell? ⟨w.heap.size + 2, 3, none⟩ = some (.string s3) ∧ w'.cell? ⟨w.heap.size + 2, 4, none⟩ = some (.slice q3 m3 c3))
    (first | exact HK.out _ HB3.out.drew | exact HK.out _ HB6.out | exact HK.out _ HB5.out | exact HK.out _ HB4.out)
    (first
      | (go_at_call 7; with_reducible refine (C12.out _ HB3.out.drew).mono ?_; rintro e w4 ⟨rfl, hb4⟩; have HB4 : Hid (Below W.heap.size W w4) := Lib.hid (HB3.out.drew.trans (hb4.mono HB3.out.drew.size)); clear hb4)
      | (go_at_call 7; with_reducible refine (C23.out _ HB4.out).mono ?_; rintro e w5 ⟨rfl, hb5⟩; have HB5 : Hid (Below W.heap.size W w5) := Lib.hid (HB4.out.trans (hb5.mono HB4.out.size)); clear hb5)
      | (go_at_call 7; with_reducible refine (C13.out _ HB5.out).mono ?_; rintro e w6 ⟨rfl, hb6⟩; have HB6 : Hid (Below W.heap.size W w6) := Lib.hid (HB5.out.trans (hb6.mono HB5.out.size)); clear hb6))
  clear e0 e1 e2 e3 e4 e5 e6 e7 e8 e9 e10 e11 e12 e13 e14
  go_wp2_with fail
  refine (O1.out _).mono ?_; rintro e w7 ⟨rfl, hb7⟩
  have HB7 : Hid (Below W.heap.size W w7) := Lib.hid (HB6.out.trans (hb7.mono HB6.out.size))
  clear hb7
  go_wp2_with fail
  refine (O2.out _).mono ?_; rintro e w8 ⟨rfl, hb8⟩
  have HB8 : Hid (Below W.heap.size W w8) := Lib.hid (HB7.out.trans (hb8.mono HB7.out.size))
  clear hb8
  go_wp2_with fail
  refine (K12.out _).mono ?_; rintro e w9 ⟨rfl, hb9⟩
  have HB9 : Hid (Below W.heap.size W w9) := Lib.hid (HB8.out.trans (hb9.mono HB8.out.size))
  clear hb9
  go_wp2_with fail
  refine (O2.out _).mono ?_; rintro e w10 ⟨rfl, hb10⟩
  have HB10 : Hid (Below W.heap.size W w10) := Lib.hid (HB9.out.trans (hb10.mono HB9.out.size))
  clear hb10
  go_wp2_with fail
  refine (O3.out _).mono ?_; rintro e w11 ⟨rfl, hb11⟩
  have HB11 : Hid (Below W.heap.size W w11) := Lib.hid (HB10.out.trans (hb11.mono HB10.out.size))
  clear hb11
  go_wp2_with fail
  refine (K2R.out _).mono ?_; rintro e w12 ⟨rfl, hb12⟩
  have HB12 : Hid (Below W.heap.size W w12) := Lib.hid (HB11.out.trans (hb12.mono HB11.out.size))
  clear hb12
  obtain ⟨e0, e1, e2, e3, e4, e5, e6, e7, e8, e9, e10, e11, e12, e13, e14⟩ := HK.out _ HB12.out
  go_wp2_with fail
  refine (R1.out _ HB12.out).mono ?_; rintro e w13 ⟨rfl, hb13⟩
  have HB13 : Hid (Below W.heap.size W w13) := Lib.hid (HB12.out.trans (hb13.mono HB12.out.size))
  clear hb13
  clear e0 e1 e2 e3 e4 e5 e6 e7 e8 e9 e10 e11 e12 e13 e14
  obtain ⟨e0, e1, e2, e3, e4, e5, e6, e7, e8, e9, e10, e11, e12, e13, e14⟩ := HK.out _ HB13.out
  cases d1
  · go_wp2_with fail
    refine (C11.out _ HB13.out).mono ?_; rintro e w20 ⟨rfl, hb20⟩
    have ho := HX.out.2
    go_wp2
    go_ret
    exact ⟨rfl, HWB.out _ (HB13.out.trans (hb20.mono HB13.out.size))⟩
  go_wp2_with fail
  refine (R2.out _ HB13.out).mono ?_; rintro e w14 ⟨rfl, hb14⟩
  have HB14 : Hid (Below W.heap.size W w14) := Lib.hid (HB13.out.trans (hb14.mono HB13.out.size))
  clear hb14
  clear e0 e1 e2 e3 e4 e5 e6 e7 e8 e9 e10 e11 e12 e13 e14
  obtain ⟨e0, e1, e2, e3, e4, e5, e6, e7, e8, e9, e10, e11, e12, e13, e14⟩ := HK.out _ HB14.out
  cases d2
  · go_wp2_with fail
    refine (C11.out _ HB14.out).mono ?_; rintro e w20 ⟨rfl, hb20⟩
    have ho := HX.out.2
    go_wp2
    go_ret
    exact ⟨rfl, HWB.out _ (HB14.out.trans (hb20.mono HB14.out.size))⟩
  go_wp2_with fail
  refine (R3.out _ HB14.out).mono ?_; rintro e w15 ⟨rfl, hb15⟩
  have HB15 : Hid (Below W.heap.size W w15) := Lib.hid (HB14.out.trans (hb15.mono HB14.out.size))
  clear hb15
  clear e0 e1 e2 e3 e4 e5 e6 e7 e8 e9 e10 e11 e12 e13 e14
  obtain ⟨e0, e1, e2, e3, e4, e5, e6, e7, e8, e9, e10, e11, e12, e13, e14⟩ := HK.out _ HB15.out
  cases d3
  · go_wp2_with fail
    refine (C11.out _ HB15.out).mono ?_; rintro e w20 ⟨rfl, hb20⟩
    have ho := HX.out.2
    go_wp2
    go_ret
    exact ⟨rfl, HWB.out _ (HB15.out.trans (hb20.mono HB15.out.size))⟩
  go_wp2_with fail
  refine (C21.out _ HB15.out).mono ?_; rintro e w16 ⟨rfl, hb16⟩
  have HB16 : Hid (Below W.heap.size W w16) := Lib.hid (HB15.out.trans (hb16.mono HB15.out.size))
  clear hb16
  clear e0 e1 e2 e3 e4 e5 e6 e7 e8 e9 e10 e11 e12 e13 e14
  obtain ⟨e0, e1, e2, e3, e4, e5, e6, e7, e8, e9, e10, e11, e12, e13, e14⟩ := HK.out _ HB16.out
  obtain ⟨hx, hy, hz, hx', hu, ht1, ht2⟩ := HX.out.1 (by simp)
  have HU := Lib.hid hu
  have HYZ : Hid ((y = -1 ∨ y = 0 ∨ y = 1) ∧ (z = -1 ∨ z = 0 ∨ z = 1) ∧ (x ≤ 0 → y ≤ 0 → z ≤ 0) ∧ (x < 0 → y ≤ 0 → z < 0)) := Lib.hid ⟨hy, hz, ht1, ht2⟩
  clear hy hz ht1 ht2 hu HX
  rcases hx with rfl | rfl | rfl
  all_goals
    obtain rfl := hx'
    go_wp2_with fail
    refine (RS.out _ HB16.out).mono ?_; rintro e w17 ⟨rfl, hb17⟩
    have HB17 : Hid (Below W.heap.size W w17) := Lib.hid (HB16.out.trans (hb17.mono HB16.out.size))
    clear hb17 e0 e1 e2 e3 e4 e5 e6 e7 e8 e9 e10 e11 e12 e13 e14
    have hu := HU.out
    obtain ⟨hy, hz, ht1, ht2⟩ := HYZ.out
    clear HU HYZ
    cases u
    all_goals first | (exfalso; simp at hu; done) | skip
    all_goals clear hu
    all_goals rcases hy with rfl | rfl | rfl
    all_goals rcases hz with rfl | rfl | rfl
    all_goals first | (exfalso; omega) | skip
    all_goals
      clear ht1 ht2
      go_wp2
      go_ret
      exact ⟨rfl, HWB.out _ HB17.out⟩

end Go.Proofs.Ytmcfeibfbamncaa
