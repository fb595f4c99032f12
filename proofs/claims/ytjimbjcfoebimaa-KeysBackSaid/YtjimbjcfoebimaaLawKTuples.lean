/-
  KeysTuples: keys of several values are in the order of the first ones that differ. Conditions: none.
-/
import Derived.Test.YtjimbjcfoebimaaLawKPuts
import Derived.Test.YtjimbjcfoebimaaKVals
import Derived.Test.YtjimbjcfoebimaaVRefCmpV
import Derived.Test.YtjimbjcfoebimaaCmpRef
import Derived.Deep.RegionHeld3
import Derived.Outline
set_option linter.unusedVariables false
set_option maxRecDepth 100000
namespace Go.Proofs.Ytjimbjcfoebimaa
open Go.RowKit

theorem box2_cells2 {w w1 : World} {a b : Array Value} {t t' : TypeId} (hb : Below ((w.alloc (.cells a t)).alloc (.cells b t')).heap.size ((w.alloc (.cells a t)).alloc (.cells b t')) w1) :
    (∀ i, w1.cell? ⟨w.heap.size, i, none⟩ = a[i]?) ∧ (∀ i, w1.cell? ⟨w.heap.size + 1, i, none⟩ = b[i]?) := ⟨fun i => (box2_cell hb i).1, fun i => (box2_cell hb i).2⟩
theorem below_al {W Y : World} (h : Below W.heap.size W Y) (o : Obj) : Below W.heap.size W (Y.alloc o) := h.alloc h.size _
theorem below_then {W Y Z : World} (h : Below W.heap.size W Y) (h' : Below Y.heap.size Y Z) : Below W.heap.size W Z := h.trans (h'.mono h.size)

/-- Two values that the call lays. -/
theorem vs_two {w : World} {g : Nat} (hg : g = w.heap.size) (a b : Va) (ha : a.Ok w) (hb : b.Ok w) (t : TypeId) :
    Vs (w.alloc (.cells #[.int .i64 a.a.k, .int .i64 a.a.n, .float .f64 a.a.f, .string a.a.s, .slice a.q a.m a.c, .int .i64 b.a.k, .int .i64 b.a.n, .float .f64 b.a.f, .string b.a.s, .slice b.q b.m b.c] t)) (some ⟨g, 0, none⟩) [a, b] := by
  subst hg
  have hbl : Below w.heap.size w (w.alloc (.cells #[.int .i64 a.a.k, .int .i64 a.a.n, .float .f64 a.a.f, .string a.a.s, .slice a.q a.m a.c, .int .i64 b.a.k, .int .i64 b.a.n, .float .f64 b.a.f, .string b.a.s, .slice b.q b.m b.c] t)) := box_below (Below.refl _ _)
  have hc := fun i => Joins.cell_of_block (heap_alloc_new w (.cells #[.int .i64 a.a.k, .int .i64 a.a.n, .float .f64 a.a.f, .string a.a.s, .slice a.q a.m a.c, .int .i64 b.a.k, .int .i64 b.a.n, .float .f64 b.a.f, .string b.a.s, .slice b.q b.m b.c] t)) i
  refine ⟨fun v hv => ?_, fun _ => ⟨w.heap.size, 0, rfl, fun i v hi => ?_⟩⟩
  · simp only [List.mem_cons, List.not_mem_nil, or_false] at hv
    rcases hv with rfl | rfl
    · exact VaOk.below ha hbl
    · exact VaOk.below hb hbl
  · match i, hi with
    | 0, hi =>
      obtain rfl : a = v := by simpa using hi
      exact ⟨hc 0, hc 1, hc 2, hc 3, hc 4⟩
    | 1, hi =>
      obtain rfl : b = v := by simpa using hi
      exact ⟨hc 5, hc 6, hc 7, hc 8, hc 9⟩
    | i + 2, hi => simp at hi

/-- Keys of two values stand as the first ones that differ. -/
theorem tup_cmp {x y : Int} {a b c d : Va} (h0 : Sep (putK a.a a.l) (putK c.a c.l) x) (h1 : Sep (putK b.a b.l) (putK d.a d.l) y) : Lib.compareBytes (tupK [a, b]) (tupK [c, d]) = orI x y := by
  have h := (h0.app h1).cmp
  simp only [tupK, List.append_nil]
  exact h

set_option maxHeartbeats 8000000 in
theorem lawTuples4_any {w : World} {k1 n1 : Int} {f1 : Nat} {s1 : ByteArray} {q1 : Option Addr} {m1 c1 : Nat} {l1 : List At} (h1 : VaOk w ⟨k1, n1, f1, s1⟩ q1 m1 c1 l1) {k2 n2 : Int} {f2 : Nat} {s2 : ByteArray} {q2 : Option Addr} {m2 c2 : Nat} {l2 : List At} (h2 : VaOk w ⟨k2, n2, f2, s2⟩ q2 m2 c2 l2) {k3 n3 : Int} {f3 : Nat} {s3 : ByteArray} {q3 : Option Addr} {m3 c3 : Nat} {l3 : List At} (h3 : VaOk w ⟨k3, n3, f3, s3⟩ q3 m3 c3 l3) {k4 n4 : Int} {f4 : Nat} {s4 : ByteArray} {q4 : Option Addr} {m4 c4 : Nat} {l4 : List At} (h4 : VaOk w ⟨k4, n4, f4, s4⟩ q4 m4 c4 l4) :
    Calls Try.prog 8 #[.agg #[.int .i64 k1, .int .i64 n1, .float .f64 f1, .string s1, .slice q1 m1 c1, .int .i64 k2, .int .i64 n2, .float .f64 f2, .string s2, .slice q2 m2 c2], .agg #[.int .i64 k3, .int .i64 n3, .float .f64 f3, .string s3, .slice q3 m3 c3, .int .i64 k4, .int .i64 n4, .float .f64 f4, .string s4, .slice q4 m4 c4]] w fun e w' => e = .returned (.bool true) ∧ Below w.heap.size w w' := by
  obtain ⟨W, hW⟩ : ∃ W, W = (w.alloc (.cells #[.int .i64 k1, .int .i64 n1, .float .f64 f1, .string s1, .slice q1 m1 c1, .int .i64 k2, .int .i64 n2, .float .f64 f2, .string s2, .slice q2 m2 c2] 49)).alloc (.cells #[.int .i64 k3, .int .i64 n3, .float .f64 f3, .string s3, .slice q3 m3 c3, .int .i64 k4, .int .i64 n4, .float .f64 f4, .string s4, .slice q4 m4 c4] 49) := ⟨_, rfl⟩
  have HK : Hid (∀ w', Below W.heap.size W w' → (w'.cell? ⟨w.heap.size, 0, none⟩ = some (.int .i64 k1) ∧ w'.cell? ⟨w.heap.size, 1, none⟩ = some (.int .i64 n1) ∧ w'.cell? ⟨w.heap.size, 2, none⟩ = some (.float .f64 f1) ∧ w'.cell? ⟨w.heap.size, 3, none⟩ = some (.string s1) ∧ w'.cell? ⟨w.heap.size, 4, none⟩ = some (.slice q1 m1 c1) ∧ w'.cell? ⟨w.heap.size, 5, none⟩ = some (.int .i64 k2) ∧ w'.cell? ⟨w.heap.size, 6, none⟩ = some (.int .i64 n2) ∧ w'.cell? ⟨w.heap.size, 7, none⟩ = some (.float .f64 f2) ∧ w'.cell? ⟨w.heap.size, 8, none⟩ = some (.string s2) ∧ w'.cell? ⟨w.heap.size, 9, none⟩ = some (.slice q2 m2 c2) ∧ w'.cell? ⟨w.heap.size + 1, 0, none⟩ = some (.int .i64 k3) ∧ w'.cell? ⟨w.heap.size + 1, 1, none⟩ = some (.int .i64 n3) ∧ w'.cell? ⟨w.heap.size + 1, 2, none⟩ = some (.float .f64 f3) ∧ w'.cell? ⟨w.heap.size + 1, 3, none⟩ = some (.string s3) ∧ w'.cell? ⟨w.heap.size + 1, 4, none⟩ = some (.slice q3 m3 c3) ∧ w'.cell? ⟨w.heap.size + 1, 5, none⟩ = some (.int .i64 k4) ∧ w'.cell? ⟨w.heap.size + 1, 6, none⟩ = some (.int .i64 n4) ∧ w'.cell? ⟨w.heap.size + 1, 7, none⟩ = some (.float .f64 f4) ∧ w'.cell? ⟨w.heap.size + 1, 8, none⟩ = some (.string s4) ∧ w'.cell? ⟨w.heap.size + 1, 9, none⟩ = some (.slice q4 m4 c4))) := by
    refine Lib.hid fun w' hb => ?_
    rw [hW] at hb
    obtain ⟨g1, g2⟩ := box2_cells2 hb
    exact ⟨g1 0, g1 1, g1 2, g1 3, g1 4, g1 5, g1 6, g1 7, g1 8, g1 9, g2 0, g2 1, g2 2, g2 3, g2 4, g2 5, g2 6, g2 7, g2 8, g2 9⟩
  have HWB : Hid (∀ w', Below W.heap.size W w' → Below w.heap.size w w') := by
    refine Lib.hid fun w' hb => ?_
    rw [hW] at hb
    exact box2_below hb
  have hst := store_flt
  have HB0 : Hid (Below W.heap.size W W) := Lib.hid (Below.refl _ _)
  have HS1 : Hid (∀ w', Below W.heap.size W w' → Calls Try.prog 13 #[.agg #[.int .i64 k1, .int .i64 n1, .float .f64 f1, .string s1, .slice q1 m1 c1]] w' (SomeBool w')) := Lib.hid fun w' hb => short_any (h1.below (HWB.out _ hb))
  have HV1 : Hid (∀ w', Below W.heap.size W w' → Calls Try.prog 10 #[.agg #[.int .i64 k1, .int .i64 n1, .float .f64 f1, .string s1, .slice q1 m1 c1]] w' fun e w'' => e = .returned (.bool (validV ⟨k1, n1, f1, s1⟩ l1)) ∧ Below w'.heap.size w' w'') := Lib.hid fun w' hb => refValid_any (h1.below (HWB.out _ hb))
  have HQ1 := Lib.hid h1
  have HO1 : Hid (∀ w', Below W.heap.size W w' → (⟨⟨k1, n1, f1, s1⟩, q1, m1, c1, l1⟩ : Va).Ok w') := Lib.hid fun w' hb => VaOk.below h1 (HWB.out _ hb)
  have HS2 : Hid (∀ w', Below W.heap.size W w' → Calls Try.prog 13 #[.agg #[.int .i64 k2, .int .i64 n2, .float .f64 f2, .string s2, .slice q2 m2 c2]] w' (SomeBool w')) := Lib.hid fun w' hb => short_any (h2.below (HWB.out _ hb))
  have HV2 : Hid (∀ w', Below W.heap.size W w' → Calls Try.prog 10 #[.agg #[.int .i64 k2, .int .i64 n2, .float .f64 f2, .string s2, .slice q2 m2 c2]] w' fun e w'' => e = .returned (.bool (validV ⟨k2, n2, f2, s2⟩ l2)) ∧ Below w'.heap.size w' w'') := Lib.hid fun w' hb => refValid_any (h2.below (HWB.out _ hb))
  have HQ2 := Lib.hid h2
  have HO2 : Hid (∀ w', Below W.heap.size W w' → (⟨⟨k2, n2, f2, s2⟩, q2, m2, c2, l2⟩ : Va).Ok w') := Lib.hid fun w' hb => VaOk.below h2 (HWB.out _ hb)
  have HS3 : Hid (∀ w', Below W.heap.size W w' → Calls Try.prog 13 #[.agg #[.int .i64 k3, .int .i64 n3, .float .f64 f3, .string s3, .slice q3 m3 c3]] w' (SomeBool w')) := Lib.hid fun w' hb => short_any (h3.below (HWB.out _ hb))
  have HV3 : Hid (∀ w', Below W.heap.size W w' → Calls Try.prog 10 #[.agg #[.int .i64 k3, .int .i64 n3, .float .f64 f3, .string s3, .slice q3 m3 c3]] w' fun e w'' => e = .returned (.bool (validV ⟨k3, n3, f3, s3⟩ l3)) ∧ Below w'.heap.size w' w'') := Lib.hid fun w' hb => refValid_any (h3.below (HWB.out _ hb))
  have HQ3 := Lib.hid h3
  have HO3 : Hid (∀ w', Below W.heap.size W w' → (⟨⟨k3, n3, f3, s3⟩, q3, m3, c3, l3⟩ : Va).Ok w') := Lib.hid fun w' hb => VaOk.below h3 (HWB.out _ hb)
  have HS4 : Hid (∀ w', Below W.heap.size W w' → Calls Try.prog 13 #[.agg #[.int .i64 k4, .int .i64 n4, .float .f64 f4, .string s4, .slice q4 m4 c4]] w' (SomeBool w')) := Lib.hid fun w' hb => short_any (h4.below (HWB.out _ hb))
  have HV4 : Hid (∀ w', Below W.heap.size W w' → Calls Try.prog 10 #[.agg #[.int .i64 k4, .int .i64 n4, .float .f64 f4, .string s4, .slice q4 m4 c4]] w' fun e w'' => e = .returned (.bool (validV ⟨k4, n4, f4, s4⟩ l4)) ∧ Below w'.heap.size w' w'') := Lib.hid fun w' hb => refValid_any (h4.below (HWB.out _ hb))
  have HQ4 := Lib.hid h4
  have HO4 : Hid (∀ w', Below W.heap.size W w' → (⟨⟨k4, n4, f4, s4⟩, q4, m4, c4, l4⟩ : Va).Ok w') := Lib.hid fun w' hb => VaOk.below h4 (HWB.out _ hb)
  have HC1 : Hid (∀ w', Below W.heap.size W w' → Calls Try.prog 16 #[.agg #[.int .i64 k1, .int .i64 n1, .float .f64 f1, .string s1, .slice q1 m1 c1], .agg #[.int .i64 k3, .int .i64 n3, .float .f64 f3, .string s3, .slice q3 m3 c3]] w' fun e w'' => e = .returned (.int .i64 (cmpV ⟨k1, n1, f1, s1⟩ l1 ⟨k3, n3, f3, s3⟩ l3)) ∧ Below w'.heap.size w' w'') := Lib.hid fun w' hb => by
    have h := refCompareV_any (h1.below (HWB.out _ hb)) (h3.below (HWB.out _ hb))
    rw [compareR_eq h1.ok h1.hok h3.ok h3.hok] at h
    exact h
  have HSEP1 : Hid (validV ⟨k1, n1, f1, s1⟩ l1 = true → validV ⟨k3, n3, f3, s3⟩ l3 = true → Sep (putK ⟨k1, n1, f1, s1⟩ l1) (putK ⟨k3, n3, f3, s3⟩ l3) (cmpV ⟨k1, n1, f1, s1⟩ l1 ⟨k3, n3, f3, s3⟩ l3)) := Lib.hid fun va vb => by
    unfold putK
    rw [if_pos va, if_pos vb]
    exact sep_vals h1.ok h1.hok h3.ok h3.hok va vb
  have HC2 : Hid (∀ w', Below W.heap.size W w' → Calls Try.prog 16 #[.agg #[.int .i64 k2, .int .i64 n2, .float .f64 f2, .string s2, .slice q2 m2 c2], .agg #[.int .i64 k4, .int .i64 n4, .float .f64 f4, .string s4, .slice q4 m4 c4]] w' fun e w'' => e = .returned (.int .i64 (cmpV ⟨k2, n2, f2, s2⟩ l2 ⟨k4, n4, f4, s4⟩ l4)) ∧ Below w'.heap.size w' w'') := Lib.hid fun w' hb => by
    have h := refCompareV_any (h2.below (HWB.out _ hb)) (h4.below (HWB.out _ hb))
    rw [compareR_eq h2.ok h2.hok h4.ok h4.hok] at h
    exact h
  have HSEP2 : Hid (validV ⟨k2, n2, f2, s2⟩ l2 = true → validV ⟨k4, n4, f4, s4⟩ l4 = true → Sep (putK ⟨k2, n2, f2, s2⟩ l2) (putK ⟨k4, n4, f4, s4⟩ l4) (cmpV ⟨k2, n2, f2, s2⟩ l2 ⟨k4, n4, f4, s4⟩ l4)) := Lib.hid fun va vb => by
    unfold putK
    rw [if_pos va, if_pos vb]
    exact sep_vals h2.ok h2.hok h4.ok h4.hok va vb
  have HLEN : Hid (validV ⟨k1, n1, f1, s1⟩ l1 = true → validV ⟨k2, n2, f2, s2⟩ l2 = true → 1 < (tupK [⟨⟨k1, n1, f1, s1⟩, q1, m1, c1, l1⟩, ⟨⟨k2, n2, f2, s2⟩, q2, m2, c2, l2⟩]).length) := Lib.hid fun va vb => by
    have g1 := valK_pos ⟨k1, n1, f1, s1⟩ l1
    have g2 := valK_pos ⟨k2, n2, f2, s2⟩ l2
    simp only [tupK, putK, if_pos va, if_pos vb, List.append_nil, List.length_append]
    omega
  have HPN := Lib.hid putNull_any
  clear h1 h2 h3 h4
  generalize cmpV ⟨k1, n1, f1, s1⟩ l1 ⟨k3, n3, f3, s3⟩ l3 = x1 at *
  generalize cmpV ⟨k2, n2, f2, s2⟩ l2 ⟨k4, n4, f4, s4⟩ l4 = x2 at *
  generalize validV ⟨k1, n1, f1, s1⟩ l1 = v1 at *
  generalize validV ⟨k2, n2, f2, s2⟩ l2 = v2 at *
  generalize validV ⟨k3, n3, f3, s3⟩ l3 = v3 at *
  generalize validV ⟨k4, n4, f4, s4⟩ l4 = v4 at *
  go_enter Try.func8, Try.ntmps8
  go_wp2_with fail
  rw [← hW]
  replace hW := Lib.hid hW
  go_loopw [5] (fun i wr => ∃ j : Nat, i = .int .i64 j ∧ j ≤ 2 ∧ (0 < j → v1 = true ∧ v3 = true) ∧ (1 < j → v2 = true ∧ v4 = true) ∧ Below W.heap.size W wr) (fun i _ => 2 - (intOf i).toNat)
  case atStart => exact ⟨0, rfl, by omega, fun h => absurd h (by omega), fun h => absurd h (by omega), HB0.out⟩
  case round =>
    obtain ⟨j, rfl, hj, hr0, hr1, hb⟩ := hrel
    have HB := Lib.hid hb
    clear hb
    have hjs : j = 0 ∨ j = 1 ∨ j = 2 := by omega
    clear hj
    obtain ⟨z0, z1, z2, z3, z4, z5, z6, z7, z8, z9, z10, z11, z12, z13, z14, z15, z16, z17, z18, z19⟩ := HK.out _ HB.out
    rcases hjs with rfl | rfl | rfl
    · clear hr0 hr1
      go_wp2_with fail
      refine (HS1.out _ HB.out).mono ?_; rintro e w00 ⟨sb, rfl, hb00⟩
      have HB00 : Hid (Below W.heap.size W w00) := Lib.hid (HB.out.trans (hb00.mono HB.out.size))
      clear hb00
      clear z0 z1 z2 z3 z4 z5 z6 z7 z8 z9 z10 z11 z12 z13 z14 z15 z16 z17 z18 z19
      obtain ⟨z0, z1, z2, z3, z4, z5, z6, z7, z8, z9, z10, z11, z12, z13, z14, z15, z16, z17, z18, z19⟩ := HK.out _ HB00.out
      cases sb
      · clear z0 z1 z2 z3 z4 z5 z6 z7 z8 z9 z10 z11 z12 z13 z14 z15 z16 z17 z18 z19
        go_wp2_with fail
        refine (HPN.out _).mono ?_; rintro e w99 ⟨v99, rfl, ho99, hb99⟩
        obtain ⟨p99, c99, rfl, _, _, _, _⟩ := ho99.form (n := 1) rfl
        have HB99 : Hid (Below W.heap.size W w99) := Lib.hid (HB00.out.trans (hb99.mono HB00.out.size))
        clear ho99 hb99
        go_wp2
        go_ret
        exact ⟨rfl, HWB.out _ HB99.out⟩
      go_wp2_with fail
      refine (HS3.out _ HB00.out).mono ?_; rintro e w01 ⟨sb, rfl, hb01⟩
      have HB01 : Hid (Below W.heap.size W w01) := Lib.hid (HB00.out.trans (hb01.mono HB00.out.size))
      clear hb01
      clear z0 z1 z2 z3 z4 z5 z6 z7 z8 z9 z10 z11 z12 z13 z14 z15 z16 z17 z18 z19
      obtain ⟨z0, z1, z2, z3, z4, z5, z6, z7, z8, z9, z10, z11, z12, z13, z14, z15, z16, z17, z18, z19⟩ := HK.out _ HB01.out
      cases sb
      · clear z0 z1 z2 z3 z4 z5 z6 z7 z8 z9 z10 z11 z12 z13 z14 z15 z16 z17 z18 z19
        go_wp2_with fail
        refine (HPN.out _).mono ?_; rintro e w99 ⟨v99, rfl, ho99, hb99⟩
        obtain ⟨p99, c99, rfl, _, _, _, _⟩ := ho99.form (n := 1) rfl
        have HB99 : Hid (Below W.heap.size W w99) := Lib.hid (HB01.out.trans (hb99.mono HB01.out.size))
        clear ho99 hb99
        go_wp2
        go_ret
        exact ⟨rfl, HWB.out _ HB99.out⟩
      go_wp2_with fail
      refine (HV1.out _ HB01.out).mono ?_; rintro e w02 ⟨rfl, hb02⟩
      have HB02 : Hid (Below W.heap.size W w02) := Lib.hid (HB01.out.trans (hb02.mono HB01.out.size))
      clear hb02
      clear z0 z1 z2 z3 z4 z5 z6 z7 z8 z9 z10 z11 z12 z13 z14 z15 z16 z17 z18 z19
      obtain ⟨z0, z1, z2, z3, z4, z5, z6, z7, z8, z9, z10, z11, z12, z13, z14, z15, z16, z17, z18, z19⟩ := HK.out _ HB02.out
      cases hv1 : v1
      · clear z0 z1 z2 z3 z4 z5 z6 z7 z8 z9 z10 z11 z12 z13 z14 z15 z16 z17 z18 z19
        go_wp2_with fail
        refine (HPN.out _).mono ?_; rintro e w99 ⟨v99, rfl, ho99, hb99⟩
        obtain ⟨p99, c99, rfl, _, _, _, _⟩ := ho99.form (n := 1) rfl
        have HB99 : Hid (Below W.heap.size W w99) := Lib.hid (HB02.out.trans (hb99.mono HB02.out.size))
        clear ho99 hb99
        go_wp2
        go_ret
        exact ⟨rfl, HWB.out _ HB99.out⟩
      go_wp2_with fail
      refine (HV3.out _ HB02.out).mono ?_; rintro e w03 ⟨rfl, hb03⟩
      have HB03 : Hid (Below W.heap.size W w03) := Lib.hid (HB02.out.trans (hb03.mono HB02.out.size))
      clear hb03
      clear z0 z1 z2 z3 z4 z5 z6 z7 z8 z9 z10 z11 z12 z13 z14 z15 z16 z17 z18 z19
      obtain ⟨z0, z1, z2, z3, z4, z5, z6, z7, z8, z9, z10, z11, z12, z13, z14, z15, z16, z17, z18, z19⟩ := HK.out _ HB03.out
      cases hv3 : v3
      · clear z0 z1 z2 z3 z4 z5 z6 z7 z8 z9 z10 z11 z12 z13 z14 z15 z16 z17 z18 z19
        go_wp2_with fail
        refine (HPN.out _).mono ?_; rintro e w99 ⟨v99, rfl, ho99, hb99⟩
        obtain ⟨p99, c99, rfl, _, _, _, _⟩ := ho99.form (n := 1) rfl
        have HB99 : Hid (Below W.heap.size W w99) := Lib.hid (HB03.out.trans (hb99.mono HB03.out.size))
        clear ho99 hb99
        go_wp2
        go_ret
        exact ⟨rfl, HWB.out _ HB99.out⟩
      go_wp2
      go_roundw
      case rel => exact ⟨1, rfl, by omega, fun _ => ⟨hv1, hv3⟩, fun h => absurd h (by omega), HB03.out⟩
      case measure => simp [intOf]
    · clear hr1
      go_wp2_with fail
      refine (HS2.out _ HB.out).mono ?_; rintro e w10 ⟨sb, rfl, hb10⟩
      have HB10 : Hid (Below W.heap.size W w10) := Lib.hid (HB.out.trans (hb10.mono HB.out.size))
      clear hb10
      clear z0 z1 z2 z3 z4 z5 z6 z7 z8 z9 z10 z11 z12 z13 z14 z15 z16 z17 z18 z19
      obtain ⟨z0, z1, z2, z3, z4, z5, z6, z7, z8, z9, z10, z11, z12, z13, z14, z15, z16, z17, z18, z19⟩ := HK.out _ HB10.out
      cases sb
      · clear z0 z1 z2 z3 z4 z5 z6 z7 z8 z9 z10 z11 z12 z13 z14 z15 z16 z17 z18 z19
        go_wp2_with fail
        refine (HPN.out _).mono ?_; rintro e w99 ⟨v99, rfl, ho99, hb99⟩
        obtain ⟨p99, c99, rfl, _, _, _, _⟩ := ho99.form (n := 1) rfl
        have HB99 : Hid (Below W.heap.size W w99) := Lib.hid (HB10.out.trans (hb99.mono HB10.out.size))
        clear ho99 hb99
        go_wp2
        go_ret
        exact ⟨rfl, HWB.out _ HB99.out⟩
      go_wp2_with fail
      refine (HS4.out _ HB10.out).mono ?_; rintro e w11 ⟨sb, rfl, hb11⟩
      have HB11 : Hid (Below W.heap.size W w11) := Lib.hid (HB10.out.trans (hb11.mono HB10.out.size))
      clear hb11
      clear z0 z1 z2 z3 z4 z5 z6 z7 z8 z9 z10 z11 z12 z13 z14 z15 z16 z17 z18 z19
      obtain ⟨z0, z1, z2, z3, z4, z5, z6, z7, z8, z9, z10, z11, z12, z13, z14, z15, z16, z17, z18, z19⟩ := HK.out _ HB11.out
      cases sb
      · clear z0 z1 z2 z3 z4 z5 z6 z7 z8 z9 z10 z11 z12 z13 z14 z15 z16 z17 z18 z19
        go_wp2_with fail
        refine (HPN.out _).mono ?_; rintro e w99 ⟨v99, rfl, ho99, hb99⟩
        obtain ⟨p99, c99, rfl, _, _, _, _⟩ := ho99.form (n := 1) rfl
        have HB99 : Hid (Below W.heap.size W w99) := Lib.hid (HB11.out.trans (hb99.mono HB11.out.size))
        clear ho99 hb99
        go_wp2
        go_ret
        exact ⟨rfl, HWB.out _ HB99.out⟩
      go_wp2_with fail
      refine (HV2.out _ HB11.out).mono ?_; rintro e w12 ⟨rfl, hb12⟩
      have HB12 : Hid (Below W.heap.size W w12) := Lib.hid (HB11.out.trans (hb12.mono HB11.out.size))
      clear hb12
      clear z0 z1 z2 z3 z4 z5 z6 z7 z8 z9 z10 z11 z12 z13 z14 z15 z16 z17 z18 z19
      obtain ⟨z0, z1, z2, z3, z4, z5, z6, z7, z8, z9, z10, z11, z12, z13, z14, z15, z16, z17, z18, z19⟩ := HK.out _ HB12.out
      cases hv2 : v2
      · clear z0 z1 z2 z3 z4 z5 z6 z7 z8 z9 z10 z11 z12 z13 z14 z15 z16 z17 z18 z19
        go_wp2_with fail
        refine (HPN.out _).mono ?_; rintro e w99 ⟨v99, rfl, ho99, hb99⟩
        obtain ⟨p99, c99, rfl, _, _, _, _⟩ := ho99.form (n := 1) rfl
        have HB99 : Hid (Below W.heap.size W w99) := Lib.hid (HB12.out.trans (hb99.mono HB12.out.size))
        clear ho99 hb99
        go_wp2
        go_ret
        exact ⟨rfl, HWB.out _ HB99.out⟩
      go_wp2_with fail
      refine (HV4.out _ HB12.out).mono ?_; rintro e w13 ⟨rfl, hb13⟩
      have HB13 : Hid (Below W.heap.size W w13) := Lib.hid (HB12.out.trans (hb13.mono HB12.out.size))
      clear hb13
      clear z0 z1 z2 z3 z4 z5 z6 z7 z8 z9 z10 z11 z12 z13 z14 z15 z16 z17 z18 z19
      obtain ⟨z0, z1, z2, z3, z4, z5, z6, z7, z8, z9, z10, z11, z12, z13, z14, z15, z16, z17, z18, z19⟩ := HK.out _ HB13.out
      cases hv4 : v4
      · clear z0 z1 z2 z3 z4 z5 z6 z7 z8 z9 z10 z11 z12 z13 z14 z15 z16 z17 z18 z19
        go_wp2_with fail
        refine (HPN.out _).mono ?_; rintro e w99 ⟨v99, rfl, ho99, hb99⟩
        obtain ⟨p99, c99, rfl, _, _, _, _⟩ := ho99.form (n := 1) rfl
        have HB99 : Hid (Below W.heap.size W w99) := Lib.hid (HB13.out.trans (hb99.mono HB13.out.size))
        clear ho99 hb99
        go_wp2
        go_ret
        exact ⟨rfl, HWB.out _ HB99.out⟩
      go_wp2
      go_roundw
      case rel => exact ⟨2, rfl, by omega, fun _ => hr0 (by omega), fun _ => ⟨hv2, hv4⟩, HB13.out⟩
      case measure => simp [intOf]
    · obtain ⟨rfl, rfl⟩ := hr0 (by omega)
      obtain ⟨rfl, rfl⟩ := hr1 (by omega)
      have HSEP1' := Lib.hid (HSEP1.out rfl rfl)
      have HSEP2' := Lib.hid (HSEP2.out rfl rfl)
      have HLEN' := Lib.hid (HLEN.out rfl rfl)
      clear hr0 hr1 HSEP1 HSEP2 HLEN
      have TX : Hid (∀ w' p, Vs w' p [⟨⟨k1, n1, f1, s1⟩, q1, m1, c1, l1⟩, ⟨⟨k2, n2, f2, s2⟩, q2, m2, c2, l2⟩] → Calls Try.prog 20 #[.slice p 2 2] w' (PutPost w' (tupK [⟨⟨k1, n1, f1, s1⟩, q1, m1, c1, l1⟩, ⟨⟨k2, n2, f2, s2⟩, q2, m2, c2, l2⟩]))) := Lib.hid fun w' p h => tuple_any rfl (by omega) (by omega) (by omega) h
      have TY : Hid (∀ w' p, Vs w' p [⟨⟨k3, n3, f3, s3⟩, q3, m3, c3, l3⟩, ⟨⟨k4, n4, f4, s4⟩, q4, m4, c4, l4⟩] → Calls Try.prog 20 #[.slice p 2 2] w' (PutPost w' (tupK [⟨⟨k3, n3, f3, s3⟩, q3, m3, c3, l3⟩, ⟨⟨k4, n4, f4, s4⟩, q4, m4, c4, l4⟩]))) := Lib.hid fun w' p h => tuple_any rfl (by omega) (by omega) (by omega) h
      have HXY : Hid (Lib.compareBytes (tupK [⟨⟨k1, n1, f1, s1⟩, q1, m1, c1, l1⟩, ⟨⟨k2, n2, f2, s2⟩, q2, m2, c2, l2⟩]) (tupK [⟨⟨k3, n3, f3, s3⟩, q3, m3, c3, l3⟩, ⟨⟨k4, n4, f4, s4⟩, q4, m4, c4, l4⟩]) = orI x1 x2) := Lib.hid (tup_cmp HSEP1'.out HSEP2'.out)
      have HXL := Lib.hid (tupK_len [⟨⟨k1, n1, f1, s1⟩, q1, m1, c1, l1⟩, ⟨⟨k2, n2, f2, s2⟩, q2, m2, c2, l2⟩])
      have HYL := Lib.hid (tupK_len [⟨⟨k3, n3, f3, s3⟩, q3, m3, c3, l3⟩, ⟨⟨k4, n4, f4, s4⟩, q4, m4, c4, l4⟩])
      clear HSEP1' HSEP2'
      generalize tupK [⟨⟨k1, n1, f1, s1⟩, q1, m1, c1, l1⟩, ⟨⟨k2, n2, f2, s2⟩, q2, m2, c2, l2⟩] = X at *
      generalize tupK [⟨⟨k3, n3, f3, s3⟩, q3, m3, c3, l3⟩, ⟨⟨k4, n4, f4, s4⟩, q4, m4, c4, l4⟩] = Y at *
      obtain ⟨nx, hnx⟩ : ∃ x, x = X.length := ⟨_, rfl⟩
      obtain ⟨ny, hny⟩ : ∃ x, x = Y.length := ⟨_, rfl⟩
      have hnx1 : (1 : Int) < (nx : Int) := by have := HLEN'.out; omega
      have hnx2 : nx ≤ 100000 := by have := HXL.out; simp only [List.length_cons, List.length_nil] at this; omega
      have hny2 : ny ≤ 100000 := by have := HYL.out; simp only [List.length_cons, List.length_nil] at this; omega
      have HNX := Lib.hid hnx
      have HNY := Lib.hid hny
      clear hnx hny HLEN' HXL HYL
      go_wp2_with fail
      refine (HC1.out _ HB.out).mono ?_; rintro e wa ⟨rfl, hba⟩
      have HBa : Hid (Below W.heap.size W wa) := Lib.hid (below_then HB.out hba)
      clear hba
      clear z0 z1 z2 z3 z4 z5 z6 z7 z8 z9 z10 z11 z12 z13 z14 z15 z16 z17 z18 z19
      obtain ⟨z0, z1, z2, z3, z4, z5, z6, z7, z8, z9, z10, z11, z12, z13, z14, z15, z16, z17, z18, z19⟩ := HK.out _ HBa.out
      by_cases hx : x1 = 0
      · have hx' : (x1 == 0) = true := by simpa using hx
        have HX1 := Lib.hid hx
        clear hx
        go_wp2_with fail
        refine (HC2.out _ HBa.out).mono ?_; rintro e wb ⟨rfl, hbb⟩
        have HBb : Hid (Below W.heap.size W wb) := Lib.hid (below_then HBa.out hbb)
        clear hbb
        clear z0 z1 z2 z3 z4 z5 z6 z7 z8 z9 z10 z11 z12 z13 z14 z15 z16 z17 z18 z19
        obtain ⟨z0, z1, z2, z3, z4, z5, z6, z7, z8, z9, z10, z11, z12, z13, z14, z15, z16, z17, z18, z19⟩ := HK.out _ HBb.out
        have HCMP : Hid (Lib.compareBytes X Y = x2) := Lib.hid (by rw [HXY.out]; unfold orI; rw [if_pos HX1.out])
        go_wp2_with fail
        go_region_held3 (fun w' => w'.cell? ⟨w.heap.size, 0, none⟩ = some (.int .i64 k1) ∧ w'.cell? ⟨w.heap.size, 1, none⟩ = some (.int .i64 n1) ∧ w'.cell? ⟨w.heap.size, 2, none⟩ = some (.float .f64 f1) ∧ w'.cell? ⟨w.heap.size, 3, none⟩ = some (.string s1) ∧ w'.cell? ⟨w.heap.size, 4, none⟩ = some (.slice q1 m1 c1) ∧ w'.cell? ⟨w.heap.size, 5, none⟩ = some (.int .i64 k2) ∧ w'.cell? ⟨w.heap.size, 6, none⟩ = some (.int .i64 n2) ∧ w'.cell? ⟨w.heap.size, 7, none⟩ = some (.float .f64 f2) ∧ w'.cell? ⟨w.heap.size, 8, none⟩ = some (.string s2) ∧ w'.cell? ⟨w.heap.size, 9, none⟩ = some (.slice q2 m2 c2) ∧ w'.cell? ⟨w.heap.size + 1, 0, none⟩ = some (.int .i64 k3) ∧ w'.cell? ⟨w.heap.size + 1, 1, none⟩ = some (.int .i64 n3) ∧ w'.cell? ⟨w.heap.size + 1, 2, none⟩ = some (.float .f64 f3) ∧ w'.cell? ⟨w.heap.size + 1, 3, none⟩ = some (.string s3) ∧ w'.cell? ⟨w.heap.size + 1, 4, none⟩ = some (.slice q3 m3 c3) ∧ w'.cell? ⟨w.heap.size + 1, 5, none⟩ = some (.int .i64 k4) ∧ w'.cell? ⟨w.heap.size + 1, 6, none⟩ = some (.int .i64 n4) ∧ w'.cell? ⟨w.heap.size + 1, 7, none⟩ = some (.float .f64 f4) ∧ w'.cell? ⟨w.heap.size + 1, 8, none⟩ = some (.string s4) ∧ w'.cell? ⟨w.heap.size + 1, 9, none⟩ = some (.slice q4 m4 c4))
          (first | exact HK.out _ HBb.out.drew | exact HK.out _ (below_al HBb.out _).drew | exact HK.out _ (below_al (below_al HBb.out _) _).drew | exact HK.out _ HB11.out | exact HK.out _ (below_al HB10.out _) | exact HK.out _ HB10.out)
          (first
            | (go_at_call 20; (with_reducible refine (TY.out w10 _ HVY.out).mono ?_); rintro e w11 ⟨v11, rfl, ho11, hb11⟩; have HB11 : Hid (Below W.heap.size W w11) := Lib.hid (below_then HB10.out hb11); have HO11 := Lib.hid (HO10.out.below hb11); obtain ⟨px, cx, rfl, _, _, hsx, _⟩ := HO11.out.form HNX.out; obtain ⟨py, cy, rfl, _, _, hsy, _⟩ := ho11.form HNY.out; have HSX := Lib.hid hsx; have HSY := Lib.hid hsy; clear ho11 hb11 hsx hsy)
            | (go_at_call 20; (with_reducible refine (TY.out (w10.alloc (.cells #[.int .i64 k3, .int .i64 n3, .float .f64 f3, .string s3, .slice q3 m3 c3, .int .i64 k4, .int .i64 n4, .float .f64 f4, .string s4, .slice q4 m4 c4] 27)) _ (vs_two (w := w10) (g := w10.heap.size) (by simp) ⟨⟨k3, n3, f3, s3⟩, q3, m3, c3, l3⟩ ⟨⟨k4, n4, f4, s4⟩, q4, m4, c4, l4⟩ (HO3.out _ HB10.out) (HO4.out _ HB10.out) 27)).mono ?_); rintro e w11 ⟨v11, rfl, ho11, hb11⟩; have HB11 : Hid (Below W.heap.size W w11) := Lib.hid (below_then (below_al HB10.out _) hb11); have HO11 := Lib.hid ((HO10.out.alloc _).below hb11); obtain ⟨px, cx, rfl, _, _, hsx, _⟩ := HO11.out.form HNX.out; obtain ⟨py, cy, rfl, _, _, hsy, _⟩ := ho11.form HNY.out; have HSX := Lib.hid hsx; have HSY := Lib.hid hsy; clear ho11 hb11 hsx hsy)
            | (go_at_call 20; (with_reducible refine (TX.out (wb.alloc (.cells #[.int .i64 k1, .int .i64 n1, .float .f64 f1, .string s1, .slice q1 m1 c1, .int .i64 k2, .int .i64 n2, .float .f64 f2, .string s2, .slice q2 m2 c2] 27) |>.alloc (.cells #[.int .i64 k3, .int .i64 n3, .float .f64 f3, .string s3, .slice q3 m3 c3, .int .i64 k4, .int .i64 n4, .float .f64 f4, .string s4, .slice q4 m4 c4] 27)).drew _ (Vs.below (Vs.below (vs_two (w := wb) (g := wb.heap.size) (by simp) ⟨⟨k1, n1, f1, s1⟩, q1, m1, c1, l1⟩ ⟨⟨k2, n2, f2, s2⟩, q2, m2, c2, l2⟩ (HO1.out _ HBb.out) (HO2.out _ HBb.out) 27) (box_below (Below.refl _ _))) (Below.refl _ _).drew)).mono ?_); rintro e w10 ⟨v10, rfl, ho10, hb10⟩; have HO10 := Lib.hid ho10; have HB10 : Hid (Below W.heap.size W w10) := Lib.hid (below_then (below_al (below_al HBb.out _) _).drew hb10); have HVY : Hid (Vs w10 (some ⟨wb.heap.size + 1, 0, none⟩) [⟨⟨k3, n3, f3, s3⟩, q3, m3, c3, l3⟩, ⟨⟨k4, n4, f4, s4⟩, q4, m4, c4, l4⟩]) := Lib.hid (Vs.below (Vs.below (vs_two (w := (wb.alloc (.cells #[.int .i64 k1, .int .i64 n1, .float .f64 f1, .string s1, .slice q1 m1 c1, .int .i64 k2, .int .i64 n2, .float .f64 f2, .string s2, .slice q2 m2 c2] 27))) (g := wb.heap.size + 1) (by simp) ⟨⟨k3, n3, f3, s3⟩, q3, m3, c3, l3⟩ ⟨⟨k4, n4, f4, s4⟩, q4, m4, c4, l4⟩ (HO3.out _ (below_al HBb.out _)) (HO4.out _ (below_al HBb.out _)) 27) (Below.refl _ _).drew) hb10); clear ho10 hb10)
            | (go_at_call 20; (with_reducible refine (TX.out (wb.alloc (.cells #[.int .i64 k3, .int .i64 n3, .float .f64 f3, .string s3, .slice q3 m3 c3, .int .i64 k4, .int .i64 n4, .float .f64 f4, .string s4, .slice q4 m4 c4] 27) |>.alloc (.cells #[.int .i64 k1, .int .i64 n1, .float .f64 f1, .string s1, .slice q1 m1 c1, .int .i64 k2, .int .i64 n2, .float .f64 f2, .string s2, .slice q2 m2 c2] 27)).drew _ (Vs.below (vs_two (w := (wb.alloc (.cells #[.int .i64 k3, .int .i64 n3, .float .f64 f3, .string s3, .slice q3 m3 c3, .int .i64 k4, .int .i64 n4, .float .f64 f4, .string s4, .slice q4 m4 c4] 27))) (g := wb.heap.size + 1) (by simp) ⟨⟨k1, n1, f1, s1⟩, q1, m1, c1, l1⟩ ⟨⟨k2, n2, f2, s2⟩, q2, m2, c2, l2⟩ (HO1.out _ (below_al HBb.out _)) (HO2.out _ (below_al HBb.out _)) 27) (Below.refl _ _).drew)).mono ?_); rintro e w10 ⟨v10, rfl, ho10, hb10⟩; have HO10 := Lib.hid ho10; have HB10 : Hid (Below W.heap.size W w10) := Lib.hid (below_then (below_al (below_al HBb.out _) _).drew hb10); have HVY : Hid (Vs w10 (some ⟨wb.heap.size, 0, none⟩) [⟨⟨k3, n3, f3, s3⟩, q3, m3, c3, l3⟩, ⟨⟨k4, n4, f4, s4⟩, q4, m4, c4, l4⟩]) := Lib.hid (Vs.below (Vs.below (Vs.below (vs_two (w := wb) (g := wb.heap.size) (by simp) ⟨⟨k3, n3, f3, s3⟩, q3, m3, c3, l3⟩ ⟨⟨k4, n4, f4, s4⟩, q4, m4, c4, l4⟩ (HO3.out _ HBb.out) (HO4.out _ HBb.out) 27) (box_below (Below.refl _ _))) (Below.refl _ _).drew) hb10); clear ho10 hb10)
            | (go_at_call 20; (with_reducible refine (TX.out (wb.alloc (.cells #[.int .i64 k1, .int .i64 n1, .float .f64 f1, .string s1, .slice q1 m1 c1, .int .i64 k2, .int .i64 n2, .float .f64 f2, .string s2, .slice q2 m2 c2] 27)).drew _ (Vs.below (vs_two (w := wb) (g := wb.heap.size) (by simp) ⟨⟨k1, n1, f1, s1⟩, q1, m1, c1, l1⟩ ⟨⟨k2, n2, f2, s2⟩, q2, m2, c2, l2⟩ (HO1.out _ HBb.out) (HO2.out _ HBb.out) 27) (Below.refl _ _).drew)).mono ?_); rintro e w10 ⟨v10, rfl, ho10, hb10⟩; have HO10 := Lib.hid ho10; have HB10 : Hid (Below W.heap.size W w10) := Lib.hid (below_then (below_al HBb.out _).drew hb10); clear ho10 hb10))
        all_goals
          go_wp2_with fail
          refine (oRefCompare_any HSX.out HSY.out nx cx ny cy HNX.out HNY.out (by omega) (by omega)).mono ?_; rintro e w13 ⟨rfl, hb13⟩
          rw [HCMP.out]
          have HB13 : Hid (Below W.heap.size W w13) := Lib.hid (below_then HB11.out hb13)
          clear hb13
          go_wp2
          go_ret
          exact ⟨rfl, HWB.out _ HB13.out⟩
      · have hx' : (x1 == 0) = false := by simpa using hx
        have HX1 := Lib.hid hx
        clear hx
        have HCMP : Hid (Lib.compareBytes X Y = x1) := Lib.hid (by rw [HXY.out]; unfold orI; rw [if_neg HX1.out])
        go_wp2_with fail
        go_region_held3 (fun w' => w'.cell? ⟨w.heap.size, 0, none⟩ = some (.int .i64 k1) ∧ w'.cell? ⟨w.heap.size, 1, none⟩ = some (.int .i64 n1) ∧ w'.cell? ⟨w.heap.size, 2, none⟩ = some (.float .f64 f1) ∧ w'.cell? ⟨w.heap.size, 3, none⟩ = some (.string s1) ∧ w'.cell? ⟨w.heap.size, 4, none⟩ = some (.slice q1 m1 c1) ∧ w'.cell? ⟨w.heap.size, 5, none⟩ = some (.int .i64 k2) ∧ w'.cell? ⟨w.heap.size, 6, none⟩ = some (.int .i64 n2) ∧ w'.cell? ⟨w.heap.size, 7, none⟩ = some (.float .f64 f2) ∧ w'.cell? ⟨w.heap.size, 8, none⟩ = some (.string s2) ∧ w'.cell? ⟨w.heap.size, 9, none⟩ = some (.slice q2 m2 c2) ∧ w'.cell? ⟨w.heap.size + 1, 0, none⟩ = some (.int .i64 k3) ∧ w'.cell? ⟨w.heap.size + 1, 1, none⟩ = some (.int .i64 n3) ∧ w'.cell? ⟨w.heap.size + 1, 2, none⟩ = some (.float .f64 f3) ∧ w'.cell? ⟨w.heap.size + 1, 3, none⟩ = some (.string s3) ∧ w'.cell? ⟨w.heap.size + 1, 4, none⟩ = some (.slice q3 m3 c3) ∧ w'.cell? ⟨w.heap.size + 1, 5, none⟩ = some (.int .i64 k4) ∧ w'.cell? ⟨w.heap.size + 1, 6, none⟩ = some (.int .i64 n4) ∧ w'.cell? ⟨w.heap.size + 1, 7, none⟩ = some (.float .f64 f4) ∧ w'.cell? ⟨w.heap.size + 1, 8, none⟩ = some (.string s4) ∧ w'.cell? ⟨w.heap.size + 1, 9, none⟩ = some (.slice q4 m4 c4))
          (first | exact HK.out _ HBa.out.drew | exact HK.out _ (below_al HBa.out _).drew | exact HK.out _ (below_al (below_al HBa.out _) _).drew | exact HK.out _ HB11.out | exact HK.out _ (below_al HB10.out _) | exact HK.out _ HB10.out)
          (first
            | (go_at_call 20; (with_reducible refine (TY.out w10 _ HVY.out).mono ?_); rintro e w11 ⟨v11, rfl, ho11, hb11⟩; have HB11 : Hid (Below W.heap.size W w11) := Lib.hid (below_then HB10.out hb11); have HO11 := Lib.hid (HO10.out.below hb11); obtain ⟨px, cx, rfl, _, _, hsx, _⟩ := HO11.out.form HNX.out; obtain ⟨py, cy, rfl, _, _, hsy, _⟩ := ho11.form HNY.out; have HSX := Lib.hid hsx; have HSY := Lib.hid hsy; clear ho11 hb11 hsx hsy)
            | (go_at_call 20; (with_reducible refine (TY.out (w10.alloc (.cells #[.int .i64 k3, .int .i64 n3, .float .f64 f3, .string s3, .slice q3 m3 c3, .int .i64 k4, .int .i64 n4, .float .f64 f4, .string s4, .slice q4 m4 c4] 27)) _ (vs_two (w := w10) (g := w10.heap.size) (by simp) ⟨⟨k3, n3, f3, s3⟩, q3, m3, c3, l3⟩ ⟨⟨k4, n4, f4, s4⟩, q4, m4, c4, l4⟩ (HO3.out _ HB10.out) (HO4.out _ HB10.out) 27)).mono ?_); rintro e w11 ⟨v11, rfl, ho11, hb11⟩; have HB11 : Hid (Below W.heap.size W w11) := Lib.hid (below_then (below_al HB10.out _) hb11); have HO11 := Lib.hid ((HO10.out.alloc _).below hb11); obtain ⟨px, cx, rfl, _, _, hsx, _⟩ := HO11.out.form HNX.out; obtain ⟨py, cy, rfl, _, _, hsy, _⟩ := ho11.form HNY.out; have HSX := Lib.hid hsx; have HSY := Lib.hid hsy; clear ho11 hb11 hsx hsy)
            | (go_at_call 20; (with_reducible refine (TX.out (wa.alloc (.cells #[.int .i64 k1, .int .i64 n1, .float .f64 f1, .string s1, .slice q1 m1 c1, .int .i64 k2, .int .i64 n2, .float .f64 f2, .string s2, .slice q2 m2 c2] 27) |>.alloc (.cells #[.int .i64 k3, .int .i64 n3, .float .f64 f3, .string s3, .slice q3 m3 c3, .int .i64 k4, .int .i64 n4, .float .f64 f4, .string s4, .slice q4 m4 c4] 27)).drew _ (Vs.below (Vs.below (vs_two (w := wa) (g := wa.heap.size) (by simp) ⟨⟨k1, n1, f1, s1⟩, q1, m1, c1, l1⟩ ⟨⟨k2, n2, f2, s2⟩, q2, m2, c2, l2⟩ (HO1.out _ HBa.out) (HO2.out _ HBa.out) 27) (box_below (Below.refl _ _))) (Below.refl _ _).drew)).mono ?_); rintro e w10 ⟨v10, rfl, ho10, hb10⟩; have HO10 := Lib.hid ho10; have HB10 : Hid (Below W.heap.size W w10) := Lib.hid (below_then (below_al (below_al HBa.out _) _).drew hb10); have HVY : Hid (Vs w10 (some ⟨wa.heap.size + 1, 0, none⟩) [⟨⟨k3, n3, f3, s3⟩, q3, m3, c3, l3⟩, ⟨⟨k4, n4, f4, s4⟩, q4, m4, c4, l4⟩]) := Lib.hid (Vs.below (Vs.below (vs_two (w := (wa.alloc (.cells #[.int .i64 k1, .int .i64 n1, .float .f64 f1, .string s1, .slice q1 m1 c1, .int .i64 k2, .int .i64 n2, .float .f64 f2, .string s2, .slice q2 m2 c2] 27))) (g := wa.heap.size + 1) (by simp) ⟨⟨k3, n3, f3, s3⟩, q3, m3, c3, l3⟩ ⟨⟨k4, n4, f4, s4⟩, q4, m4, c4, l4⟩ (HO3.out _ (below_al HBa.out _)) (HO4.out _ (below_al HBa.out _)) 27) (Below.refl _ _).drew) hb10); clear ho10 hb10)
            | (go_at_call 20; (with_reducible refine (TX.out (wa.alloc (.cells #[.int .i64 k3, .int .i64 n3, .float .f64 f3, .string s3, .slice q3 m3 c3, .int .i64 k4, .int .i64 n4, .float .f64 f4, .string s4, .slice q4 m4 c4] 27) |>.alloc (.cells #[.int .i64 k1, .int .i64 n1, .float .f64 f1, .string s1, .slice q1 m1 c1, .int .i64 k2, .int .i64 n2, .float .f64 f2, .string s2, .slice q2 m2 c2] 27)).drew _ (Vs.below (vs_two (w := (wa.alloc (.cells #[.int .i64 k3, .int .i64 n3, .float .f64 f3, .string s3, .slice q3 m3 c3, .int .i64 k4, .int .i64 n4, .float .f64 f4, .string s4, .slice q4 m4 c4] 27))) (g := wa.heap.size + 1) (by simp) ⟨⟨k1, n1, f1, s1⟩, q1, m1, c1, l1⟩ ⟨⟨k2, n2, f2, s2⟩, q2, m2, c2, l2⟩ (HO1.out _ (below_al HBa.out _)) (HO2.out _ (below_al HBa.out _)) 27) (Below.refl _ _).drew)).mono ?_); rintro e w10 ⟨v10, rfl, ho10, hb10⟩; have HO10 := Lib.hid ho10; have HB10 : Hid (Below W.heap.size W w10) := Lib.hid (below_then (below_al (below_al HBa.out _) _).drew hb10); have HVY : Hid (Vs w10 (some ⟨wa.heap.size, 0, none⟩) [⟨⟨k3, n3, f3, s3⟩, q3, m3, c3, l3⟩, ⟨⟨k4, n4, f4, s4⟩, q4, m4, c4, l4⟩]) := Lib.hid (Vs.below (Vs.below (Vs.below (vs_two (w := wa) (g := wa.heap.size) (by simp) ⟨⟨k3, n3, f3, s3⟩, q3, m3, c3, l3⟩ ⟨⟨k4, n4, f4, s4⟩, q4, m4, c4, l4⟩ (HO3.out _ HBa.out) (HO4.out _ HBa.out) 27) (box_below (Below.refl _ _))) (Below.refl _ _).drew) hb10); clear ho10 hb10)
            | (go_at_call 20; (with_reducible refine (TX.out (wa.alloc (.cells #[.int .i64 k1, .int .i64 n1, .float .f64 f1, .string s1, .slice q1 m1 c1, .int .i64 k2, .int .i64 n2, .float .f64 f2, .string s2, .slice q2 m2 c2] 27)).drew _ (Vs.below (vs_two (w := wa) (g := wa.heap.size) (by simp) ⟨⟨k1, n1, f1, s1⟩, q1, m1, c1, l1⟩ ⟨⟨k2, n2, f2, s2⟩, q2, m2, c2, l2⟩ (HO1.out _ HBa.out) (HO2.out _ HBa.out) 27) (Below.refl _ _).drew)).mono ?_); rintro e w10 ⟨v10, rfl, ho10, hb10⟩; have HO10 := Lib.hid ho10; have HB10 : Hid (Below W.heap.size W w10) := Lib.hid (below_then (below_al HBa.out _).drew hb10); clear ho10 hb10))
        all_goals
          go_wp2_with fail
          refine (oRefCompare_any HSX.out HSY.out nx cx ny cy HNX.out HNY.out (by omega) (by omega)).mono ?_; rintro e w13 ⟨rfl, hb13⟩
          rw [HCMP.out]
          have HB13 : Hid (Below W.heap.size W w13) := Lib.hid (below_then HB11.out hb13)
          clear hb13
          go_wp2
          go_ret
          exact ⟨rfl, HWB.out _ HB13.out⟩

end Go.Proofs.Ytjimbjcfoebimaa
