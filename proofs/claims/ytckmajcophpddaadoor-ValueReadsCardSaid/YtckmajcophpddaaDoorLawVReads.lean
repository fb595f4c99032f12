/-
  The law ValueReads.
-/
import Derived.Test.YtckmajcophpddaaDoorVRrR
import Derived.Test.YtckmajcophpddaaDoorVSame
import Derived.Deep.RegionHeld3
set_option linter.unusedVariables false
set_option linter.unusedSimpArgs false
set_option maxRecDepth 100000
namespace Go.Proofs.YtckmajcophpddaaDoor
open Go.RowKit

theorem sameA_refl (a : At) : sameA a a = true := by simp [sameA]
theorem sameV_refl (a : At) (l : List At) : sameV a l a l = true := by
  have h : (l.zip l).all (fun p => sameA p.1 p.2) = true := by
    induction l with
    | nil => rfl
    | cons b l ih => rw [List.zip_cons_cons, List.all_cons, ih, sameA_refl]; rfl
  unfold sameV
  rw [sameA_refl, h]
  simp
theorem zeroOkS (w : World) : VaOk w ⟨0, 0, 0, ⟨#[]⟩⟩ none 0 0 [] :=
  ⟨at_ok (by decide) (by decide) (by decide) (by decide) (by decide) (by decide), rfl, Nat.le_refl _, by decide, As.nil _ _, by simp⟩
theorem valueR_12 : valueR [49, 50, 93] = .ok ((⟨2, 12, 0, ⟨#[]⟩⟩, []), [93]) := by
  have h := valueR_put (a := ⟨2, 12, 0, ⟨#[]⟩⟩) (l := []) (m := [93]) (by decide +kernel) (at_ok (by decide) (by decide) (by decide) (by decide) (by decide) (by decide)) (fun x h => by cases h) (fun _ => behind_sep _ 93 [] (.inr rfl))
  have e : prV ⟨2, 12, 0, ⟨#[]⟩⟩ [] ++ [93] = [49, 50, 93] := by decide +kernel
  rw [e] at h
  exact h
theorem read_12 {w : World} (hW : RW w) : Calls Tryd.prog 5 #[.string ⟨#[49, 50, 93]⟩] w fun e w' => (∃ p c, e = .returned (.tuple #[.agg #[.int .i64 2, .int .i64 12, .float .f64 0, .string ⟨#[]⟩, .slice p 0 c], .int .i64 2, .int .i64 0])) ∧ Below w.heap.size w w' := by
  have h := read_any hW ⟨#[49, 50, 93]⟩ (by decide)
  rw [show (⟨#[49, 50, 93]⟩ : ByteArray).data.toList = [49, 50, 93] from rfl, valueR_12] at h
  refine h.mono fun e w' hp => ?_
  obtain ⟨⟨v, rfl, ho⟩, hb⟩ := hp
  obtain ⟨p, c, rfl, _, _, _⟩ := ho.form (n := 0) rfl
  exact ⟨⟨p, c, rfl⟩, hb⟩

set_option maxHeartbeats 8000000 in
theorem lawVReads_any {w : World} (hW : RW w) (s : ByteArray) :
    Calls Tryd.prog 3 #[.string s] w fun e w' => e = .returned (.bool true) ∧ Below w.heap.size w w' := by
  have hst := store_flt
  have HW := Lib.hid hW
  clear hW
  by_cases hb : (5000 : Int) < s.size
  · obtain ⟨t, ht⟩ : ∃ t, t = s.extract 0 5000 := ⟨_, rfl⟩
    have htz : t.size ≤ 5000 := by rw [ht, ByteArray.size_extract]; omega
    have h5 : ¬ (s.size : Int) < 5000 := by omega
    have HTZ := Lib.hid htz
    replace ht := Lib.hid ht
    clear htz
    go_enter Tryd.func3, Tryd.ntmps3
    go_wp2_with fail
    generalize s.extract 0 5000 = u at ht ⊢
    obtain rfl := ht.out
    clear ht
    have R := Lib.hid (read_any HW.out t (by have := HTZ.out; omega))
    have RR := Lib.hid (fun w' => rread_any (w := w') t (by have := HTZ.out; omega))
    rcases hv : valueR t.data.toList with x | ⟨⟨⟨k, n, f, z⟩, ls⟩, m⟩
    · skip
      rw [hv] at R RR
      clear hv
      refine R.out.mono ?_
      rintro e w1 ⟨rfl, hb1⟩
      have HVA1 := Lib.hid (zeroOkS w1)
      have HB1 := Lib.hid hb1
      have HW1 := Lib.hid (HW.out.below hb1)
      clear hb1 R
      obtain ⟨W1, hW1⟩ : ∃ W, W = w1.alloc (.cells #[.int .i64 0, .int .i64 0, .float .f64 0, .string ⟨#[]⟩, .slice none 0 0] 27) := ⟨_, rfl⟩
      have HA1 : Hid (W1.heap[w1.heap.size]? = some (.cells #[.int .i64 0, .int .i64 0, .float .f64 0, .string ⟨#[]⟩, .slice none 0 0] 27 (0, 0))) := Lib.hid (by rw [hW1]; exact heap_alloc_new w1 _)
      have HBW1 : Hid (Below w1.heap.size w1 W1) := Lib.hid (by rw [hW1]; exact (Below.refl _ _).alloc (Nat.le_refl _) _)
      have HSW1 : Hid (W1.heap.size = w1.heap.size + 1) := Lib.hid (by rw [hW1]; simp)
      go_wp2_with fail
      rw [← hW1]
      replace hW1 := Lib.hid hW1
      refine (RR.out W1).mono ?_
      rintro e w2 ⟨rfl, hb2⟩
      have HVA2 := Lib.hid (zeroOkS w2)
      have HB2 := Lib.hid hb2
      have HW2 := Lib.hid ((HW1.out.below HBW1.out).below hb2)
      clear hb2 RR
      obtain ⟨W2, hW2⟩ : ∃ W, W = w2.alloc (.cells #[.int .i64 0, .int .i64 0, .float .f64 0, .string ⟨#[]⟩, .slice none 0 0] 27) := ⟨_, rfl⟩
      have HA2 : Hid (W2.heap[w2.heap.size]? = some (.cells #[.int .i64 0, .int .i64 0, .float .f64 0, .string ⟨#[]⟩, .slice none 0 0] 27 (0, 0))) := Lib.hid (by rw [hW2]; exact heap_alloc_new w2 _)
      have HBW2 : Hid (Below w2.heap.size w2 W2) := Lib.hid (by rw [hW2]; exact (Below.refl _ _).alloc (Nat.le_refl _) _)
      have HSW2 : Hid (W2.heap.size = w2.heap.size + 1) := Lib.hid (by rw [hW2]; simp)
      have R3 := Lib.hid (read_12 (HW2.out.below HBW2.out))
      go_wp2_with fail
      rw [← hW2]
      replace hW2 := Lib.hid hW2
      refine R3.out.mono ?_
      rintro e w3 ⟨⟨p3, c3, rfl⟩, hb3⟩
      have HB3 := Lib.hid hb3
      clear hb3 R3
      obtain ⟨W3, hW3⟩ : ∃ W, W = w3.alloc (.cells #[.int .i64 2, .int .i64 12, .float .f64 0, .string ⟨#[]⟩, .slice p3 0 c3] 27) := ⟨_, rfl⟩
      have HA3 : Hid (W3.heap[w3.heap.size]? = some (.cells #[.int .i64 2, .int .i64 12, .float .f64 0, .string ⟨#[]⟩, .slice p3 0 c3] 27 (0, 0))) := Lib.hid (by rw [hW3]; exact heap_alloc_new w3 _)
      have HBW3 : Hid (Below w3.heap.size w3 W3) := Lib.hid (by rw [hW3]; exact (Below.refl _ _).alloc (Nat.le_refl _) _)
      have HSW3 : Hid (W3.heap.size = w3.heap.size + 1) := Lib.hid (by rw [hW3]; simp)
      have HS23 : Hid (W2.heap.size ≤ w3.heap.size) := Lib.hid HB3.out.size
      have HS12 : Hid (W1.heap.size ≤ w2.heap.size) := Lib.hid HB2.out.size
      have HWB2 : Hid (∀ w', Below W3.heap.size W3 w' → Below w2.heap.size w2 w') := Lib.hid fun w' h => (HBW2.out.trans (HB3.out.mono (by have := HSW2.out; omega))).trans ((HBW3.out.trans (h.mono HBW3.out.size)).mono (by have := HSW2.out; have := HS23.out; omega))
      have HWB1 : Hid (∀ w', Below W3.heap.size W3 w' → Below w1.heap.size w1 w') := Lib.hid fun w' h => (HBW1.out.trans (HB2.out.mono (by have := HSW1.out; omega))).trans ((HWB2.out w' h).mono (by have := HSW1.out; have := HS12.out; omega))
      have HT2 : Hid (∀ w', Below W3.heap.size W3 w' → w'.heap[w2.heap.size]? = some (.cells #[.int .i64 0, .int .i64 0, .float .f64 0, .string ⟨#[]⟩, .slice none 0 0] 27 (0, 0))) := Lib.hid fun w' h => by
        have h1 := (HB3.out.block w2.heap.size (by have := HSW2.out; omega)).trans HA2.out
        have h2 := (HBW3.out.block w2.heap.size (by have := HSW2.out; have := HS23.out; omega)).trans h1
        exact (h.block w2.heap.size (by have := HSW2.out; have := HS23.out; have := HSW3.out; omega)).trans h2
      have HT1 : Hid (∀ w', Below W3.heap.size W3 w' → w'.heap[w1.heap.size]? = some (.cells #[.int .i64 0, .int .i64 0, .float .f64 0, .string ⟨#[]⟩, .slice none 0 0] 27 (0, 0))) := Lib.hid fun w' h => by
        have e1 := HSW1.out
        have e2 := HS12.out
        have e3 := HSW2.out
        have e4 := HS23.out
        have e5 := HSW3.out
        have h1 := (HB2.out.block w1.heap.size (by omega)).trans HA1.out
        have h2 := (HBW2.out.block w1.heap.size (by omega)).trans h1
        have h3 := (HB3.out.block w1.heap.size (by omega)).trans h2
        have h4 := (HBW3.out.block w1.heap.size (by omega)).trans h3
        exact (h.block w1.heap.size (by omega)).trans h4
      have HT3 : Hid (∀ w', Below W3.heap.size W3 w' → w'.heap[w3.heap.size]? = some (.cells #[.int .i64 2, .int .i64 12, .float .f64 0, .string ⟨#[]⟩, .slice p3 0 c3] 27 (0, 0))) := Lib.hid fun w' h => (h.block w3.heap.size (by have := HSW3.out; omega)).trans HA3.out
      have A1 : Hid (∀ w', Below W3.heap.size W3 w' → Calls Tryd.prog 7 #[.agg #[.int .i64 0, .int .i64 0, .float .f64 0, .string ⟨#[]⟩, .slice none 0 0], .agg #[.int .i64 0, .int .i64 0, .float .f64 0, .string ⟨#[]⟩, .slice none 0 0]] w' fun e w'' => e = .returned (.bool true) ∧ Below w'.heap.size w' w'') := Lib.hid fun w' hb => by
        have h := same_any (HVA1.out.below (HWB1.out w' hb)) (HVA2.out.below (HWB2.out w' hb))
        rw [sameV_refl] at h
        exact h
      have HK : Hid (∀ w', Below W3.heap.size W3 w' → (w'.cell? ⟨w1.heap.size, 0, none⟩ = some (.int .i64 0) ∧ w'.cell? ⟨w1.heap.size, 1, none⟩ = some (.int .i64 0) ∧ w'.cell? ⟨w1.heap.size, 2, none⟩ = some (.float .f64 0) ∧ w'.cell? ⟨w1.heap.size, 3, none⟩ = some (.string ⟨#[]⟩) ∧ w'.cell? ⟨w1.heap.size, 4, none⟩ = some (.slice none 0 0)) ∧ (w'.cell? ⟨w2.heap.size, 0, none⟩ = some (.int .i64 0) ∧ w'.cell? ⟨w2.heap.size, 1, none⟩ = some (.int .i64 0) ∧ w'.cell? ⟨w2.heap.size, 2, none⟩ = some (.float .f64 0) ∧ w'.cell? ⟨w2.heap.size, 3, none⟩ = some (.string ⟨#[]⟩) ∧ w'.cell? ⟨w2.heap.size, 4, none⟩ = some (.slice none 0 0)) ∧ w'.cell? ⟨w3.heap.size, 1, none⟩ = some (.int .i64 12)) := Lib.hid fun w' hb => by
        have h1 := HT1.out w' hb
        have h2 := HT2.out w' hb
        have h3 := HT3.out w' hb
        exact ⟨⟨Joins.cell_of_block h1 0, Joins.cell_of_block h1 1, Joins.cell_of_block h1 2, Joins.cell_of_block h1 3, Joins.cell_of_block h1 4⟩, ⟨Joins.cell_of_block h2 0, Joins.cell_of_block h2 1, Joins.cell_of_block h2 2, Joins.cell_of_block h2 3, Joins.cell_of_block h2 4⟩, Joins.cell_of_block h3 1⟩
      have HFIN : Hid (∀ w', Below W3.heap.size W3 w' → Below w.heap.size w w') := Lib.hid fun w' h => HB1.out.trans ((HWB1.out w' h).mono HB1.out.size)
      have hl1 : w1.heap.size < w3.heap.size := by have := HSW1.out; have := HS12.out; have := HSW2.out; have := HS23.out; omega
      have hl2 : w2.heap.size < w3.heap.size := by have := HSW2.out; have := HS23.out; omega
      have hX2 := (HB3.out.block w2.heap.size (by have := HSW2.out; omega)).trans HA2.out
      have hX1 := (HB3.out.block w1.heap.size (by have := HSW1.out; have := HS12.out; have := HSW2.out; omega)).trans ((HBW2.out.block w1.heap.size (by have := HSW1.out; have := HS12.out; omega)).trans ((HB2.out.block w1.heap.size (by have := HSW1.out; omega)).trans HA1.out))
      have x0 := Joins.cell_of_block hX1 0
      have x1 := Joins.cell_of_block hX1 1
      have x2 := Joins.cell_of_block hX1 2
      have x3 := Joins.cell_of_block hX1 3
      have x4 := Joins.cell_of_block hX1 4
      have y0 := Joins.cell_of_block hX2 0
      have y1 := Joins.cell_of_block hX2 1
      have y2 := Joins.cell_of_block hX2 2
      have y3 := Joins.cell_of_block hX2 3
      have y4 := Joins.cell_of_block hX2 4
      clear hX1 hX2
      go_wp2_with fail
      rw [← hW3]
      replace hW3 := Lib.hid hW3
      (with_reducible refine (A1.out _ (Below.refl _ _)).mono ?_); rintro e u1 ⟨rfl, hu1⟩
      have HC1 := Lib.hid hu1
      have r1 := (HK.out _ hu1).2.2
      clear hu1 x0 x1 x2 x3 x4 y0 y1 y2 y3 y4
      go_wp2
      go_ret
      exact ⟨rfl, HFIN.out _ HC1.out⟩
    · skip
      rw [hv] at R RR
      obtain ⟨b1, b2, b3, b4, b5⟩ := valueR_back hv
      have hml := valueR_len hv
      have hts : t.data.toList.length = t.size := rfl
      obtain ⟨q, hq⟩ : ∃ q, q = ls.length := ⟨_, rfl⟩
      obtain ⟨u, hu⟩ : ∃ u : Int, u = (t.size : Int) - (m.length : Int) := ⟨_, rfl⟩
      have HB34 := Lib.hid (And.intro b3 b4)
      have HQ := Lib.hid hq
      clear hv b1 b2 b3 b4 b5 hml hts hq
      refine R.out.mono ?_
      rintro e w1 ⟨⟨v, he, ho⟩, hb1⟩
      obtain ⟨p, c, rfl, o1, o2, o3⟩ := ho.form HQ.out
      rw [← hu] at he
      subst he
      have HVA1 : Hid (VaOk w1 ⟨k, n, f, z⟩ p q c ls) := Lib.hid ⟨HB34.out.1, HQ.out, o1, o2, o3, HB34.out.2⟩
      clear ho o1 o2 o3
      have HB1 := Lib.hid hb1
      have HW1 := Lib.hid (HW.out.below hb1)
      clear hb1 R
      obtain ⟨W1, hW1⟩ : ∃ W, W = w1.alloc (.cells #[.int .i64 k, .int .i64 n, .float .f64 f, .string z, .slice p q c] 27) := ⟨_, rfl⟩
      have HA1 : Hid (W1.heap[w1.heap.size]? = some (.cells #[.int .i64 k, .int .i64 n, .float .f64 f, .string z, .slice p q c] 27 (0, 0))) := Lib.hid (by rw [hW1]; exact heap_alloc_new w1 _)
      have HBW1 : Hid (Below w1.heap.size w1 W1) := Lib.hid (by rw [hW1]; exact (Below.refl _ _).alloc (Nat.le_refl _) _)
      have HSW1 : Hid (W1.heap.size = w1.heap.size + 1) := Lib.hid (by rw [hW1]; simp)
      go_wp2_with fail
      rw [← hW1]
      replace hW1 := Lib.hid hW1
      refine (RR.out W1).mono ?_
      rintro e w2 ⟨⟨v, he, ho⟩, hb2⟩
      obtain ⟨p2, c2, rfl, o1, o2, o3⟩ := ho.form HQ.out
      rw [← hu] at he
      subst he
      have HVA2 : Hid (VaOk w2 ⟨k, n, f, z⟩ p2 q c2 ls) := Lib.hid ⟨HB34.out.1, HQ.out, o1, o2, o3, HB34.out.2⟩
      clear ho o1 o2 o3
      have HB2 := Lib.hid hb2
      have HW2 := Lib.hid ((HW1.out.below HBW1.out).below hb2)
      clear hb2 RR
      obtain ⟨W2, hW2⟩ : ∃ W, W = w2.alloc (.cells #[.int .i64 k, .int .i64 n, .float .f64 f, .string z, .slice p2 q c2] 27) := ⟨_, rfl⟩
      have HA2 : Hid (W2.heap[w2.heap.size]? = some (.cells #[.int .i64 k, .int .i64 n, .float .f64 f, .string z, .slice p2 q c2] 27 (0, 0))) := Lib.hid (by rw [hW2]; exact heap_alloc_new w2 _)
      have HBW2 : Hid (Below w2.heap.size w2 W2) := Lib.hid (by rw [hW2]; exact (Below.refl _ _).alloc (Nat.le_refl _) _)
      have HSW2 : Hid (W2.heap.size = w2.heap.size + 1) := Lib.hid (by rw [hW2]; simp)
      have R3 := Lib.hid (read_12 (HW2.out.below HBW2.out))
      go_wp2_with fail
      rw [← hW2]
      replace hW2 := Lib.hid hW2
      refine R3.out.mono ?_
      rintro e w3 ⟨⟨p3, c3, rfl⟩, hb3⟩
      have HB3 := Lib.hid hb3
      clear hb3 R3
      obtain ⟨W3, hW3⟩ : ∃ W, W = w3.alloc (.cells #[.int .i64 2, .int .i64 12, .float .f64 0, .string ⟨#[]⟩, .slice p3 0 c3] 27) := ⟨_, rfl⟩
      have HA3 : Hid (W3.heap[w3.heap.size]? = some (.cells #[.int .i64 2, .int .i64 12, .float .f64 0, .string ⟨#[]⟩, .slice p3 0 c3] 27 (0, 0))) := Lib.hid (by rw [hW3]; exact heap_alloc_new w3 _)
      have HBW3 : Hid (Below w3.heap.size w3 W3) := Lib.hid (by rw [hW3]; exact (Below.refl _ _).alloc (Nat.le_refl _) _)
      have HSW3 : Hid (W3.heap.size = w3.heap.size + 1) := Lib.hid (by rw [hW3]; simp)
      have HS23 : Hid (W2.heap.size ≤ w3.heap.size) := Lib.hid HB3.out.size
      have HS12 : Hid (W1.heap.size ≤ w2.heap.size) := Lib.hid HB2.out.size
      have HWB2 : Hid (∀ w', Below W3.heap.size W3 w' → Below w2.heap.size w2 w') := Lib.hid fun w' h => (HBW2.out.trans (HB3.out.mono (by have := HSW2.out; omega))).trans ((HBW3.out.trans (h.mono HBW3.out.size)).mono (by have := HSW2.out; have := HS23.out; omega))
      have HWB1 : Hid (∀ w', Below W3.heap.size W3 w' → Below w1.heap.size w1 w') := Lib.hid fun w' h => (HBW1.out.trans (HB2.out.mono (by have := HSW1.out; omega))).trans ((HWB2.out w' h).mono (by have := HSW1.out; have := HS12.out; omega))
      have HT2 : Hid (∀ w', Below W3.heap.size W3 w' → w'.heap[w2.heap.size]? = some (.cells #[.int .i64 k, .int .i64 n, .float .f64 f, .string z, .slice p2 q c2] 27 (0, 0))) := Lib.hid fun w' h => by
        have h1 := (HB3.out.block w2.heap.size (by have := HSW2.out; omega)).trans HA2.out
        have h2 := (HBW3.out.block w2.heap.size (by have := HSW2.out; have := HS23.out; omega)).trans h1
        exact (h.block w2.heap.size (by have := HSW2.out; have := HS23.out; have := HSW3.out; omega)).trans h2
      have HT1 : Hid (∀ w', Below W3.heap.size W3 w' → w'.heap[w1.heap.size]? = some (.cells #[.int .i64 k, .int .i64 n, .float .f64 f, .string z, .slice p q c] 27 (0, 0))) := Lib.hid fun w' h => by
        have e1 := HSW1.out
        have e2 := HS12.out
        have e3 := HSW2.out
        have e4 := HS23.out
        have e5 := HSW3.out
        have h1 := (HB2.out.block w1.heap.size (by omega)).trans HA1.out
        have h2 := (HBW2.out.block w1.heap.size (by omega)).trans h1
        have h3 := (HB3.out.block w1.heap.size (by omega)).trans h2
        have h4 := (HBW3.out.block w1.heap.size (by omega)).trans h3
        exact (h.block w1.heap.size (by omega)).trans h4
      have HT3 : Hid (∀ w', Below W3.heap.size W3 w' → w'.heap[w3.heap.size]? = some (.cells #[.int .i64 2, .int .i64 12, .float .f64 0, .string ⟨#[]⟩, .slice p3 0 c3] 27 (0, 0))) := Lib.hid fun w' h => (h.block w3.heap.size (by have := HSW3.out; omega)).trans HA3.out
      have A1 : Hid (∀ w', Below W3.heap.size W3 w' → Calls Tryd.prog 7 #[.agg #[.int .i64 k, .int .i64 n, .float .f64 f, .string z, .slice p q c], .agg #[.int .i64 k, .int .i64 n, .float .f64 f, .string z, .slice p2 q c2]] w' fun e w'' => e = .returned (.bool true) ∧ Below w'.heap.size w' w'') := Lib.hid fun w' hb => by
        have h := same_any (HVA1.out.below (HWB1.out w' hb)) (HVA2.out.below (HWB2.out w' hb))
        rw [sameV_refl] at h
        exact h
      have HK : Hid (∀ w', Below W3.heap.size W3 w' → (w'.cell? ⟨w1.heap.size, 0, none⟩ = some (.int .i64 k) ∧ w'.cell? ⟨w1.heap.size, 1, none⟩ = some (.int .i64 n) ∧ w'.cell? ⟨w1.heap.size, 2, none⟩ = some (.float .f64 f) ∧ w'.cell? ⟨w1.heap.size, 3, none⟩ = some (.string z) ∧ w'.cell? ⟨w1.heap.size, 4, none⟩ = some (.slice p q c)) ∧ (w'.cell? ⟨w2.heap.size, 0, none⟩ = some (.int .i64 k) ∧ w'.cell? ⟨w2.heap.size, 1, none⟩ = some (.int .i64 n) ∧ w'.cell? ⟨w2.heap.size, 2, none⟩ = some (.float .f64 f) ∧ w'.cell? ⟨w2.heap.size, 3, none⟩ = some (.string z) ∧ w'.cell? ⟨w2.heap.size, 4, none⟩ = some (.slice p2 q c2)) ∧ w'.cell? ⟨w3.heap.size, 1, none⟩ = some (.int .i64 12)) := Lib.hid fun w' hb => by
        have h1 := HT1.out w' hb
        have h2 := HT2.out w' hb
        have h3 := HT3.out w' hb
        exact ⟨⟨Joins.cell_of_block h1 0, Joins.cell_of_block h1 1, Joins.cell_of_block h1 2, Joins.cell_of_block h1 3, Joins.cell_of_block h1 4⟩, ⟨Joins.cell_of_block h2 0, Joins.cell_of_block h2 1, Joins.cell_of_block h2 2, Joins.cell_of_block h2 3, Joins.cell_of_block h2 4⟩, Joins.cell_of_block h3 1⟩
      have HFIN : Hid (∀ w', Below W3.heap.size W3 w' → Below w.heap.size w w') := Lib.hid fun w' h => HB1.out.trans ((HWB1.out w' h).mono HB1.out.size)
      have hl1 : w1.heap.size < w3.heap.size := by have := HSW1.out; have := HS12.out; have := HSW2.out; have := HS23.out; omega
      have hl2 : w2.heap.size < w3.heap.size := by have := HSW2.out; have := HS23.out; omega
      have hX2 := (HB3.out.block w2.heap.size (by have := HSW2.out; omega)).trans HA2.out
      have hX1 := (HB3.out.block w1.heap.size (by have := HSW1.out; have := HS12.out; have := HSW2.out; omega)).trans ((HBW2.out.block w1.heap.size (by have := HSW1.out; have := HS12.out; omega)).trans ((HB2.out.block w1.heap.size (by have := HSW1.out; omega)).trans HA1.out))
      have x0 := Joins.cell_of_block hX1 0
      have x1 := Joins.cell_of_block hX1 1
      have x2 := Joins.cell_of_block hX1 2
      have x3 := Joins.cell_of_block hX1 3
      have x4 := Joins.cell_of_block hX1 4
      have y0 := Joins.cell_of_block hX2 0
      have y1 := Joins.cell_of_block hX2 1
      have y2 := Joins.cell_of_block hX2 2
      have y3 := Joins.cell_of_block hX2 3
      have y4 := Joins.cell_of_block hX2 4
      clear hX1 hX2
      go_wp2_with fail
      rw [← hW3]
      replace hW3 := Lib.hid hW3
      (with_reducible refine (A1.out _ (Below.refl _ _)).mono ?_); rintro e u1 ⟨rfl, hu1⟩
      have HC1 := Lib.hid hu1
      have r1 := (HK.out _ hu1).2.2
      clear hu1 x0 x1 x2 x3 x4 y0 y1 y2 y3 y4
      go_wp2
      go_ret
      exact ⟨rfl, HFIN.out _ HC1.out⟩
  · have HTZ : Hid (s.size ≤ 5000) := Lib.hid (by omega)
    go_enter Tryd.func3, Tryd.ntmps3
    go_wp2_with fail
    obtain ⟨t, rfl⟩ : ∃ t, t = s := ⟨_, rfl⟩
    have R := Lib.hid (read_any HW.out t (by have := HTZ.out; omega))
    have RR := Lib.hid (fun w' => rread_any (w := w') t (by have := HTZ.out; omega))
    rcases hv : valueR t.data.toList with x | ⟨⟨⟨k, n, f, z⟩, ls⟩, m⟩
    · skip
      rw [hv] at R RR
      clear hv
      refine R.out.mono ?_
      rintro e w1 ⟨rfl, hb1⟩
      have HVA1 := Lib.hid (zeroOkS w1)
      have HB1 := Lib.hid hb1
      have HW1 := Lib.hid (HW.out.below hb1)
      clear hb1 R
      obtain ⟨W1, hW1⟩ : ∃ W, W = w1.alloc (.cells #[.int .i64 0, .int .i64 0, .float .f64 0, .string ⟨#[]⟩, .slice none 0 0] 27) := ⟨_, rfl⟩
      have HA1 : Hid (W1.heap[w1.heap.size]? = some (.cells #[.int .i64 0, .int .i64 0, .float .f64 0, .string ⟨#[]⟩, .slice none 0 0] 27 (0, 0))) := Lib.hid (by rw [hW1]; exact heap_alloc_new w1 _)
      have HBW1 : Hid (Below w1.heap.size w1 W1) := Lib.hid (by rw [hW1]; exact (Below.refl _ _).alloc (Nat.le_refl _) _)
      have HSW1 : Hid (W1.heap.size = w1.heap.size + 1) := Lib.hid (by rw [hW1]; simp)
      go_wp2_with fail
      rw [← hW1]
      replace hW1 := Lib.hid hW1
      refine (RR.out W1).mono ?_
      rintro e w2 ⟨rfl, hb2⟩
      have HVA2 := Lib.hid (zeroOkS w2)
      have HB2 := Lib.hid hb2
      have HW2 := Lib.hid ((HW1.out.below HBW1.out).below hb2)
      clear hb2 RR
      obtain ⟨W2, hW2⟩ : ∃ W, W = w2.alloc (.cells #[.int .i64 0, .int .i64 0, .float .f64 0, .string ⟨#[]⟩, .slice none 0 0] 27) := ⟨_, rfl⟩
      have HA2 : Hid (W2.heap[w2.heap.size]? = some (.cells #[.int .i64 0, .int .i64 0, .float .f64 0, .string ⟨#[]⟩, .slice none 0 0] 27 (0, 0))) := Lib.hid (by rw [hW2]; exact heap_alloc_new w2 _)
      have HBW2 : Hid (Below w2.heap.size w2 W2) := Lib.hid (by rw [hW2]; exact (Below.refl _ _).alloc (Nat.le_refl _) _)
      have HSW2 : Hid (W2.heap.size = w2.heap.size + 1) := Lib.hid (by rw [hW2]; simp)
      have R3 := Lib.hid (read_12 (HW2.out.below HBW2.out))
      go_wp2_with fail
      rw [← hW2]
      replace hW2 := Lib.hid hW2
      refine R3.out.mono ?_
      rintro e w3 ⟨⟨p3, c3, rfl⟩, hb3⟩
      have HB3 := Lib.hid hb3
      clear hb3 R3
      obtain ⟨W3, hW3⟩ : ∃ W, W = w3.alloc (.cells #[.int .i64 2, .int .i64 12, .float .f64 0, .string ⟨#[]⟩, .slice p3 0 c3] 27) := ⟨_, rfl⟩
      have HA3 : Hid (W3.heap[w3.heap.size]? = some (.cells #[.int .i64 2, .int .i64 12, .float .f64 0, .string ⟨#[]⟩, .slice p3 0 c3] 27 (0, 0))) := Lib.hid (by rw [hW3]; exact heap_alloc_new w3 _)
      have HBW3 : Hid (Below w3.heap.size w3 W3) := Lib.hid (by rw [hW3]; exact (Below.refl _ _).alloc (Nat.le_refl _) _)
      have HSW3 : Hid (W3.heap.size = w3.heap.size + 1) := Lib.hid (by rw [hW3]; simp)
      have HS23 : Hid (W2.heap.size ≤ w3.heap.size) := Lib.hid HB3.out.size
      have HS12 : Hid (W1.heap.size ≤ w2.heap.size) := Lib.hid HB2.out.size
      have HWB2 : Hid (∀ w', Below W3.heap.size W3 w' → Below w2.heap.size w2 w') := Lib.hid fun w' h => (HBW2.out.trans (HB3.out.mono (by have := HSW2.out; omega))).trans ((HBW3.out.trans (h.mono HBW3.out.size)).mono (by have := HSW2.out; have := HS23.out; omega))
      have HWB1 : Hid (∀ w', Below W3.heap.size W3 w' → Below w1.heap.size w1 w') := Lib.hid fun w' h => (HBW1.out.trans (HB2.out.mono (by have := HSW1.out; omega))).trans ((HWB2.out w' h).mono (by have := HSW1.out; have := HS12.out; omega))
      have HT2 : Hid (∀ w', Below W3.heap.size W3 w' → w'.heap[w2.heap.size]? = some (.cells #[.int .i64 0, .int .i64 0, .float .f64 0, .string ⟨#[]⟩, .slice none 0 0] 27 (0, 0))) := Lib.hid fun w' h => by
        have h1 := (HB3.out.block w2.heap.size (by have := HSW2.out; omega)).trans HA2.out
        have h2 := (HBW3.out.block w2.heap.size (by have := HSW2.out; have := HS23.out; omega)).trans h1
        exact (h.block w2.heap.size (by have := HSW2.out; have := HS23.out; have := HSW3.out; omega)).trans h2
      have HT1 : Hid (∀ w', Below W3.heap.size W3 w' → w'.heap[w1.heap.size]? = some (.cells #[.int .i64 0, .int .i64 0, .float .f64 0, .string ⟨#[]⟩, .slice none 0 0] 27 (0, 0))) := Lib.hid fun w' h => by
        have e1 := HSW1.out
        have e2 := HS12.out
        have e3 := HSW2.out
        have e4 := HS23.out
        have e5 := HSW3.out
        have h1 := (HB2.out.block w1.heap.size (by omega)).trans HA1.out
        have h2 := (HBW2.out.block w1.heap.size (by omega)).trans h1
        have h3 := (HB3.out.block w1.heap.size (by omega)).trans h2
        have h4 := (HBW3.out.block w1.heap.size (by omega)).trans h3
        exact (h.block w1.heap.size (by omega)).trans h4
      have HT3 : Hid (∀ w', Below W3.heap.size W3 w' → w'.heap[w3.heap.size]? = some (.cells #[.int .i64 2, .int .i64 12, .float .f64 0, .string ⟨#[]⟩, .slice p3 0 c3] 27 (0, 0))) := Lib.hid fun w' h => (h.block w3.heap.size (by have := HSW3.out; omega)).trans HA3.out
      have A1 : Hid (∀ w', Below W3.heap.size W3 w' → Calls Tryd.prog 7 #[.agg #[.int .i64 0, .int .i64 0, .float .f64 0, .string ⟨#[]⟩, .slice none 0 0], .agg #[.int .i64 0, .int .i64 0, .float .f64 0, .string ⟨#[]⟩, .slice none 0 0]] w' fun e w'' => e = .returned (.bool true) ∧ Below w'.heap.size w' w'') := Lib.hid fun w' hb => by
        have h := same_any (HVA1.out.below (HWB1.out w' hb)) (HVA2.out.below (HWB2.out w' hb))
        rw [sameV_refl] at h
        exact h
      have HK : Hid (∀ w', Below W3.heap.size W3 w' → (w'.cell? ⟨w1.heap.size, 0, none⟩ = some (.int .i64 0) ∧ w'.cell? ⟨w1.heap.size, 1, none⟩ = some (.int .i64 0) ∧ w'.cell? ⟨w1.heap.size, 2, none⟩ = some (.float .f64 0) ∧ w'.cell? ⟨w1.heap.size, 3, none⟩ = some (.string ⟨#[]⟩) ∧ w'.cell? ⟨w1.heap.size, 4, none⟩ = some (.slice none 0 0)) ∧ (w'.cell? ⟨w2.heap.size, 0, none⟩ = some (.int .i64 0) ∧ w'.cell? ⟨w2.heap.size, 1, none⟩ = some (.int .i64 0) ∧ w'.cell? ⟨w2.heap.size, 2, none⟩ = some (.float .f64 0) ∧ w'.cell? ⟨w2.heap.size, 3, none⟩ = some (.string ⟨#[]⟩) ∧ w'.cell? ⟨w2.heap.size, 4, none⟩ = some (.slice none 0 0)) ∧ w'.cell? ⟨w3.heap.size, 1, none⟩ = some (.int .i64 12)) := Lib.hid fun w' hb => by
        have h1 := HT1.out w' hb
        have h2 := HT2.out w' hb
        have h3 := HT3.out w' hb
        exact ⟨⟨Joins.cell_of_block h1 0, Joins.cell_of_block h1 1, Joins.cell_of_block h1 2, Joins.cell_of_block h1 3, Joins.cell_of_block h1 4⟩, ⟨Joins.cell_of_block h2 0, Joins.cell_of_block h2 1, Joins.cell_of_block h2 2, Joins.cell_of_block h2 3, Joins.cell_of_block h2 4⟩, Joins.cell_of_block h3 1⟩
      have HFIN : Hid (∀ w', Below W3.heap.size W3 w' → Below w.heap.size w w') := Lib.hid fun w' h => HB1.out.trans ((HWB1.out w' h).mono HB1.out.size)
      have hl1 : w1.heap.size < w3.heap.size := by have := HSW1.out; have := HS12.out; have := HSW2.out; have := HS23.out; omega
      have hl2 : w2.heap.size < w3.heap.size := by have := HSW2.out; have := HS23.out; omega
      have hX2 := (HB3.out.block w2.heap.size (by have := HSW2.out; omega)).trans HA2.out
      have hX1 := (HB3.out.block w1.heap.size (by have := HSW1.out; have := HS12.out; have := HSW2.out; omega)).trans ((HBW2.out.block w1.heap.size (by have := HSW1.out; have := HS12.out; omega)).trans ((HB2.out.block w1.heap.size (by have := HSW1.out; omega)).trans HA1.out))
      have x0 := Joins.cell_of_block hX1 0
      have x1 := Joins.cell_of_block hX1 1
      have x2 := Joins.cell_of_block hX1 2
      have x3 := Joins.cell_of_block hX1 3
      have x4 := Joins.cell_of_block hX1 4
      have y0 := Joins.cell_of_block hX2 0
      have y1 := Joins.cell_of_block hX2 1
      have y2 := Joins.cell_of_block hX2 2
      have y3 := Joins.cell_of_block hX2 3
      have y4 := Joins.cell_of_block hX2 4
      clear hX1 hX2
      go_wp2_with fail
      rw [← hW3]
      replace hW3 := Lib.hid hW3
      (with_reducible refine (A1.out _ (Below.refl _ _)).mono ?_); rintro e u1 ⟨rfl, hu1⟩
      have HC1 := Lib.hid hu1
      have r1 := (HK.out _ hu1).2.2
      clear hu1 x0 x1 x2 x3 x4 y0 y1 y2 y3 y4
      go_wp2
      go_ret
      exact ⟨rfl, HFIN.out _ HC1.out⟩
    · skip
      rw [hv] at R RR
      obtain ⟨b1, b2, b3, b4, b5⟩ := valueR_back hv
      have hml := valueR_len hv
      have hts : t.data.toList.length = t.size := rfl
      obtain ⟨q, hq⟩ : ∃ q, q = ls.length := ⟨_, rfl⟩
      obtain ⟨u, hu⟩ : ∃ u : Int, u = (t.size : Int) - (m.length : Int) := ⟨_, rfl⟩
      have HB34 := Lib.hid (And.intro b3 b4)
      have HQ := Lib.hid hq
      clear hv b1 b2 b3 b4 b5 hml hts hq
      refine R.out.mono ?_
      rintro e w1 ⟨⟨v, he, ho⟩, hb1⟩
      obtain ⟨p, c, rfl, o1, o2, o3⟩ := ho.form HQ.out
      rw [← hu] at he
      subst he
      have HVA1 : Hid (VaOk w1 ⟨k, n, f, z⟩ p q c ls) := Lib.hid ⟨HB34.out.1, HQ.out, o1, o2, o3, HB34.out.2⟩
      clear ho o1 o2 o3
      have HB1 := Lib.hid hb1
      have HW1 := Lib.hid (HW.out.below hb1)
      clear hb1 R
      obtain ⟨W1, hW1⟩ : ∃ W, W = w1.alloc (.cells #[.int .i64 k, .int .i64 n, .float .f64 f, .string z, .slice p q c] 27) := ⟨_, rfl⟩
      have HA1 : Hid (W1.heap[w1.heap.size]? = some (.cells #[.int .i64 k, .int .i64 n, .float .f64 f, .string z, .slice p q c] 27 (0, 0))) := Lib.hid (by rw [hW1]; exact heap_alloc_new w1 _)
      have HBW1 : Hid (Below w1.heap.size w1 W1) := Lib.hid (by rw [hW1]; exact (Below.refl _ _).alloc (Nat.le_refl _) _)
      have HSW1 : Hid (W1.heap.size = w1.heap.size + 1) := Lib.hid (by rw [hW1]; simp)
      go_wp2_with fail
      rw [← hW1]
      replace hW1 := Lib.hid hW1
      refine (RR.out W1).mono ?_
      rintro e w2 ⟨⟨v, he, ho⟩, hb2⟩
      obtain ⟨p2, c2, rfl, o1, o2, o3⟩ := ho.form HQ.out
      rw [← hu] at he
      subst he
      have HVA2 : Hid (VaOk w2 ⟨k, n, f, z⟩ p2 q c2 ls) := Lib.hid ⟨HB34.out.1, HQ.out, o1, o2, o3, HB34.out.2⟩
      clear ho o1 o2 o3
      have HB2 := Lib.hid hb2
      have HW2 := Lib.hid ((HW1.out.below HBW1.out).below hb2)
      clear hb2 RR
      obtain ⟨W2, hW2⟩ : ∃ W, W = w2.alloc (.cells #[.int .i64 k, .int .i64 n, .float .f64 f, .string z, .slice p2 q c2] 27) := ⟨_, rfl⟩
      have HA2 : Hid (W2.heap[w2.heap.size]? = some (.cells #[.int .i64 k, .int .i64 n, .float .f64 f, .string z, .slice p2 q c2] 27 (0, 0))) := Lib.hid (by rw [hW2]; exact heap_alloc_new w2 _)
      have HBW2 : Hid (Below w2.heap.size w2 W2) := Lib.hid (by rw [hW2]; exact (Below.refl _ _).alloc (Nat.le_refl _) _)
      have HSW2 : Hid (W2.heap.size = w2.heap.size + 1) := Lib.hid (by rw [hW2]; simp)
      have R3 := Lib.hid (read_12 (HW2.out.below HBW2.out))
      go_wp2_with fail
      rw [← hW2]
      replace hW2 := Lib.hid hW2
      refine R3.out.mono ?_
      rintro e w3 ⟨⟨p3, c3, rfl⟩, hb3⟩
      have HB3 := Lib.hid hb3
      clear hb3 R3
      obtain ⟨W3, hW3⟩ : ∃ W, W = w3.alloc (.cells #[.int .i64 2, .int .i64 12, .float .f64 0, .string ⟨#[]⟩, .slice p3 0 c3] 27) := ⟨_, rfl⟩
      have HA3 : Hid (W3.heap[w3.heap.size]? = some (.cells #[.int .i64 2, .int .i64 12, .float .f64 0, .string ⟨#[]⟩, .slice p3 0 c3] 27 (0, 0))) := Lib.hid (by rw [hW3]; exact heap_alloc_new w3 _)
      have HBW3 : Hid (Below w3.heap.size w3 W3) := Lib.hid (by rw [hW3]; exact (Below.refl _ _).alloc (Nat.le_refl _) _)
      have HSW3 : Hid (W3.heap.size = w3.heap.size + 1) := Lib.hid (by rw [hW3]; simp)
      have HS23 : Hid (W2.heap.size ≤ w3.heap.size) := Lib.hid HB3.out.size
      have HS12 : Hid (W1.heap.size ≤ w2.heap.size) := Lib.hid HB2.out.size
      have HWB2 : Hid (∀ w', Below W3.heap.size W3 w' → Below w2.heap.size w2 w') := Lib.hid fun w' h => (HBW2.out.trans (HB3.out.mono (by have := HSW2.out; omega))).trans ((HBW3.out.trans (h.mono HBW3.out.size)).mono (by have := HSW2.out; have := HS23.out; omega))
      have HWB1 : Hid (∀ w', Below W3.heap.size W3 w' → Below w1.heap.size w1 w') := Lib.hid fun w' h => (HBW1.out.trans (HB2.out.mono (by have := HSW1.out; omega))).trans ((HWB2.out w' h).mono (by have := HSW1.out; have := HS12.out; omega))
      have HT2 : Hid (∀ w', Below W3.heap.size W3 w' → w'.heap[w2.heap.size]? = some (.cells #[.int .i64 k, .int .i64 n, .float .f64 f, .string z, .slice p2 q c2] 27 (0, 0))) := Lib.hid fun w' h => by
        have h1 := (HB3.out.block w2.heap.size (by have := HSW2.out; omega)).trans HA2.out
        have h2 := (HBW3.out.block w2.heap.size (by have := HSW2.out; have := HS23.out; omega)).trans h1
        exact (h.block w2.heap.size (by have := HSW2.out; have := HS23.out; have := HSW3.out; omega)).trans h2
      have HT1 : Hid (∀ w', Below W3.heap.size W3 w' → w'.heap[w1.heap.size]? = some (.cells #[.int .i64 k, .int .i64 n, .float .f64 f, .string z, .slice p q c] 27 (0, 0))) := Lib.hid fun w' h => by
        have e1 := HSW1.out
        have e2 := HS12.out
        have e3 := HSW2.out
        have e4 := HS23.out
        have e5 := HSW3.out
        have h1 := (HB2.out.block w1.heap.size (by omega)).trans HA1.out
        have h2 := (HBW2.out.block w1.heap.size (by omega)).trans h1
        have h3 := (HB3.out.block w1.heap.size (by omega)).trans h2
        have h4 := (HBW3.out.block w1.heap.size (by omega)).trans h3
        exact (h.block w1.heap.size (by omega)).trans h4
      have HT3 : Hid (∀ w', Below W3.heap.size W3 w' → w'.heap[w3.heap.size]? = some (.cells #[.int .i64 2, .int .i64 12, .float .f64 0, .string ⟨#[]⟩, .slice p3 0 c3] 27 (0, 0))) := Lib.hid fun w' h => (h.block w3.heap.size (by have := HSW3.out; omega)).trans HA3.out
      have A1 : Hid (∀ w', Below W3.heap.size W3 w' → Calls Tryd.prog 7 #[.agg #[.int .i64 k, .int .i64 n, .float .f64 f, .string z, .slice p q c], .agg #[.int .i64 k, .int .i64 n, .float .f64 f, .string z, .slice p2 q c2]] w' fun e w'' => e = .returned (.bool true) ∧ Below w'.heap.size w' w'') := Lib.hid fun w' hb => by
        have h := same_any (HVA1.out.below (HWB1.out w' hb)) (HVA2.out.below (HWB2.out w' hb))
        rw [sameV_refl] at h
        exact h
      have HK : Hid (∀ w', Below W3.heap.size W3 w' → (w'.cell? ⟨w1.heap.size, 0, none⟩ = some (.int .i64 k) ∧ w'.cell? ⟨w1.heap.size, 1, none⟩ = some (.int .i64 n) ∧ w'.cell? ⟨w1.heap.size, 2, none⟩ = some (.float .f64 f) ∧ w'.cell? ⟨w1.heap.size, 3, none⟩ = some (.string z) ∧ w'.cell? ⟨w1.heap.size, 4, none⟩ = some (.slice p q c)) ∧ (w'.cell? ⟨w2.heap.size, 0, none⟩ = some (.int .i64 k) ∧ w'.cell? ⟨w2.heap.size, 1, none⟩ = some (.int .i64 n) ∧ w'.cell? ⟨w2.heap.size, 2, none⟩ = some (.float .f64 f) ∧ w'.cell? ⟨w2.heap.size, 3, none⟩ = some (.string z) ∧ w'.cell? ⟨w2.heap.size, 4, none⟩ = some (.slice p2 q c2)) ∧ w'.cell? ⟨w3.heap.size, 1, none⟩ = some (.int .i64 12)) := Lib.hid fun w' hb => by
        have h1 := HT1.out w' hb
        have h2 := HT2.out w' hb
        have h3 := HT3.out w' hb
        exact ⟨⟨Joins.cell_of_block h1 0, Joins.cell_of_block h1 1, Joins.cell_of_block h1 2, Joins.cell_of_block h1 3, Joins.cell_of_block h1 4⟩, ⟨Joins.cell_of_block h2 0, Joins.cell_of_block h2 1, Joins.cell_of_block h2 2, Joins.cell_of_block h2 3, Joins.cell_of_block h2 4⟩, Joins.cell_of_block h3 1⟩
      have HFIN : Hid (∀ w', Below W3.heap.size W3 w' → Below w.heap.size w w') := Lib.hid fun w' h => HB1.out.trans ((HWB1.out w' h).mono HB1.out.size)
      have hl1 : w1.heap.size < w3.heap.size := by have := HSW1.out; have := HS12.out; have := HSW2.out; have := HS23.out; omega
      have hl2 : w2.heap.size < w3.heap.size := by have := HSW2.out; have := HS23.out; omega
      have hX2 := (HB3.out.block w2.heap.size (by have := HSW2.out; omega)).trans HA2.out
      have hX1 := (HB3.out.block w1.heap.size (by have := HSW1.out; have := HS12.out; have := HSW2.out; omega)).trans ((HBW2.out.block w1.heap.size (by have := HSW1.out; have := HS12.out; omega)).trans ((HB2.out.block w1.heap.size (by have := HSW1.out; omega)).trans HA1.out))
      have x0 := Joins.cell_of_block hX1 0
      have x1 := Joins.cell_of_block hX1 1
      have x2 := Joins.cell_of_block hX1 2
      have x3 := Joins.cell_of_block hX1 3
      have x4 := Joins.cell_of_block hX1 4
      have y0 := Joins.cell_of_block hX2 0
      have y1 := Joins.cell_of_block hX2 1
      have y2 := Joins.cell_of_block hX2 2
      have y3 := Joins.cell_of_block hX2 3
      have y4 := Joins.cell_of_block hX2 4
      clear hX1 hX2
      go_wp2_with fail
      rw [← hW3]
      replace hW3 := Lib.hid hW3
      (with_reducible refine (A1.out _ (Below.refl _ _)).mono ?_); rintro e u1 ⟨rfl, hu1⟩
      have HC1 := Lib.hid hu1
      have r1 := (HK.out _ hu1).2.2
      clear hu1 x0 x1 x2 x3 x4 y0 y1 y2 y3 y4
      go_wp2
      go_ret
      exact ⟨rfl, HFIN.out _ HC1.out⟩

end Go.Proofs.YtckmajcophpddaaDoor
