/-
  The law ValueOne.
-/
import Derived.Test.YtcgjefaebofikaaDoorVOneA
import Derived.Deep.RegionHeld3
set_option linter.unusedVariables false
set_option linter.unusedSimpArgs false
set_option maxRecDepth 100000
namespace Go.Proofs.YtcgjefaebofikaaDoor
open Go.RowKit

set_option maxHeartbeats 8000000 in
theorem lawVOne_any {w : World} (hW : RW w) (s : ByteArray) :
    Calls Tryd.prog 4 #[.string s] w fun e w' => e = .returned (.bool true) ∧ Below w.heap.size w w' := by
  have hst := store_flt
  have HW := Lib.hid hW
  clear hW
  by_cases hb : (5000 : Int) < s.size
  · obtain ⟨t, ht⟩ : ∃ t, t = s.extract 0 5000 := ⟨_, rfl⟩
    have htz : t.size ≤ 5000 := by rw [ht, ByteArray.size_extract]; omega
    have h5 : ¬ (s.size : Int) < 5000 := by omega
    have HTZ := Lib.hid htz
    replace ht := Lib.hid ht
    clear htz
    go_enter Tryd.func4, Tryd.ntmps4
    go_wp2_with fail
    generalize s.extract 0 5000 = u at ht ⊢
    obtain rfl := ht.out
    clear ht
    have R := read_any HW.out t (by have := HTZ.out; omega)
    rcases hv : valueR t.data.toList with x | ⟨⟨⟨k, n, f, z⟩, ls⟩, m⟩
    · rw [hv] at R
      have hx := valueR_err hv
      have hx0 : ¬ x = 0 := by omega
      have hxb : (x != 0) = true := by simpa using hx0
      clear hv hx
      refine R.mono ?_
      rintro e w1 ⟨rfl, hb1⟩
      have HB1 := Lib.hid hb1
      have HW1 := Lib.hid (HW.out.below hb1)
      clear hb1 R
      obtain ⟨W, hW0⟩ : ∃ W, W = w1.alloc (.cells #[.int .i64 0, .int .i64 0, .float .f64 0, .string ⟨#[]⟩, .slice none 0 0] 27) := ⟨_, rfl⟩
      have HA : Hid (VBx W w1.heap.size) := Lib.hid (by rw [hW0]; exact heap_alloc_new w1 _)
      have HBW : Hid (Below w1.heap.size w1 W) := Lib.hid (by rw [hW0]; exact (Below.refl _ _).alloc (Nat.le_refl _) _)
      have HSW : Hid (W.heap.size = w1.heap.size + 1) := Lib.hid (by rw [hW0]; simp)
      have R2 := Lib.hid (read_a (HW1.out.below HBW.out))
      go_wp2_with fail
      rw [← hW0]
      replace hW0 := Lib.hid hW0
      refine R2.out.mono ?_
      rintro e w2 ⟨⟨p, c, rfl⟩, hb2⟩
      have HA2 : Hid (VBx w2 w1.heap.size) := Lib.hid ((hb2.block w1.heap.size (by have := HSW.out; omega)).trans HA.out)
      have HB2 := Lib.hid hb2
      have HL2 : Hid (w1.heap.size < w2.heap.size) := Lib.hid (by have := HSW.out; have := hb2.size; omega)
      obtain ⟨⟨g0, f0'⟩, ⟨g1, f1'⟩, ⟨g2, f2'⟩, ⟨g3, f3'⟩, ⟨g4, f4'⟩⟩ := HA2.out.cells
      clear hb2 R2
      have hl2 := HL2.out
      have hne : ¬ w2.heap.size = w1.heap.size := by omega
      have hne2 : ¬ w1.heap.size = w2.heap.size := by omega
      obtain ⟨V, hV⟩ : ∃ V, V = w2.alloc (.cells #[.int .i64 4, .int .i64 0, .float .f64 0, .string ⟨#[97]⟩, .slice p 0 c] 27) := ⟨_, rfl⟩
      have HV : Hid (V.heap[w2.heap.size]? = some (.cells #[.int .i64 4, .int .i64 0, .float .f64 0, .string ⟨#[97]⟩, .slice p 0 c] 27 (0, 0))) := Lib.hid (by rw [hV]; exact heap_alloc_new w2 _)
      have HVB : Hid (Below w2.heap.size w2 V) := Lib.hid (by rw [hV]; exact (Below.refl _ _).alloc (Nat.le_refl _) _)
      have HVS : Hid (V.heap.size = w2.heap.size + 1) := Lib.hid (by rw [hV]; simp)
      have S := Lib.hid (sameZero V)
      go_wp2_with fail
      rw [← hV]
      replace hV := Lib.hid hV
      refine S.out.mono ?_
      rintro e w3 ⟨rfl, hb3⟩
      have k3 : w3.cell? ⟨w2.heap.size, 3, none⟩ = some (.string ⟨#[97]⟩) := Joins.cell_of_block ((hb3.block w2.heap.size (by have := HVS.out; omega)).trans HV.out) 3
      have HF : Hid (Below w.heap.size w w3) := Lib.hid (by
        have s1 := HB1.out.size
        have s2 := HBW.out.size
        have s3 := HB2.out.size
        have s4 := HVB.out.size
        exact (((HB1.out.trans (HBW.out.mono s1)).trans (HB2.out.mono (by omega))).trans (HVB.out.mono (by omega))).trans (hb3.mono (by omega)))
      clear hb3 S g0 g1 g2 g3 g4 f0' f1' f2' f3' f4'
      go_wp2
      go_ret
      exact ⟨rfl, HF.out⟩
    · rw [hv] at R
      obtain ⟨b1, b2, b3, b4, b5⟩ := valueR_back hv
      have hml := valueR_len hv
      have hts : t.data.toList.length = t.size := rfl
      have hpn := prV_ne b1
      obtain ⟨u, hu⟩ : ∃ u, u = t.size - m.length := ⟨_, rfl⟩
      have hlen : t.size = (prV ⟨k, n, f, z⟩ ls).length + m.length := by rw [← hts, b2, List.length_append]
      have hpu : (prV ⟨k, n, f, z⟩ ls).length = u := by omega
      obtain ⟨T, hT⟩ : ∃ T, T = (⟨(prV ⟨k, n, f, z⟩ ls).toArray⟩ : ByteArray) := ⟨_, rfl⟩
      have hcast : (t.size : Int) - (m.length : Int) = (u : Int) := by omega
      have hut : (u : Int) ≤ (t.size : Int) := by omega
      have hup : (0 : Int) < (u : Int) := by omega
      have hd1 : decide ((u : Int) ≤ (t.size : Int)) = true := decide_eq_true hut
      have hun : 0 < u := by omega
      have hext : t.extract 0 u = T := by
        apply ByteArray.ext
        apply Array.ext'
        rw [hT, ByteArray.data_extract, Array.toList_extract, b2]
        simp [List.extract, ← hpu]
      refine R.mono ?_
      rintro e w1 ⟨⟨v, rfl, ho⟩, hb1⟩
      obtain ⟨q, hq⟩ : ∃ q, q = ls.length := ⟨_, rfl⟩
      obtain ⟨p, c, rfl, o1, o2, o3⟩ := ho.form hq
      have hva : VaOk w1 ⟨k, n, f, z⟩ p q c ls := ⟨b3, hq, o1, o2, o3, b4⟩
      have HB1 := Lib.hid hb1
      obtain ⟨W, hW0⟩ : ∃ W, W = w1.alloc (.cells #[.int .i64 k, .int .i64 n, .float .f64 f, .string z, .slice p q c] 27) := ⟨_, rfl⟩
      have HA : Hid (W.heap[w1.heap.size]? = some (.cells #[.int .i64 k, .int .i64 n, .float .f64 f, .string z, .slice p q c] 27 (0, 0))) := Lib.hid (by rw [hW0]; exact heap_alloc_new w1 _)
      have HBW : Hid (Below w1.heap.size w1 W) := Lib.hid (by rw [hW0]; exact (Below.refl _ _).alloc (Nat.le_refl _) _)
      have HSW : Hid (W.heap.size = w1.heap.size + 1) := Lib.hid (by rw [hW0]; simp)
      have HWW : Hid (∀ w', Below W.heap.size W w' → Below w1.heap.size w1 w') := Lib.hid fun w' h => HBW.out.trans (h.mono HBW.out.size)
      have HPW : Hid (PW w1) := Lib.hid (HW.out.below hb1).pw
      have A1 : Hid (∀ w', Below W.heap.size W w' → Calls Tryd.prog 8 #[.agg #[.int .i64 k, .int .i64 n, .float .f64 f, .string z, .slice p q c]] w' fun e w'' => e = .returned (.string T) ∧ Below w'.heap.size w' w'') := Lib.hid fun w' hb => by
        rw [hT]
        exact (print_any (HPW.out.below (HWW.out _ hb)) (hva.below (HWW.out _ hb))).mono fun e w2 ⟨⟨y, e1, e2⟩, e3⟩ => ⟨by rw [e1, ← e2], e3⟩
      have A2 : Hid (∀ w', Below W.heap.size W w' → Calls Tryd.prog 9 #[.agg #[.int .i64 k, .int .i64 n, .float .f64 f, .string z, .slice p q c]] w' fun e w'' => e = .returned (.bool true) ∧ Below w'.heap.size w' w'') := Lib.hid fun w' hb => by
        have h := valid_any (hva.below (HWW.out _ hb))
        rw [b1] at h
        exact h
      have HK : Hid (∀ w', Below W.heap.size W w' → w'.cell? ⟨w1.heap.size, 0, none⟩ = some (.int .i64 k) ∧ w'.cell? ⟨w1.heap.size, 1, none⟩ = some (.int .i64 n) ∧ w'.cell? ⟨w1.heap.size, 2, none⟩ = some (.float .f64 f) ∧ w'.cell? ⟨w1.heap.size, 3, none⟩ = some (.string z) ∧ w'.cell? ⟨w1.heap.size, 4, none⟩ = some (.slice p q c)) := Lib.hid fun w' hb => by
        have h := (hb.block w1.heap.size (by have := HSW.out; omega)).trans HA.out
        exact ⟨Joins.cell_of_block h 0, Joins.cell_of_block h 1, Joins.cell_of_block h 2, Joins.cell_of_block h 3, Joins.cell_of_block h 4⟩
      rw [hcast]
      clear R hv b1 b2 b3 b4 b5 hml hts hpn hu hlen hpu hT hcast ho hq hb1 hva o1 o2 o3
      go_wp2_with fail
      rw [← hW0]
      replace hW0 := Lib.hid hW0
      go_region_held3 (fun w' => w'.cell? ⟨w1.heap.size, 0, none⟩ = some (.int .i64 k) ∧ w'.cell? ⟨w1.heap.size, 1, none⟩ = some (.int .i64 n) ∧ w'.cell? ⟨w1.heap.size, 2, none⟩ = some (.float .f64 f) ∧ w'.cell? ⟨w1.heap.size, 3, none⟩ = some (.string z) ∧ w'.cell? ⟨w1.heap.size, 4, none⟩ = some (.slice p q c))
        (first | exact HK.out _ HC2.out | exact HK.out _ HC1.out | exact HK.out _ (Below.refl _ _).drew)
        (first
          | (go_at_call 9; (with_reducible refine (A2.out _ HC1.out).mono ?_); rintro e u2 ⟨rfl, hu2⟩; have HC2 : Hid (Below W.heap.size W u2) := Lib.hid (HC1.out.trans (hu2.mono HC1.out.size)); clear hu2)
          | (go_at_call 8; (with_reducible refine (A1.out _ (Below.refl _ _).drew).mono ?_); rintro e u1 ⟨rfl, hu1⟩; have HC1 : Hid (Below W.heap.size W u1) := Lib.hid ((Below.refl W.heap.size W).drew.trans hu1); clear hu1))
      go_wp2
      go_ret
      exact ⟨rfl, HB1.out.trans ((HWW.out _ HC2.out).mono HB1.out.size)⟩
  · have HTZ : Hid (s.size ≤ 5000) := Lib.hid (by omega)
    go_enter Tryd.func4, Tryd.ntmps4
    go_wp2_with fail
    obtain ⟨t, rfl⟩ : ∃ t, t = s := ⟨_, rfl⟩
    have R := read_any HW.out t (by have := HTZ.out; omega)
    rcases hv : valueR t.data.toList with x | ⟨⟨⟨k, n, f, z⟩, ls⟩, m⟩
    · rw [hv] at R
      have hx := valueR_err hv
      have hx0 : ¬ x = 0 := by omega
      have hxb : (x != 0) = true := by simpa using hx0
      clear hv hx
      refine R.mono ?_
      rintro e w1 ⟨rfl, hb1⟩
      have HB1 := Lib.hid hb1
      have HW1 := Lib.hid (HW.out.below hb1)
      clear hb1 R
      obtain ⟨W, hW0⟩ : ∃ W, W = w1.alloc (.cells #[.int .i64 0, .int .i64 0, .float .f64 0, .string ⟨#[]⟩, .slice none 0 0] 27) := ⟨_, rfl⟩
      have HA : Hid (VBx W w1.heap.size) := Lib.hid (by rw [hW0]; exact heap_alloc_new w1 _)
      have HBW : Hid (Below w1.heap.size w1 W) := Lib.hid (by rw [hW0]; exact (Below.refl _ _).alloc (Nat.le_refl _) _)
      have HSW : Hid (W.heap.size = w1.heap.size + 1) := Lib.hid (by rw [hW0]; simp)
      have R2 := Lib.hid (read_a (HW1.out.below HBW.out))
      go_wp2_with fail
      rw [← hW0]
      replace hW0 := Lib.hid hW0
      refine R2.out.mono ?_
      rintro e w2 ⟨⟨p, c, rfl⟩, hb2⟩
      have HA2 : Hid (VBx w2 w1.heap.size) := Lib.hid ((hb2.block w1.heap.size (by have := HSW.out; omega)).trans HA.out)
      have HB2 := Lib.hid hb2
      have HL2 : Hid (w1.heap.size < w2.heap.size) := Lib.hid (by have := HSW.out; have := hb2.size; omega)
      obtain ⟨⟨g0, f0'⟩, ⟨g1, f1'⟩, ⟨g2, f2'⟩, ⟨g3, f3'⟩, ⟨g4, f4'⟩⟩ := HA2.out.cells
      clear hb2 R2
      have hl2 := HL2.out
      have hne : ¬ w2.heap.size = w1.heap.size := by omega
      have hne2 : ¬ w1.heap.size = w2.heap.size := by omega
      obtain ⟨V, hV⟩ : ∃ V, V = w2.alloc (.cells #[.int .i64 4, .int .i64 0, .float .f64 0, .string ⟨#[97]⟩, .slice p 0 c] 27) := ⟨_, rfl⟩
      have HV : Hid (V.heap[w2.heap.size]? = some (.cells #[.int .i64 4, .int .i64 0, .float .f64 0, .string ⟨#[97]⟩, .slice p 0 c] 27 (0, 0))) := Lib.hid (by rw [hV]; exact heap_alloc_new w2 _)
      have HVB : Hid (Below w2.heap.size w2 V) := Lib.hid (by rw [hV]; exact (Below.refl _ _).alloc (Nat.le_refl _) _)
      have HVS : Hid (V.heap.size = w2.heap.size + 1) := Lib.hid (by rw [hV]; simp)
      have S := Lib.hid (sameZero V)
      go_wp2_with fail
      rw [← hV]
      replace hV := Lib.hid hV
      refine S.out.mono ?_
      rintro e w3 ⟨rfl, hb3⟩
      have k3 : w3.cell? ⟨w2.heap.size, 3, none⟩ = some (.string ⟨#[97]⟩) := Joins.cell_of_block ((hb3.block w2.heap.size (by have := HVS.out; omega)).trans HV.out) 3
      have HF : Hid (Below w.heap.size w w3) := Lib.hid (by
        have s1 := HB1.out.size
        have s2 := HBW.out.size
        have s3 := HB2.out.size
        have s4 := HVB.out.size
        exact (((HB1.out.trans (HBW.out.mono s1)).trans (HB2.out.mono (by omega))).trans (HVB.out.mono (by omega))).trans (hb3.mono (by omega)))
      clear hb3 S g0 g1 g2 g3 g4 f0' f1' f2' f3' f4'
      go_wp2
      go_ret
      exact ⟨rfl, HF.out⟩
    · rw [hv] at R
      obtain ⟨b1, b2, b3, b4, b5⟩ := valueR_back hv
      have hml := valueR_len hv
      have hts : t.data.toList.length = t.size := rfl
      have hpn := prV_ne b1
      obtain ⟨u, hu⟩ : ∃ u, u = t.size - m.length := ⟨_, rfl⟩
      have hlen : t.size = (prV ⟨k, n, f, z⟩ ls).length + m.length := by rw [← hts, b2, List.length_append]
      have hpu : (prV ⟨k, n, f, z⟩ ls).length = u := by omega
      obtain ⟨T, hT⟩ : ∃ T, T = (⟨(prV ⟨k, n, f, z⟩ ls).toArray⟩ : ByteArray) := ⟨_, rfl⟩
      have hcast : (t.size : Int) - (m.length : Int) = (u : Int) := by omega
      have hut : (u : Int) ≤ (t.size : Int) := by omega
      have hup : (0 : Int) < (u : Int) := by omega
      have hd1 : decide ((u : Int) ≤ (t.size : Int)) = true := decide_eq_true hut
      have hun : 0 < u := by omega
      have hext : t.extract 0 u = T := by
        apply ByteArray.ext
        apply Array.ext'
        rw [hT, ByteArray.data_extract, Array.toList_extract, b2]
        simp [List.extract, ← hpu]
      refine R.mono ?_
      rintro e w1 ⟨⟨v, rfl, ho⟩, hb1⟩
      obtain ⟨q, hq⟩ : ∃ q, q = ls.length := ⟨_, rfl⟩
      obtain ⟨p, c, rfl, o1, o2, o3⟩ := ho.form hq
      have hva : VaOk w1 ⟨k, n, f, z⟩ p q c ls := ⟨b3, hq, o1, o2, o3, b4⟩
      have HB1 := Lib.hid hb1
      obtain ⟨W, hW0⟩ : ∃ W, W = w1.alloc (.cells #[.int .i64 k, .int .i64 n, .float .f64 f, .string z, .slice p q c] 27) := ⟨_, rfl⟩
      have HA : Hid (W.heap[w1.heap.size]? = some (.cells #[.int .i64 k, .int .i64 n, .float .f64 f, .string z, .slice p q c] 27 (0, 0))) := Lib.hid (by rw [hW0]; exact heap_alloc_new w1 _)
      have HBW : Hid (Below w1.heap.size w1 W) := Lib.hid (by rw [hW0]; exact (Below.refl _ _).alloc (Nat.le_refl _) _)
      have HSW : Hid (W.heap.size = w1.heap.size + 1) := Lib.hid (by rw [hW0]; simp)
      have HWW : Hid (∀ w', Below W.heap.size W w' → Below w1.heap.size w1 w') := Lib.hid fun w' h => HBW.out.trans (h.mono HBW.out.size)
      have HPW : Hid (PW w1) := Lib.hid (HW.out.below hb1).pw
      have A1 : Hid (∀ w', Below W.heap.size W w' → Calls Tryd.prog 8 #[.agg #[.int .i64 k, .int .i64 n, .float .f64 f, .string z, .slice p q c]] w' fun e w'' => e = .returned (.string T) ∧ Below w'.heap.size w' w'') := Lib.hid fun w' hb => by
        rw [hT]
        exact (print_any (HPW.out.below (HWW.out _ hb)) (hva.below (HWW.out _ hb))).mono fun e w2 ⟨⟨y, e1, e2⟩, e3⟩ => ⟨by rw [e1, ← e2], e3⟩
      have A2 : Hid (∀ w', Below W.heap.size W w' → Calls Tryd.prog 9 #[.agg #[.int .i64 k, .int .i64 n, .float .f64 f, .string z, .slice p q c]] w' fun e w'' => e = .returned (.bool true) ∧ Below w'.heap.size w' w'') := Lib.hid fun w' hb => by
        have h := valid_any (hva.below (HWW.out _ hb))
        rw [b1] at h
        exact h
      have HK : Hid (∀ w', Below W.heap.size W w' → w'.cell? ⟨w1.heap.size, 0, none⟩ = some (.int .i64 k) ∧ w'.cell? ⟨w1.heap.size, 1, none⟩ = some (.int .i64 n) ∧ w'.cell? ⟨w1.heap.size, 2, none⟩ = some (.float .f64 f) ∧ w'.cell? ⟨w1.heap.size, 3, none⟩ = some (.string z) ∧ w'.cell? ⟨w1.heap.size, 4, none⟩ = some (.slice p q c)) := Lib.hid fun w' hb => by
        have h := (hb.block w1.heap.size (by have := HSW.out; omega)).trans HA.out
        exact ⟨Joins.cell_of_block h 0, Joins.cell_of_block h 1, Joins.cell_of_block h 2, Joins.cell_of_block h 3, Joins.cell_of_block h 4⟩
      rw [hcast]
      clear R hv b1 b2 b3 b4 b5 hml hts hpn hu hlen hpu hT hcast ho hq hb1 hva o1 o2 o3
      go_wp2_with fail
      rw [← hW0]
      replace hW0 := Lib.hid hW0
      go_region_held3 (fun w' => w'.cell? ⟨w1.heap.size, 0, none⟩ = some (.int .i64 k) ∧ w'.cell? ⟨w1.heap.size, 1, none⟩ = some (.int .i64 n) ∧ w'.cell? ⟨w1.heap.size, 2, none⟩ = some (.float .f64 f) ∧ w'.cell? ⟨w1.heap.size, 3, none⟩ = some (.string z) ∧ w'.cell? ⟨w1.heap.size, 4, none⟩ = some (.slice p q c))
        (first | exact HK.out _ HC2.out | exact HK.out _ HC1.out | exact HK.out _ (Below.refl _ _).drew)
        (first
          | (go_at_call 9; (with_reducible refine (A2.out _ HC1.out).mono ?_); rintro e u2 ⟨rfl, hu2⟩; have HC2 : Hid (Below W.heap.size W u2) := Lib.hid (HC1.out.trans (hu2.mono HC1.out.size)); clear hu2)
          | (go_at_call 8; (with_reducible refine (A1.out _ (Below.refl _ _).drew).mono ?_); rintro e u1 ⟨rfl, hu1⟩; have HC1 : Hid (Below W.heap.size W u1) := Lib.hid ((Below.refl W.heap.size W).drew.trans hu1); clear hu1))
      go_wp2
      go_ret
      exact ⟨rfl, HB1.out.trans ((HWW.out _ HC2.out).mono HB1.out.size)⟩

end Go.Proofs.YtcgjefaebofikaaDoor
