/-
  The reference's reader: Read: its contract.
-/
import Derived.Test.YtckmajcophpddaaDoorVRrRp
set_option linter.unusedVariables false
set_option linter.unusedSimpArgs false
set_option maxRecDepth 100000
namespace Go.Proofs.YtckmajcophpddaaDoor
open Go.RowKit

set_option maxHeartbeats 8000000 in
theorem rread_any {w : World} (s : ByteArray) (hs : s.size ≤ 281474976710656) :
    Calls Tryd.prog 6 #[.string s] w fun e w' => RdOut w s.size e w' (valueR s.data.toList) := by
  have hst := store_flt
  obtain ⟨W, hW0⟩ : ∃ W, W = w.alloc (.cells #[.int .i64 0, .int .i64 0, .float .f64 0, .string ⟨#[]⟩, .slice none 0 0] 27) := ⟨_, rfl⟩
  have HBW : Hid (Below w.heap.size w W) := Lib.hid (by rw [hW0]; exact (Below.refl _ _).alloc (Nat.le_refl _) _)
  have HA0 : Hid (VBx W w.heap.size) := Lib.hid (by rw [hW0]; exact heap_alloc_new w _)
  have HSW : Hid (W.heap.size = w.heap.size + 1) := Lib.hid (by rw [hW0]; simp)
  obtain ⟨l, hl⟩ : ∃ l, l = s.data.toList := ⟨_, rfl⟩
  have HLL : Hid (l.length = s.size) := Lib.hid (by rw [hl]; rfl)
  have HBG := fun (p : List UInt8) => Lib.hid (fun w' => begins_any (w := w') s ⟨p.toArray⟩ (by omega))
  have HRA : Hid (∀ w', Calls Tryd.prog 13 #[.string s] w' fun e w2 => RAPost w' s.size e w2 (atomR l)) := Lib.hid (fun w' => by rw [hl]; exact ratom_any s hs)
  have HBX : Hid (∀ (a : Nat) (p : List UInt8) w', Calls Tryd.prog 12 #[.string (s.extract a s.size), .string ⟨p.toArray⟩] w' fun e w2 => e = .returned (.bool (Lib.hasPrefix (l.drop a) p)) ∧ w' = w2) := Lib.hid (fun a p w' => by
    have h := begins_any (w := w') (s.extract a s.size) ⟨p.toArray⟩ (by rw [ByteArray.size_extract]; omega)
    rw [ext_drop, ← hl] at h
    exact h)
  have HRX : Hid (∀ (a : Nat), a ≤ s.size → ∀ w', Calls Tryd.prog 13 #[.string (s.extract a s.size)] w' fun e w2 => RAPost w' (s.size - a) e w2 (atomR (l.drop a))) := Lib.hid (fun a ha w' => by
    have h := ratom_any (w := w') (s.extract a s.size) (by rw [ByteArray.size_extract]; omega)
    rw [ext_drop, ← hl, ByteArray.size_extract, Nat.min_self] at h
    exact h)
  rw [← hl]
  have hB : ∀ p : List UInt8, (⟨p.toArray⟩ : ByteArray).data.toList = p := fun p => rfl
  simp only [hB] at HBG
  rw [← hl] at HBG
  clear hl hB
  go_enter Tryd.func6, Tryd.ntmps6
  go_wp2_with fail
  rw [← hW0]
  replace hW0 := Lib.hid hW0
  cases k0 : Lib.hasPrefix l [91]
  · have C := HBG [91]
    rw [k0] at C
    (with_reducible refine (C.out _).mono ?_); rintro e w1 ⟨rfl, rfl⟩
    clear C
    have R := Lib.hid (HRA.out W)
    have HE : Hid (valueR l = (atomR l).map fun p => ((p.1, []), p.2)) := Lib.hid (by unfold valueR; rw [if_neg (by rw [k0]; decide)])
    go_wp2_with fail
    rcases hc : atomR l with x | ⟨⟨k1, n1, f1, s1⟩, m⟩
    · rw [hc] at R HE
      have hx0 : (x != 0) = true := by simpa using (atomR_err hc).ne
      clear hc
      refine R.out.mono ?_
      rintro e w2 ⟨⟨k1, n1, f1, s1⟩, y, he, hb2⟩
      replace he : e = .returned (.tuple #[.agg #[.int .i64 k1, .int .i64 n1, .float .f64 f1, .string s1], .int .i64 y, .int .i64 x]) := he
      subst he
      have HA2 := Lib.hid (HA0.out.below hb2 HA0.out.lt)
      have HB2 := Lib.hid (HBW.out.trans (hb2.mono (by have := HSW.out; omega)))
      obtain ⟨⟨g0, f0'⟩, ⟨g1, f1'⟩, ⟨g2, f2'⟩, ⟨g3, f3'⟩, ⟨g4, f4'⟩⟩ := HA2.out.cells
      have hlt2 := HA2.out.lt
      clear hb2 R
      go_wp2
      refine bodyPost_ret (v := .tuple #[.agg #[.int .i64 0, .int .i64 0, .float .f64 0, .string ⟨#[]⟩, .slice none 0 0], .int .i64 0, .int .i64 x]) (by simp [results, Tryd.results6, go_sem, g0, g1, g2, g3, g4, hlt2]) rfl ?_
      rw [HE.out]
      exact ⟨rfl, (five_below HB2.out (Nat.le_refl _) _ _ _ _ _).alloc (by simp; omega) _⟩
    · rw [hc] at R HE
      clear hc
      refine R.out.mono ?_
      rintro e w2 ⟨he, hb2⟩
      replace he : e = .returned (.tuple #[.agg #[.int .i64 k1, .int .i64 n1, .float .f64 f1, .string s1], .int .i64 ((s.size : Int) - (m.length : Int)), .int .i64 0]) := he
      subst he
      have HA2 := Lib.hid (HA0.out.below hb2 HA0.out.lt)
      have HB2 := Lib.hid (HBW.out.trans (hb2.mono (by have := HSW.out; omega)))
      obtain ⟨⟨g0, f0'⟩, ⟨g1, f1'⟩, ⟨g2, f2'⟩, ⟨g3, f3'⟩, ⟨g4, f4'⟩⟩ := HA2.out.cells
      have hlt2 := HA2.out.lt
      clear hb2 R
      go_wp2
      refine bodyPost_ret (v := .tuple #[.agg #[.int .i64 k1, .int .i64 n1, .float .f64 f1, .string s1, .slice none 0 0], .int .i64 ((s.size : Int) - (m.length : Int)), .int .i64 0]) (by simp [results, Tryd.results6, go_sem, g0, g1, g2, g3, g4, hlt2]) rfl ?_
      rw [HE.out]
      exact ⟨⟨_, rfl, AOwn.nil _ _⟩, (five_below HB2.out (Nat.le_refl _) _ _ _ _ _).alloc (by simp; omega) _⟩
  · have C := HBG [91]
    rw [k0] at C
    (with_reducible refine (C.out _).mono ?_); rintro e w1 ⟨rfl, rfl⟩
    clear C
    have hpos : 1 ≤ s.size := by have h := pre_len k0; rw [HLL.out] at h; simp at h; omega
    have C := HBG [91, 93]
    rw [rr_open k0] at C
    obtain ⟨V, hV0⟩ : ∃ V, V = W.alloc (.cells #[.int .i64 6, .int .i64 0, .float .f64 0, .string ⟨#[]⟩, .slice none 0 0] 27) := ⟨_, rfl⟩
    have HL0 : Hid (LBx V W.heap.size (.slice none 0 0)) := Lib.hid (by rw [hV0]; exact heap_alloc_new W _)
    have HBV : Hid (Below W.heap.size W V) := Lib.hid (by rw [hV0]; exact (Below.refl _ _).alloc (Nat.le_refl _) _)
    have HSV : Hid (V.heap.size = W.heap.size + 1) := Lib.hid (by rw [hV0]; simp)
    have HV0 : Hid (VBx V w.heap.size) := Lib.hid (HA0.out.below HBV.out HA0.out.lt)
    have HB0 : Hid (Below w.heap.size w V) := Lib.hid (HBW.out.trans (HBV.out.mono (by have := HSW.out; omega)))
    have HTR : Hid (Lib.trimPrefix l [91] = l.drop 1) := Lib.hid (pre_drop k0)
    go_wp2_with fail
    rw [← hV0]
    replace hV0 := Lib.hid hV0
    cases k1 : Lib.hasPrefix (l.drop 1) [93]
    · rw [k1] at C
      (with_reducible refine (C.out _).mono ?_); rintro e w1 ⟨rfl, rfl⟩
      clear C
      obtain ⟨X, hX⟩ : ∃ X, X = listR 16 [] (l.drop 1) := ⟨_, rfl⟩
      have HV : Hid (valueR l = X.map fun p => ((⟨6, 0, 0, ⟨#[]⟩⟩, p.1), p.2)) := Lib.hid (by unfold valueR; rw [if_pos k0, HTR.out]; unfold listsR; rw [if_neg (by rw [k1]; decide), hX])
      have HXX := Lib.hid hX
      clear hX k0 k1
      go_wp2
      go_loopw [9] (fun i wr => ∃ (acc : List At) (j k n c : Nat) (p : Option Addr), i = .int .i64 (j : Int) ∧ 1 ≤ j ∧ j ≤ s.size ∧ n = acc.length ∧ n ≤ c ∧ c ≤ 9223372036854775807 ∧ AOwn wr V.heap.size (.slice p n c) acc ∧ acc.length + k = 16 ∧ X = listR k acc (l.drop j) ∧ VBx wr w.heap.size ∧ LBx wr W.heap.size (.slice p n c) ∧ Below w.heap.size w wr ∧ V.heap.size ≤ wr.heap.size) (fun i _ => s.size - (intOf i).toNat)
      case atStart => exact ⟨[], 1, 16, 0, 0, none, rfl, Nat.le_refl _, hpos, rfl, Nat.le_refl _, by decide, AOwn.nil _ _, rfl, HXX.out, HV0.out, HL0.out, HB0.out, Nat.le_refl _⟩
      case round =>
        obtain ⟨acc, j, k, n, c, p, rfl, hj1, hj, hn, hnc, hcm, ho, hk, hte, hv, hb8, hb, hsz⟩ := hrel
        have HO := Lib.hid ho
        have HTE := Lib.hid hte
        have HN := Lib.hid hn
        have HK := Lib.hid hk
        have HVB := Lib.hid hv
        have HLB := Lib.hid hb8
        have HB := Lib.hid hb
        have HSZ := Lib.hid hsz
        clear ho hte hn hk hv hb8 hb hsz hnc hcm
        obtain ⟨⟨q0, q1, q2, q3, q4⟩, q5⟩ := HLB.out.cells
        have d0 : (j : Int) ≤ (s.size : Int) := by omega
        rcases k with _ | k
        · have h16 : n = 16 := by have := HK.out; have := HN.out; omega
          subst h16
          have HE : Hid (valueR l = .error 3) := Lib.hid (by rw [HV.out, HTE.out]; rfl)
          obtain ⟨⟨g0, f0'⟩, ⟨g1, f1'⟩, ⟨g2, f2'⟩, ⟨g3, f3'⟩, ⟨g4, f4'⟩⟩ := HVB.out.cells
          go_wp2
          refine bodyPost_ret (v := .tuple #[.agg #[.int .i64 0, .int .i64 0, .float .f64 0, .string ⟨#[]⟩, .slice none 0 0], .int .i64 0, .int .i64 3]) (by simp [results, Tryd.results6, go_sem, g0, g1, g2, g3, g4]) rfl ?_
          rw [HE.out]
          have hb := five_below HB.out (Nat.le_refl _) (.int .i64 0) (.int .i64 0) (.float .f64 0) (.string ⟨#[]⟩) (.slice none 0 0)
          exact ⟨rfl, hb⟩
        · have h16 : ((n : Int) == 16) = false := by rw [beq_eq_false_iff_ne]; have := HK.out; have := HN.out; omega
          have hn16 : ¬ (n : Int) = 16 := by have := HK.out; have := HN.out; omega
          have R := Lib.hid (HRX.out j hj wr)
          go_wp2_with fail
          rcases hc : atomR (l.drop j) with x | ⟨⟨k1, n1, f1, s1⟩, m⟩
          · have HE : Hid (valueR l = .error x) := Lib.hid (by rw [HV.out, HTE.out, listR_bad _ _ hc]; rfl)
            rw [hc] at R
            have hx0 : (x != 0) = true := by simpa using (atomR_err hc).ne
            clear hc
            refine R.out.mono ?_
            rintro e w2 ⟨⟨k1, n1, f1, s1⟩, y, he, hb2⟩
            replace he : e = .returned (.tuple #[.agg #[.int .i64 k1, .int .i64 n1, .float .f64 f1, .string s1], .int .i64 y, .int .i64 x]) := he
            subst he
            have HA2 := Lib.hid (HVB.out.below hb2 HVB.out.lt)
            have HB2 := Lib.hid (HB.out.trans (hb2.mono HB.out.size))
            obtain ⟨⟨g0, f0'⟩, ⟨g1, f1'⟩, ⟨g2, f2'⟩, ⟨g3, f3'⟩, ⟨g4, f4'⟩⟩ := HA2.out.cells
            have hlt2 := HA2.out.lt
            clear hb2 R q0 q1 q2 q3 q4 q5
            go_wp2
            refine bodyPost_ret (v := .tuple #[.agg #[.int .i64 0, .int .i64 0, .float .f64 0, .string ⟨#[]⟩, .slice none 0 0], .int .i64 0, .int .i64 x]) (by simp [results, Tryd.results6, go_sem, g0, g1, g2, g3, g4, hlt2]) rfl ?_
            rw [HE.out]
            have hb := five_below HB2.out (Nat.le_refl _) (.int .i64 0) (.int .i64 0) (.float .f64 0) (.string ⟨#[]⟩) (.slice none 0 0)
            exact ⟨rfl, hb.alloc (by simp; omega) _⟩
          · obtain ⟨u, hm, hml⟩ := rr_behind hc
            have HM := Lib.hid hm
            have hsu : ((s.size - j : Nat) : Int) - (m.length : Int) = (u : Int) := by have := HLL.out; omega
            obtain ⟨v, hv⟩ : ∃ v, v = j + u := ⟨_, rfl⟩
            have hvi : (j : Int) + (u : Int) = (v : Int) := by omega
            have hvs : v ≤ s.size := by have := HLL.out; omega
            have HVS := Lib.hid (show m.length + v = s.size by have := HLL.out; omega)
            rw [← hv] at hm
            replace HM := Lib.hid hm
            have HA := Lib.hid hc
            rw [hc] at R
            clear hc hm hml hv
            refine R.out.mono ?_
            rintro e w2 ⟨he, hb2⟩
            replace he : e = .returned (.tuple #[.agg #[.int .i64 k1, .int .i64 n1, .float .f64 f1, .string s1], .int .i64 (((s.size - j : Nat) : Int) - (m.length : Int)), .int .i64 0]) := he
            rw [hsu] at he
            subst he
            have HB2 := Lib.hid hb2
            have HO2 := Lib.hid (HO.out.below hb2)
            have HA2 := Lib.hid (HVB.out.below hb2 HVB.out.lt)
            have HL2 := Lib.hid (HLB.out.below hb2 HLB.out.lt)
            have HS2 : Hid (V.heap.size ≤ w2.heap.size) := Lib.hid (Nat.le_trans HSZ.out hb2.size)
            clear q0 q1 q2 q3 q4 q5 hb2 R hsu
            obtain ⟨⟨q0, q1, q2, q3, q4⟩, q5⟩ := HL2.out.cells
            have hlt2 := HL2.out.lt
            obtain ⟨n2, hn2⟩ : ∃ n, n = (acc ++ [(⟨k1, n1, f1, s1⟩ : At)]).length := ⟨_, rfl⟩
            have HN2 := Lib.hid hn2
            clear hn2
            go_wp2_with (at_builtin; refine app_atoms rfl (.tmp 52) (.tmp 54) rfl rfl (HO2.out.below (((Below.refl _ w2).alloc (Nat.le_refl _) _).alloc (by simp) _)) (m := [⟨k1, n1, f1, s1⟩]) rfl rfl (as_one (by simp) _) (fun h => by cases h) (by have := HK.out; simp; omega) (by have := HS2.out; simp; omega) ?_; intro v3 w3 ho3 hb3; obtain ⟨p3, c3, rfl, hn3, hc3, _⟩ := ho3.form HN2.out; have HO3 := Lib.hid ho3; have HB3 : Hid (Below V.heap.size w2 w3) := Lib.hid ((((Below.refl _ w2).alloc HS2.out _).alloc (by have := HS2.out; simp; omega) _).trans hb3); have HN3 := Lib.hid hn3; have HC3 := Lib.hid hc3; have HL3 := Lib.hid (HL2.out.below HB3.out (by have := HSV.out; omega)); have HA3 := Lib.hid (HA2.out.below HB3.out (by have := HSV.out; have := HSW.out; omega)); clear ho3 hb3 hn3 hc3 q0 q1 q2 q3 q4 q5; obtain ⟨⟨q0, q1, q2, q3, q4⟩, q5⟩ := HL3.out.cells)
            obtain ⟨w4, hw4⟩ : ∃ x, x = w3.setCell ⟨W.heap.size, 4, none⟩ (.slice p3 n2 c3) := ⟨_, rfl⟩
            have HL4 : Hid (LBx w4 W.heap.size (.slice p3 n2 c3)) := Lib.hid (by rw [hw4]; exact (HL3.out.set _).1)
            have HO4 : Hid (AOwn w4 V.heap.size (.slice p3 n2 c3) (acc ++ [⟨k1, n1, f1, s1⟩])) := Lib.hid (by rw [hw4]; exact HO3.out.far (by show W.heap.size < V.heap.size; have := HSV.out; omega) _)
            have HA4 : Hid (VBx w4 w.heap.size) := Lib.hid (by rw [hw4]; exact ((HL3.out.set _).2.block w.heap.size HA3.out.lt (by intro e; have := Option.some.inj e; have := HSW.out; omega)).trans HA3.out)
            have HB4 : Hid (Below w.heap.size w w4) := Lib.hid (by
              have h1 := HB.out.trans (HB2.out.mono HB.out.size)
              have h2 := h1.trans (HB3.out.mono (by have := HSV.out; have := HSW.out; omega))
              rw [hw4]
              exact h2.setCell (p := ⟨W.heap.size, 4, none⟩) (by show w.heap.size ≤ W.heap.size; have := HSW.out; omega) _)
            have HS4 : Hid (V.heap.size ≤ w4.heap.size) := Lib.hid (by rw [hw4]; have := HS2.out; have := HB3.out.size; simp; omega)
            rw [← hw4]
            replace hw4 := Lib.hid hw4
            clear q0 q1 q2 q3 q4 q5
            have C := Lib.hid (HBX.out v [93])
            cases k93 : Lib.hasPrefix m [93]
            · have k93' := k93
              rw [HM.out] at k93'
              rw [k93'] at C
              (with_reducible refine (C.out _).mono ?_); rintro e w5 ⟨rfl, rfl⟩
              clear C k93'
              have C := Lib.hid (HBX.out v [44, 32])
              cases k44 : Lib.hasPrefix m [44, 32]
              · have k44' := k44
                rw [HM.out] at k44'
                rw [k44'] at C
                have HE : Hid (valueR l = .error 11) := Lib.hid (by rw [HV.out, HTE.out, listR_form _ _ HA.out k93 k44]; rfl)
                clear k44' k44 k93
                go_wp2_with fail
                (with_reducible refine (C.out _).mono ?_); rintro e w5 ⟨rfl, rfl⟩
                obtain ⟨⟨g0, f0'⟩, ⟨g1, f1'⟩, ⟨g2, f2'⟩, ⟨g3, f3'⟩, ⟨g4, f4'⟩⟩ := HA4.out.cells
                go_wp2
                refine bodyPost_ret (v := .tuple #[.agg #[.int .i64 0, .int .i64 0, .float .f64 0, .string ⟨#[]⟩, .slice none 0 0], .int .i64 0, .int .i64 11]) (by simp [results, Tryd.results6, go_sem, g0, g1, g2, g3, g4]) rfl ?_
                rw [HE.out]
                have hb := five_below HB4.out (Nat.le_refl _) (.int .i64 0) (.int .i64 0) (.float .f64 0) (.string ⟨#[]⟩) (.slice none 0 0)
                exact ⟨rfl, hb⟩
              · have k44' := k44
                rw [HM.out] at k44'
                rw [k44'] at C
                have hml := pre_len k44
                rw [show ([44, 32] : List UInt8).length = 2 from rfl] at hml
                have hv2 : v + 2 ≤ s.size := by have := HVS.out; omega
                have HTE2 : Hid (X = listR k (acc ++ [⟨k1, n1, f1, s1⟩]) (l.drop (v + 2))) := Lib.hid (by
                  rw [HTE.out, listR_next k acc HA.out k93 k44, pre_drop k44, HM.out, List.drop_drop]
                  rfl)
                clear k44' k44 k93 hml
                go_wp2_with fail
                (with_reducible refine (C.out _).mono ?_); rintro e w5 ⟨rfl, rfl⟩
                go_wp2
                go_roundw
                case rel => exact ⟨acc ++ [⟨k1, n1, f1, s1⟩], v + 2, k, n2, c3, p3, by go_num, by omega, hv2, HN2.out, HN3.out, HC3.out, HO4.out, by have := HK.out; simp; omega, HTE2.out, HA4.out, HL4.out, HB4.out, HS4.out⟩
                case measure => simp [intOf]; omega
            · have k93' := k93
              rw [HM.out] at k93'
              rw [k93'] at C
              (with_reducible refine (C.out _).mono ?_); rintro e w5 ⟨rfl, rfl⟩
              have HE : Hid (valueR l = .ok ((⟨6, 0, 0, ⟨#[]⟩⟩, acc ++ [⟨k1, n1, f1, s1⟩]), Lib.trimPrefix m [93])) := Lib.hid (by rw [HV.out, HTE.out, listR_end k acc HA.out k93]; rfl)
              have hml := pre_len k93
              rw [show ([93] : List UInt8).length = 1 from rfl] at hml
              have HM2 : Hid ((s.size : Int) - ((Lib.trimPrefix m [93]).length : Int) = (v : Int) + 1) := Lib.hid (by have := HVS.out; omega)
              clear C k93' k93 hml
              obtain ⟨⟨g0, f0'⟩, ⟨g1, f1'⟩, ⟨g2, f2'⟩, ⟨g3, f3'⟩, ⟨g4, f4'⟩⟩ := HA4.out.cells
              obtain ⟨⟨q0, q1, q2, q3, q4⟩, q5⟩ := HL4.out.cells
              go_wp2
              refine bodyPost_ret (v := .tuple #[.agg #[.int .i64 6, .int .i64 0, .float .f64 0, .string ⟨#[]⟩, .slice p3 n2 c3], .int .i64 ((v : Int) + 1), .int .i64 0]) (by simp [results, Tryd.results6, go_sem, g0, g1, g2, g3, g4]) rfl ?_
              rw [HE.out]
              have hb := five_below HB4.out (Nat.le_refl _) (.int .i64 6) (.int .i64 0) (.float .f64 0) (.string ⟨#[]⟩) (.slice p3 n2 c3)
              have h1 : w.heap.size < V.heap.size := by have := HSV.out; have := HSW.out; omega
              have ho := ((((HO4.out.far (p := ⟨w.heap.size, 0, none⟩) h1 (.int .i64 6)).far (p := ⟨w.heap.size, 1, none⟩) h1 (.int .i64 0)).far (p := ⟨w.heap.size, 2, none⟩) h1 (.float .f64 0)).far (p := ⟨w.heap.size, 3, none⟩) h1 (.string ⟨#[]⟩)).far (p := ⟨w.heap.size, 4, none⟩) h1 (.slice p3 n2 c3)
              refine ⟨⟨.slice p3 n2 c3, ?_, ho.le (Nat.le_of_lt h1)⟩, hb⟩
              rw [HM2.out]
    · rw [k1] at C
      (with_reducible refine (C.out _).mono ?_); rintro e w1 ⟨rfl, rfl⟩
      clear C
      have HE : Hid (valueR l = .ok ((⟨6, 0, 0, ⟨#[]⟩⟩, []), Lib.trimPrefix (l.drop 1) [93])) := Lib.hid (by unfold valueR; rw [if_pos k0, HTR.out]; unfold listsR; rw [if_pos k1]; rfl)
      have HM : Hid ((s.size : Int) - ((Lib.trimPrefix (l.drop 1) [93]).length : Int) = 2) := Lib.hid (by have h := pre_len k1; rw [List.length_drop, HLL.out, show ([93] : List UInt8).length = 1 from rfl] at h; omega)
      obtain ⟨⟨g0, f0'⟩, ⟨g1, f1'⟩, ⟨g2, f2'⟩, ⟨g3, f3'⟩, ⟨g4, f4'⟩⟩ := HV0.out.cells
      obtain ⟨⟨q0, q1, q2, q3, q4⟩, _⟩ := HL0.out.cells
      go_wp2
      refine bodyPost_ret (v := .tuple #[.agg #[.int .i64 6, .int .i64 0, .float .f64 0, .string ⟨#[]⟩, .slice none 0 0], .int .i64 2, .int .i64 0]) (by simp [results, Tryd.results6, go_sem, g0, g1, g2, g3, g4]) rfl ?_
      rw [HE.out]
      have hb := five_below HB0.out (Nat.le_refl _) (.int .i64 6) (.int .i64 0) (.float .f64 0) (.string ⟨#[]⟩) (.slice none 0 0)
      refine ⟨⟨.slice none 0 0, ?_, AOwn.nil _ _⟩, hb⟩
      rw [HM.out]

end Go.Proofs.YtckmajcophpddaaDoor
