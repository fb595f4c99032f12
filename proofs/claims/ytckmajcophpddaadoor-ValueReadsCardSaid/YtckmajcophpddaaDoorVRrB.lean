/-
  The reference's reader: an atom: a contract for the walks.
-/
import Derived.Test.YtckmajcophpddaaDoorVRrW
import Derived.Test.YtckmajcophpddaaDoorFParseR
import Derived.Test.YtckmajcophpddaaDoorVRdL
set_option linter.unusedVariables false
set_option linter.unusedSimpArgs false
set_option maxRecDepth 100000
namespace Go.Proofs.YtckmajcophpddaaDoor
open Go.RowKit

def RAPost (w : World) (L : Nat) (e : Ending) (w' : World) : Except Int (At × List UInt8) → Prop
  | .ok (a, m) => e = .returned (.tuple #[a.cell, .int .i64 ((L : Int) - (m.length : Int)), .int .i64 0]) ∧ Below w.heap.size w w'
  | .error x => ∃ (c : At) (y : Int), e = .returned (.tuple #[c.cell, .int .i64 y, .int .i64 x]) ∧ Below w.heap.size w w'
theorem pre_len {l p : List UInt8} (h : Lib.hasPrefix l p = true) : (Lib.trimPrefix l p).length + p.length = l.length := by
  have e := pre_split h
  have := congrArg List.length e
  simp at this
  omega
theorem pre_drop {l p : List UInt8} (h : Lib.hasPrefix l p = true) : Lib.trimPrefix l p = l.drop p.length := by
  have e := pre_split h
  have h2 : l.drop p.length = (p ++ Lib.trimPrefix l p).drop p.length := by rw [← e]
  rw [h2, List.drop_left]
theorem ext_list (s : ByteArray) (a b : Nat) (hb : b ≤ s.size) : (s.extract a b).data.toList = (s.data.toList.drop a).take (b - a) := by
  rw [ByteArray.data_extract, Array.toList_extract, List.extract_eq_take_drop]
theorem parB_few {l : List UInt8} (h : l.length ≠ 16) : (parB l).2 = 11 := by rw [parB_len h]
theorem abox_below {W w1 : World} {A : Nat} (h : ABox W A) (hA : A < W.heap.size) (hb : Below W.heap.size W w1) : ABox w1 A := (hb.block A hA).trans h

set_option maxHeartbeats 8000000 in
theorem ratom_any {w : World} (s : ByteArray) (hs : s.size ≤ 281474976710656) :
    Calls Tryd.prog 13 #[.string s] w fun e w' => RAPost w s.size e w' (atomR s.data.toList) := by
  have hst := store_flt
  obtain ⟨W, hW0⟩ : ∃ W, W = w.alloc (.cells #[.int .i64 0, .int .i64 0, .float .f64 0, .string ⟨#[]⟩] 24) := ⟨_, rfl⟩
  have HBW : Hid (Below w.heap.size w W) := Lib.hid (by rw [hW0]; exact (Below.refl _ _).alloc (Nat.le_refl _) _)
  have HA0 : Hid (ABox W w.heap.size) := Lib.hid (by rw [hW0]; exact heap_alloc_new w _)
  have HLT : Hid (w.heap.size < W.heap.size) := Lib.hid (Array.getElem?_eq_some_iff.1 HA0.out).1
  obtain ⟨l, hl⟩ : ∃ l, l = s.data.toList := ⟨_, rfl⟩
  have hll : l.length = s.size := by rw [hl]; rfl
  have HLL := Lib.hid hll
  have HBG := fun (p : List UInt8) => Lib.hid (fun w' => begins_any (w := w') s ⟨p.toArray⟩ (by omega))
  have HTX := Lib.hid (fun w' h1 => rtext_any (w := w') s hs h1)
  have HWH : Hid (∀ w', Calls Tryd.prog 26 #[.string s] w' fun e w2 => WPost w' s.size e w2 (wholeR l)) := Lib.hid (fun w' => by
    rw [hl]
    cases hsg : Lib.hasPrefix s.data.toList [45]
    · exact rwhole_pos s hs hsg
    · exact rwhole_neg s hs hsg)
  have HPA := fun (a b : Nat) => Lib.hid (fun w' => refParse_any (w := w') (s.extract a b))
  have HT1 : Hid (∀ w', 1 ≤ (s.extract 1 s.size).size → Calls Tryd.prog 25 #[.string (s.extract 1 s.size)] w' fun e w2 => TPost w' (s.extract 1 s.size).size e w2 (textR 256 [] ((s.extract 1 s.size).data.toList.drop 1))) := Lib.hid (fun w' h1 => rtext_any (w := w') (s.extract 1 s.size) (by rw [ByteArray.size_extract]; omega) h1)
  rw [← hl]
  rw [← hl] at HTX
  have HX1 : Hid ((s.extract 1 s.size).data.toList = l.drop 1) := Lib.hid (by rw [ext_list _ _ _ (Nat.le_refl _), ← hl, List.take_of_length_le (by rw [List.length_drop]; omega)])
  have HX2 : Hid (18 ≤ s.size → (s.extract 2 18).data.toList = (l.drop 2).take 16) := Lib.hid (fun h => by rw [ext_list _ _ _ h, ← hl])
  have HZ1 : Hid ((s.extract 1 s.size).size = s.size - 1) := Lib.hid (by rw [ByteArray.size_extract]; omega)
  have HL := Lib.hid hl
  have hB : ∀ p : List UInt8, (⟨p.toArray⟩ : ByteArray).data.toList = p := fun p => rfl
  simp only [hB] at HBG
  rw [← hl] at HBG
  clear hl hll hB
  go_enter Tryd.func13, Tryd.ntmps13
  go_wp2_with fail
  rw [← hW0]
  replace hW0 := Lib.hid hW0
  cases k0 : Lib.hasPrefix l [110, 117, 108, 108]
  · skip
    have C0 := HBG [110, 117, 108, 108]
    rw [k0] at C0
    (with_reducible refine (C0.out _).mono ?_); rintro e w1 ⟨rfl, rfl⟩
    clear C0
    go_wp2_with fail
    cases k1 : Lib.hasPrefix l [116, 114, 117, 101]
    · skip
      have C1 := HBG [116, 114, 117, 101]
      rw [k1] at C1
      (with_reducible refine (C1.out _).mono ?_); rintro e w1 ⟨rfl, rfl⟩
      clear C1
      go_wp2_with fail
      cases k2 : Lib.hasPrefix l [102, 97, 108, 115, 101]
      · skip
        have C2 := HBG [102, 97, 108, 115, 101]
        rw [k2] at C2
        (with_reducible refine (C2.out _).mono ?_); rintro e w1 ⟨rfl, rfl⟩
        clear C2
        go_wp2_with fail
        cases k3 : Lib.hasPrefix l [48, 102]
        · skip
          have C3 := HBG [48, 102]
          rw [k3] at C3
          (with_reducible refine (C3.out _).mono ?_); rintro e w1 ⟨rfl, rfl⟩
          clear C3
          go_wp2_with fail
          cases k4 : Lib.hasPrefix l [34]
          · skip
            have C4 := HBG [34]
            rw [k4] at C4
            (with_reducible refine (C4.out _).mono ?_); rintro e w1 ⟨rfl, rfl⟩
            clear C4
            go_wp2_with fail
            cases k5 : Lib.hasPrefix l [120, 34]
            · skip
              have C5 := HBG [120, 34]
              rw [k5] at C5
              (with_reducible refine (C5.out _).mono ?_); rintro e w1 ⟨rfl, rfl⟩
              clear C5
              obtain ⟨⟨g0, f0⟩, ⟨g1, f1⟩, ⟨g2, f2⟩, ⟨g3, f3⟩⟩ := HA0.out.cells
              have HE : Hid (atomR l = (wholeR l).map fun p => (⟨2, p.1, 0, ⟨#[]⟩⟩, p.2)) := Lib.hid (by unfold atomR; rw [if_neg (by rw [k0]; decide)]; rw [if_neg (by rw [k2]; decide)]; rw [if_neg (by rw [k1]; decide)]; rw [if_neg (by rw [k3]; decide)]; rw [if_neg (by rw [k4]; decide)]; rw [if_neg (by rw [k5]; decide)])
              have C := Lib.hid (HWH.out W)
              rcases hc : wholeR l with x | ⟨q, m⟩
              · rw [hc] at C HE
                clear hc
                go_wp2_with fail
                refine C.out.mono ?_
                rintro e w5 ⟨rfl, rfl⟩
                go_wp2
                refine bodyPost_ret (v := .tuple #[At.cell ⟨2, 0, 0, ⟨#[]⟩⟩, .int .i64 0, .int .i64 x]) (by simp [results, Tryd.results13, go_sem, At.cell, g0, g1, g2, g3]) rfl ?_
                rw [HE.out]
                exact ⟨_, _, rfl, four_below HBW.out (Nat.le_refl _) _ _ _ _⟩
              · rw [hc] at C HE
                clear hc
                go_wp2_with fail
                refine C.out.mono ?_
                rintro e w5 ⟨rfl, rfl⟩
                go_wp2
                refine bodyPost_ret (v := .tuple #[At.cell ⟨2, q, 0, ⟨#[]⟩⟩, .int .i64 ((s.size : Int) - (m.length : Int)), .int .i64 0]) (by simp [results, Tryd.results13, go_sem, At.cell, g0, g1, g2, g3]) rfl ?_
                rw [HE.out]
                exact ⟨rfl, four_below HBW.out (Nat.le_refl _) _ _ _ _⟩
            · skip
              have C5 := HBG [120, 34]
              rw [k5] at C5
              (with_reducible refine (C5.out _).mono ?_); rintro e w1 ⟨rfl, rfl⟩
              clear C5
              have HE : Hid (atomR l = (textR 256 [] (l.drop 2)).map fun p => (⟨5, 0, 0, ⟨p.1.toArray⟩⟩, p.2)) := Lib.hid (by unfold atomR; rw [if_neg (by rw [k0]; decide)]; rw [if_neg (by rw [k2]; decide)]; rw [if_neg (by rw [k1]; decide)]; rw [if_neg (by rw [k3]; decide)]; rw [if_neg (by rw [k4]; decide)]; rw [if_pos k5]; rw [pre_drop k5]; rfl)
              have hps : 2 ≤ s.size := by have h := pre_len k5; rw [HLL.out] at h; simp at h; omega
              have C := Lib.hid (HT1.out W (by rw [HZ1.out]; omega))
              rw [HX1.out, List.drop_drop, HZ1.out] at C
              have d1 : (1 : Int) ≤ (s.size : Int) := by omega
              rcases hc : textR 256 [] (l.drop 2) with x | ⟨q, m⟩
              · rw [hc] at C HE
                clear hc
                go_wp2_with fail
                refine C.out.mono ?_
                rintro e w5 ⟨rfl, hb5⟩
                obtain ⟨⟨g0, f0⟩, ⟨g1, f1⟩, ⟨g2, f2⟩, ⟨g3, f3⟩⟩ := (abox_below HA0.out HLT.out hb5).cells
                have HB5 : Hid (Below w.heap.size w w5) := Lib.hid (HBW.out.trans (hb5.mono (Nat.le_of_lt HLT.out)))
                clear hb5
                go_wp2
                refine bodyPost_ret (v := .tuple #[At.cell ⟨5, 0, 0, ⟨#[]⟩⟩, .int .i64 1, .int .i64 x]) (by simp [results, Tryd.results13, go_sem, At.cell, g0, g1, g2, g3]) rfl ?_
                rw [HE.out]
                exact ⟨_, _, rfl, four_below HB5.out (Nat.le_refl _) _ _ _ _⟩
              · have hml : m.length + 2 ≤ s.size := by have h := textR_len _ _ _ hc; rw [List.length_drop, HLL.out] at h; omega
                rw [hc] at C HE
                clear hc
                go_wp2_with fail
                refine C.out.mono ?_
                rintro e w5 ⟨rfl, hb5⟩
                obtain ⟨⟨g0, f0⟩, ⟨g1, f1⟩, ⟨g2, f2⟩, ⟨g3, f3⟩⟩ := (abox_below HA0.out HLT.out hb5).cells
                have HB5 : Hid (Below w.heap.size w w5) := Lib.hid (HBW.out.trans (hb5.mono (Nat.le_of_lt HLT.out)))
                clear hb5
                obtain ⟨y, hy⟩ : ∃ y : Int, y = ((s.size - 1 : Nat) : Int) - (m.length : Int) := ⟨_, rfl⟩
                rw [← hy]
                have hy1 : y + 1 = (s.size : Int) - (m.length : Int) := by omega
                have hy2 : 0 ≤ y := by omega
                have hy3 : y ≤ 281474976710656 := by omega
                have HM := Lib.hid hy1
                clear hy hy1
                go_wp2
                refine bodyPost_ret (v := .tuple #[At.cell ⟨5, 0, 0, ⟨q.toArray⟩⟩, .int .i64 (y + 1), .int .i64 0]) (by simp [results, Tryd.results13, go_sem, At.cell, g0, g1, g2, g3]) rfl ?_
                rw [HE.out]
                refine ⟨?_, four_below HB5.out (Nat.le_refl _) _ _ _ _⟩
                rw [HM.out]
          · skip
            have C4 := HBG [34]
            rw [k4] at C4
            (with_reducible refine (C4.out _).mono ?_); rintro e w1 ⟨rfl, rfl⟩
            clear C4
            have HE : Hid (atomR l = (textR 256 [] (l.drop 1)).map fun p => (⟨4, 0, 0, ⟨p.1.toArray⟩⟩, p.2)) := Lib.hid (by unfold atomR; rw [if_neg (by rw [k0]; decide)]; rw [if_neg (by rw [k2]; decide)]; rw [if_neg (by rw [k1]; decide)]; rw [if_neg (by rw [k3]; decide)]; rw [if_pos k4]; rw [pre_drop k4]; rfl)
            have hps : 1 ≤ s.size := by have h := pre_len k4; rw [HLL.out] at h; simp at h; omega
            have C := Lib.hid (HTX.out W (by omega))
            rcases hc : textR 256 [] (l.drop 1) with x | ⟨q, m⟩
            · rw [hc] at C HE
              clear hc
              go_wp2_with fail
              refine C.out.mono ?_
              rintro e w5 ⟨rfl, hb5⟩
              obtain ⟨⟨g0, f0⟩, ⟨g1, f1⟩, ⟨g2, f2⟩, ⟨g3, f3⟩⟩ := (abox_below HA0.out HLT.out hb5).cells
              have HB5 : Hid (Below w.heap.size w w5) := Lib.hid (HBW.out.trans (hb5.mono (Nat.le_of_lt HLT.out)))
              clear hb5
              go_wp2
              refine bodyPost_ret (v := .tuple #[At.cell ⟨4, 0, 0, ⟨#[]⟩⟩, .int .i64 0, .int .i64 x]) (by simp [results, Tryd.results13, go_sem, At.cell, g0, g1, g2, g3]) rfl ?_
              rw [HE.out]
              exact ⟨_, _, rfl, four_below HB5.out (Nat.le_refl _) _ _ _ _⟩
            · have hml : m.length + 1 ≤ s.size := by have h := textR_len _ _ _ hc; rw [List.length_drop, HLL.out] at h; omega
              rw [hc] at C HE
              clear hc
              go_wp2_with fail
              refine C.out.mono ?_
              rintro e w5 ⟨rfl, hb5⟩
              obtain ⟨⟨g0, f0⟩, ⟨g1, f1⟩, ⟨g2, f2⟩, ⟨g3, f3⟩⟩ := (abox_below HA0.out HLT.out hb5).cells
              have HB5 : Hid (Below w.heap.size w w5) := Lib.hid (HBW.out.trans (hb5.mono (Nat.le_of_lt HLT.out)))
              clear hb5
              go_wp2
              refine bodyPost_ret (v := .tuple #[At.cell ⟨4, 0, 0, ⟨q.toArray⟩⟩, .int .i64 ((s.size : Int) - (m.length : Int)), .int .i64 0]) (by simp [results, Tryd.results13, go_sem, At.cell, g0, g1, g2, g3]) rfl ?_
              rw [HE.out]
              refine ⟨?_, four_below HB5.out (Nat.le_refl _) _ _ _ _⟩
              rfl
        · skip
          have C3 := HBG [48, 102]
          rw [k3] at C3
          (with_reducible refine (C3.out _).mono ?_); rintro e w1 ⟨rfl, rfl⟩
          clear C3
          obtain ⟨⟨g0, f0⟩, ⟨g1, f1⟩, ⟨g2, f2⟩, ⟨g3, f3⟩⟩ := HA0.out.cells
          have HE : Hid (atomR l = (floatR (l.drop 2)).map fun p => (⟨3, 0, p.1, ⟨#[]⟩⟩, p.2)) := Lib.hid (by unfold atomR; rw [if_neg (by rw [k0]; decide)]; rw [if_neg (by rw [k2]; decide)]; rw [if_neg (by rw [k1]; decide)]; rw [if_pos k3]; rw [pre_drop k3]; rfl)
          by_cases h18 : s.size < 18
          · have h18i : (s.size : Int) < 18 := by omega
            replace HE : Hid (atomR l = .error 11) := Lib.hid (by
              rw [HE.out]
              have h2 : (parB ((l.drop 2).take 16)).2 = 11 := parB_few (by rw [List.length_take, List.length_drop, HLL.out]; omega)
              unfold floatR
              rw [h2]
              rfl)
            go_wp2
            refine bodyPost_ret (v := .tuple #[At.cell ⟨0, 0, 0, ⟨#[]⟩⟩, .int .i64 0, .int .i64 11]) (by simp [results, Tryd.results13, go_sem, At.cell, g0, g1, g2, g3]) rfl ?_
            rw [HE.out]
            exact ⟨_, _, rfl, four_below HBW.out (Nat.le_refl _) _ _ _ _⟩
          · have h18i : ¬ (s.size : Int) < 18 := by omega
            have P := HPA 2 18
            rw [HX2.out (by omega)] at P
            have hfl : floatR (l.drop 2) = if (parB ((l.drop 2).take 16)).2 = 0 then .ok ((parB ((l.drop 2).take 16)).1, (l.drop 2).drop 16) else .error (parB ((l.drop 2).take 16)).2 := rfl
            have hpe := parB_err ((l.drop 2).take 16)
            rw [hfl] at HE
            obtain ⟨f, hf⟩ : ∃ f, f = (parB ((l.drop 2).take 16)).1 := ⟨_, rfl⟩
            obtain ⟨x, hx⟩ : ∃ x, x = (parB ((l.drop 2).take 16)).2 := ⟨_, rfl⟩
            rw [← hf, ← hx] at P HE
            rw [← hx] at hpe
            have hfb := run_frombits f W
            clear hf hx hfl
            have HM : Hid (((s.size : Int) - (((l.drop 2).drop 16).length : Int)) = 18) := Lib.hid (by rw [List.length_drop, List.length_drop, HLL.out]; omega)
            have hxe : x = 0 ∨ x ≠ 0 := Classical.em _
            rcases hpe with rfl | rfl
            · rw [if_pos rfl] at HE
              clear hxe h18
              go_wp2_with fail
              (with_reducible refine (P.out _).mono ?_); rintro e w5 ⟨rfl, rfl⟩
              go_wp2
              refine bodyPost_ret (v := .tuple #[At.cell ⟨3, 0, f, ⟨#[]⟩⟩, .int .i64 18, .int .i64 0]) (by simp [results, Tryd.results13, go_sem, At.cell, g0, g1, g2, g3]) rfl ?_
              rw [HE.out]
              refine ⟨?_, four_below HBW.out (Nat.le_refl _) _ _ _ _⟩
              rw [HM.out]
            · rw [if_neg (by decide)] at HE
              clear hxe h18
              go_wp2_with fail
              (with_reducible refine (P.out _).mono ?_); rintro e w5 ⟨rfl, rfl⟩
              go_wp2
              refine bodyPost_ret (v := .tuple #[At.cell ⟨3, 0, f, ⟨#[]⟩⟩, .int .i64 18, .int .i64 11]) (by simp [results, Tryd.results13, go_sem, At.cell, g0, g1, g2, g3]) rfl ?_
              rw [HE.out]
              exact ⟨_, _, rfl, four_below HBW.out (Nat.le_refl _) _ _ _ _⟩
      · skip
        have C2 := HBG [102, 97, 108, 115, 101]
        rw [k2] at C2
        (with_reducible refine (C2.out _).mono ?_); rintro e w1 ⟨rfl, rfl⟩
        clear C2
        have HE : Hid (atomR l = .ok (⟨1, 0, 0, ⟨#[]⟩⟩, Lib.trimPrefix l [102, 97, 108, 115, 101])) := Lib.hid (by unfold atomR; rw [if_neg (by rw [k0]; decide)]; rw [if_pos k2])
        have HM : Hid (((s.size : Int) - ((Lib.trimPrefix l [102, 97, 108, 115, 101]).length : Int)) = 5) := Lib.hid (by have h := pre_len k2; rw [HLL.out] at h; simp at h; omega)
        obtain ⟨⟨g0, f0⟩, ⟨g1, f1⟩, ⟨g2, f2⟩, ⟨g3, f3⟩⟩ := HA0.out.cells
        go_wp2
        refine bodyPost_ret (v := .tuple #[At.cell ⟨1, 0, 0, ⟨#[]⟩⟩, .int .i64 5, .int .i64 0]) (by simp [results, Tryd.results13, go_sem, At.cell, g0, g1, g2, g3]) rfl ?_
        rw [HE.out]
        refine ⟨?_, four_below HBW.out (Nat.le_refl _) _ _ _ _⟩
        rw [HM.out]
    · skip
      have C1 := HBG [116, 114, 117, 101]
      rw [k1] at C1
      (with_reducible refine (C1.out _).mono ?_); rintro e w1 ⟨rfl, rfl⟩
      clear C1
      have kx : Lib.hasPrefix l [102, 97, 108, 115, 101] = false := by rw [pre_split k1]; rfl
      have HE : Hid (atomR l = .ok (⟨1, 1, 0, ⟨#[]⟩⟩, Lib.trimPrefix l [116, 114, 117, 101])) := Lib.hid (by unfold atomR; rw [if_neg (by rw [k0]; decide)]; rw [if_neg (by rw [kx]; decide)]; rw [if_pos k1])
      have HM : Hid (((s.size : Int) - ((Lib.trimPrefix l [116, 114, 117, 101]).length : Int)) = 4) := Lib.hid (by have h := pre_len k1; rw [HLL.out] at h; simp at h; omega)
      obtain ⟨⟨g0, f0⟩, ⟨g1, f1⟩, ⟨g2, f2⟩, ⟨g3, f3⟩⟩ := HA0.out.cells
      go_wp2
      refine bodyPost_ret (v := .tuple #[At.cell ⟨1, 1, 0, ⟨#[]⟩⟩, .int .i64 4, .int .i64 0]) (by simp [results, Tryd.results13, go_sem, At.cell, g0, g1, g2, g3]) rfl ?_
      rw [HE.out]
      refine ⟨?_, four_below HBW.out (Nat.le_refl _) _ _ _ _⟩
      rw [HM.out]
  · skip
    have C0 := HBG [110, 117, 108, 108]
    rw [k0] at C0
    (with_reducible refine (C0.out _).mono ?_); rintro e w1 ⟨rfl, rfl⟩
    clear C0
    have HE : Hid (atomR l = .ok (⟨0, 0, 0, ⟨#[]⟩⟩, Lib.trimPrefix l [110, 117, 108, 108])) := Lib.hid (by unfold atomR; rw [if_pos k0])
    have HM : Hid (((s.size : Int) - ((Lib.trimPrefix l [110, 117, 108, 108]).length : Int)) = 4) := Lib.hid (by have h := pre_len k0; rw [HLL.out] at h; simp at h; omega)
    obtain ⟨⟨g0, f0⟩, ⟨g1, f1⟩, ⟨g2, f2⟩, ⟨g3, f3⟩⟩ := HA0.out.cells
    go_wp2
    refine bodyPost_ret (v := .tuple #[At.cell ⟨0, 0, 0, ⟨#[]⟩⟩, .int .i64 4, .int .i64 0]) (by simp [results, Tryd.results13, go_sem, At.cell, g0, g1, g2, g3]) rfl ?_
    rw [HE.out]
    refine ⟨?_, four_below HBW.out (Nat.le_refl _) _ _ _ _⟩
    rw [HM.out]

end Go.Proofs.YtckmajcophpddaaDoor
