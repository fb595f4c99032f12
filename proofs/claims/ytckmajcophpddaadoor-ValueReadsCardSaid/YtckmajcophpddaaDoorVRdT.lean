/-
  Read's reader: text.
-/
import Derived.Test.YtckmajcophpddaaDoorVRdC
import Derived.LoopTactic
import Derived.Outline
set_option linter.unusedVariables false
set_option linter.unusedSimpArgs false
set_option maxRecDepth 100000
namespace Go.Proofs.YtckmajcophpddaaDoor
open Go.RowKit

/-- What stands between the marks, and the latter mark: at most k bytes more. -/
def textR : Nat → List UInt8 → List UInt8 → Except Int (List UInt8 × List UInt8)
  | 0, acc, l => if Lib.hasPrefix l [34] then .ok (acc, Lib.trimPrefix l [34]) else match charR l with
    | .error x => .error x
    | .ok _ => .error 3
  | k + 1, acc, l => if Lib.hasPrefix l [34] then .ok (acc, Lib.trimPrefix l [34]) else match charR l with
    | .error x => .error x
    | .ok (c, m) => textR k (acc ++ [c]) m
theorem textR_end (k : Nat) (acc l : List UInt8) (h : Lib.hasPrefix l [34] = true) : textR k acc l = .ok (acc, Lib.trimPrefix l [34]) := by
  cases k <;> (unfold textR; rw [h]; rfl)
theorem textR_bad (k : Nat) (acc l : List UInt8) (h : Lib.hasPrefix l [34] = false) {x : Int} (hc : charR l = .error x) : textR k acc l = .error x := by
  cases k <;> (unfold textR; rw [h, hc]; rfl)
theorem textR_big (acc l : List UInt8) (h : Lib.hasPrefix l [34] = false) {p : UInt8 × List UInt8} (hc : charR l = .ok p) : textR 0 acc l = .error 3 := by
  unfold textR; rw [h, hc]; rfl
theorem textR_next (k : Nat) (acc l : List UInt8) (h : Lib.hasPrefix l [34] = false) {c : UInt8} {m : List UInt8} (hc : charR l = .ok (c, m)) : textR (k + 1) acc l = textR k (acc ++ [c]) m := by
  rw [textR, h, hc]; rfl
theorem codeR_len {l m : List UInt8} {c : UInt8} (h : codeR l = .ok (c, m)) : m.length ≤ l.length := by
  rcases l with _ | ⟨x, _ | ⟨y, k⟩⟩
  · cases h
  · cases h
  · rw [codeR_two] at h
    split at h
    · cases h; simp; omega
    · cases h
theorem charR_len {l m : List UInt8} {c : UInt8} (h : charR l = .ok (c, m)) : m.length ≤ l.length := by
  unfold charR at h
  split at h
  · exact Nat.le_trans (codeR_len h) (Lib.trimPrefix_le _ _)
  · have hl := Lib.trimPrefix_le l [92]
    rcases hm : Lib.trimPrefix l [92] with _ | ⟨d, k⟩
    · rw [hm] at h; cases h
    · rw [hm, plainR_cons] at h
      split at h
      · cases h
      · cases h; rw [hm] at hl; simp at hl; omega

/-- A slice's length. -/
def lenV : Value → Nat | .slice _ n _ => n | _ => 0
theorem ownBlock_ge {w : World} {B : Nat} {v : Value} {l : List UInt8} (h : Own w B v l) {b : Nat} (hb : b < B) : v.ownBlock ≠ some b := fun e => by
  have := (World.ownsRow.lt h b e).1
  omega
theorem grown_below {a w w' : World} {b : Nat} (h : a.grownBy w (some b)) (hb : Below a.heap.size w w') : a.grownBy w' (some b) :=
  ⟨hb.os.trans h.os, hb.tape.trans h.tape, hb.output.trans h.output, Nat.le_trans h.size hb.size, fun i hi hne => (hb.block i hi).trans (h.block i hi hne)⟩

set_option maxHeartbeats 2000000 in
theorem text_any {w : World} {b : Nat} {l : List UInt8} (h : Rd w b l) (hl : l.length ≤ 9223372036854775807) :
    Calls Tryd.prog 39 #[.pointer (some ⟨b, 0, none⟩)] w fun e w' => RPost w b e w' ((textR 256 [] l).map fun p => (.string ⟨p.1.toArray⟩, p.2)) := by
  have HR0 := Lib.hid h
  have HLT := Lib.hid h.lt
  have HH := Lib.hid hl
  clear h hl
  go_enter Tryd.func39, Tryd.ntmps39
  go_wp2_with fail
  go_loopw [3] (fun v wr => ∃ (acc m : List UInt8) (k : Nat), Own wr w.heap.size v acc ∧ Rd wr b m ∧ acc.length + k = 256 ∧ m.length ≤ l.length ∧ textR 256 [] l = textR k acc m ∧ w.grownBy wr (some b)) (fun v _ => 256 - lenV v)
  case atStart => exact ⟨[], l, 256, Own.nil _ _, HR0.out, rfl, Nat.le_refl _, rfl, ⟨rfl, rfl, rfl, Nat.le_refl _, fun _ _ _ => rfl⟩⟩
  case round =>
    obtain ⟨acc, m, k, ho, hr, hk, hm, hte, hg⟩ := hrel
    have T := Lib.hid (take_any hr ⟨#[34]⟩)
    have hE : (⟨#[34]⟩ : ByteArray).data.toList = [34] := rfl
    rw [hE] at T
    clear hE
    have hne := ownBlock_ge ho HLT.out
    obtain ⟨n, hn⟩ : ∃ n, n = acc.length := ⟨_, rfl⟩
    obtain ⟨p, c, rfl, hnc, hcm, hbs, hp0⟩ := ho.form hn
    have HO := Lib.hid ho
    have HNE := Lib.hid hne
    have HG := Lib.hid hg
    have HTE := Lib.hid hte
    have HN := Lib.hid hn
    have HK := Lib.hid hk
    have HM := Lib.hid hm
    clear ho hr hk hm hte hg hn hbs hp0 hnc hne
    cases hp : Lib.hasPrefix m [34]
    · have ht : Lib.trimPrefix m [34] = m := by unfold Lib.trimPrefix; rw [hp]; rfl
      rw [hp, ht] at T
      have C := fun w1 (hr : Rd w1 b m) => Lib.hid (char_any hr (Nat.le_trans HM.out HH.out))
      rcases hc : charR m with x | ⟨d, m2⟩
      · have HE : Hid (textR 256 [] l = .error x) := Lib.hid (by rw [HTE.out]; exact textR_bad _ _ _ hp hc)
        rw [hc] at C
        clear hp ht hc
        go_wp2_with fail
        refine T.out.mono ?_
        rintro e w1 ⟨rfl, hr1, hg1⟩
        have HR1 := Lib.hid hr1
        have HG1 := Lib.hid (grown_trans HG.out hg1)
        clear hr1 hg1
        go_wp2_with fail
        refine (C _ HR1.out).out.mono ?_
        rintro e w2 ⟨rfl, hg2⟩
        have HG2 := Lib.hid (grown_trans HG1.out hg2)
        clear hg2
        go_wp2
        refine ⟨rfl, ?_⟩
        rw [HE.out]
        exact ⟨rfl, HG2.out⟩
      · have hml := charR_len hc
        have HM2 : Hid (m2.length ≤ l.length) := Lib.hid (by have := HM.out; omega)
        rcases k with _ | k
        · have HE : Hid (textR 256 [] l = .error 3) := Lib.hid (by rw [HTE.out]; exact textR_big _ _ hp hc)
          have h256 : n = 256 := by have := HK.out; have := HN.out; omega
          rw [hc] at C
          subst h256
          clear hp ht hc hml
          go_wp2_with fail
          refine T.out.mono ?_
          rintro e w1 ⟨rfl, hr1, hg1⟩
          have HR1 := Lib.hid hr1
          have HG1 := Lib.hid (grown_trans HG.out hg1)
          clear hr1 hg1
          go_wp2_with fail
          refine (C _ HR1.out).out.mono ?_
          rintro e w2 ⟨rfl, _, hg2⟩
          have HG2 := Lib.hid (grown_trans HG1.out hg2)
          clear hg2
          go_wp2
          refine ⟨rfl, ?_⟩
          rw [HE.out]
          exact ⟨rfl, HG2.out⟩
        · have HE : Hid (textR 256 [] l = textR k (acc ++ [d]) m2) := Lib.hid (by rw [HTE.out]; exact textR_next _ _ _ hp hc)
          have h256 : ((n : Int) == 256) = false := by rw [beq_eq_false_iff_ne]; have := HK.out; have := HN.out; omega
          have hn256 : ¬ (n : Int) = 256 := by have := HK.out; have := HN.out; omega
          rw [hc] at C
          clear hp ht hc hml
          go_wp2_with fail
          refine T.out.mono ?_
          rintro e w1 ⟨rfl, hr1, hg1⟩
          have HO1 : Hid (Own w1 w.heap.size (.slice p n c) acc) := Lib.hid (World.ownsRow.kept HO.out hg1 (.inr HNE.out))
          have HR1 := Lib.hid hr1
          have HG1 := Lib.hid (grown_trans HG.out hg1)
          clear hr1 hg1
          go_wp2_with fail
          refine (C _ HR1.out).out.mono ?_
          rintro e w2 ⟨rfl, hr2, hg2⟩
          have HO2 : Hid (Own w2 w.heap.size (.slice p n c) acc) := Lib.hid (World.ownsRow.kept HO1.out hg2 (.inr HNE.out))
          have HR2 : Hid (Rd w2 b m2) := Lib.hid hr2
          have HG2 := Lib.hid (grown_trans HG1.out hg2)
          clear hr2 hg2
          go_wp2_with (at_builtin; refine app_own rfl (.tmp 14) (.tmp 16) rfl rfl (HO2.out.alloc _) (m := [d]) rfl rfl (Bs.one _ _ _ rfl rfl) (fun h => by cases h) (by have := HK.out; simp; omega) (by have := HG2.out.size; simp; omega) ?_; intro v1 w3 ho3 hb3; have HO3 := Lib.hid ho3; have HB3 := Lib.hid hb3; clear ho3 hb3)
          have HG3 : Hid (w.grownBy w3 (some b)) := Lib.hid (grown_below HG2.out (((Below.refl _ w2).alloc HG2.out.size _).trans HB3.out))
          have HR3 : Hid (Rd w3 b m2) := Lib.hid (HR2.out.below (((Below.refl _ w2).alloc HG2.out.size _).trans HB3.out) HLT.out)
          obtain ⟨n2, hn2⟩ : ∃ n, n = (acc ++ [d]).length := ⟨_, rfl⟩
          obtain ⟨p2, c2, rfl, _, _, _, _⟩ := HO3.out.form hn2
          have HN2 := Lib.hid hn2
          clear hn2
          go_roundw
          case rel => exact ⟨acc ++ [d], m2, k, HO3.out, HR3.out, by have := HK.out; simp; omega, HM2.out, HE.out, HG3.out⟩
          case measure => have := HK.out; have := HN.out; have := HN2.out; simp [lenV] at *; omega
    · have HE : Hid (textR 256 [] l = .ok (acc, Lib.trimPrefix m [34])) := Lib.hid (by rw [HTE.out]; exact textR_end _ _ _ hp)
      rw [hp] at T
      clear hp
      go_wp2_with fail
      refine T.out.mono ?_
      rintro e w1 ⟨rfl, hr1, hg1⟩
      have HO1 : Hid (Own w1 w.heap.size (.slice p n c) acc) := Lib.hid (World.ownsRow.kept HO.out hg1 (.inr HNE.out))
      have HR1 := Lib.hid hr1
      have HG1 := Lib.hid (grown_trans HG.out hg1)
      clear hr1 hg1
      have hstr := str_of (c := c) (show Bs w1 p acc by obtain ⟨p3, c3, e3, _, _, h3, _⟩ := HO1.out.form HN.out; cases e3; exact h3) HN.out
      go_wp2
      go_ret
      rw [HE.out]
      exact ⟨rfl, HR1.out, HG1.out⟩

end Go.Proofs.YtckmajcophpddaaDoor
