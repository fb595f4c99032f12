/-
  Read's reader: float.
-/
import Derived.Test.YtckmajcophpddaaDoorVRdC
import Derived.Test.YtckmajcophpddaaDoorVPrA
import Derived.Test.YtckmajcophpddaaDoorFParse
set_option linter.unusedVariables false
set_option linter.unusedSimpArgs false
set_option maxRecDepth 100000
namespace Go.Proofs.YtckmajcophpddaaDoor
open Go.RowKit

/-- What is kept where one block alone turns. -/
theorem Tab.grown {w w' : World} (h : Tab w) {b : Nat} (hg : w.grownBy w' (some b)) (hb : 1 ≠ b) : Tab w' := by
  have hl := h.lt
  obtain ⟨t, fr, h⟩ := h
  exact ⟨t, fr, (hg.block 1 hl (fun e => hb (Option.some.inj e))).trans h⟩
theorem PW.grown {w w' : World} (h : PW w) {b : Nat} (hg : w.grownBy w' (some b)) (h1 : 1 ≠ b) (h3 : 3 ≠ b) : PW w' := by
  refine ⟨h.tab.grown hg h1, ?_, Nat.lt_of_lt_of_le h.lt hg.size⟩
  have h2 := h.pow
  unfold Lib.TabIs World.var? at h2 ⊢
  rw [gPow, Option.bind_some] at h2 ⊢
  rw [hg.block 3 h.lt (fun e => h3 (Option.some.inj e))]
  exact h2

def floatR (l : List UInt8) : Except Int (Nat × List UInt8) :=
  if (parB (l.take 16)).2 = 0 then .ok ((parB (l.take 16)).1, l.drop 16) else .error (parB (l.take 16)).2
theorem parB_err (l : List UInt8) : (parB l).2 = 0 ∨ (parB l).2 = 11 := by
  unfold parB
  split
  · exact .inl rfl
  · exact .inr rfl

set_option maxHeartbeats 1000000 in
theorem float_any {w : World} (hT : Tab w) {b : Nat} (h1 : 1 ≠ b) {l : List UInt8} (h : Rd w b l) (hl : l.length ≤ 9223372036854775807) :
    Calls Tryd.prog 38 #[.pointer (some ⟨b, 0, none⟩)] w fun e w' => RPost w b e w' ((floatR l).map fun p => (.float .f64 p.1, p.2)) := by
  have C := Lib.hid (cut_any h 16 hl)
  clear h
  obtain ⟨s, hs⟩ : ∃ s, s = (⟨(l.take 16).toArray⟩ : ByteArray) := ⟨_, rfl⟩
  have hsl : s.data.toList = l.take 16 := by rw [hs]
  rw [← hs] at C
  have P := fun w1 (hT : Tab w1) => Lib.hid (parse_any hT s)
  rw [hsl] at P
  have HT := Lib.hid hT
  clear hs hsl hT
  rcases parB_err (l.take 16) with he | he
  · have HE : Hid (floatR l = .ok ((parB (l.take 16)).1, l.drop 16)) := Lib.hid (by unfold floatR; rw [if_pos he])
    obtain ⟨f, hf⟩ : ∃ f, f = (parB (l.take 16)).1 := ⟨_, rfl⟩
    rw [he, ← hf] at P
    rw [← hf] at HE
    clear he hf
    go_enter Tryd.func38, Tryd.ntmps38
    go_wp2_with fail
    refine C.out.mono ?_
    rintro e w1 ⟨rfl, hr1, hg1⟩
    have HR1 := Lib.hid hr1
    have HG1 := Lib.hid hg1
    clear hr1 hg1
    go_wp2_with fail
    refine (P _ (HT.out.grown HG1.out h1)).out.mono ?_
    rintro e w2 ⟨rfl, rfl⟩
    go_wp2
    go_ret
    rw [HE.out]
    exact ⟨rfl, HR1.out, HG1.out⟩
  · have HE : Hid (floatR l = .error 11) := Lib.hid (by unfold floatR; rw [if_neg (by rw [he]; decide), he])
    obtain ⟨f, hf⟩ : ∃ f, f = (parB (l.take 16)).1 := ⟨_, rfl⟩
    rw [he, ← hf] at P
    clear he hf
    go_enter Tryd.func38, Tryd.ntmps38
    go_wp2_with fail
    refine C.out.mono ?_
    rintro e w1 ⟨rfl, hr1, hg1⟩
    have HR1 := Lib.hid hr1
    have HG1 := Lib.hid hg1
    clear hr1 hg1
    go_wp2_with fail
    refine (P _ (HT.out.grown HG1.out h1)).out.mono ?_
    rintro e w2 ⟨rfl, rfl⟩
    go_wp2
    refine ⟨rfl, ?_⟩
    rw [HE.out]
    exact ⟨rfl, HG1.out⟩

end Go.Proofs.YtckmajcophpddaaDoor
