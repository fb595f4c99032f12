/-
  Read's reader: list.
-/
import Derived.Test.YtckmajcophpddaaDoorVRdA
import Derived.Test.YtckmajcophpddaaDoorVOwn
import Derived.LoopTactic
import Derived.Outline
set_option linter.unusedVariables false
set_option linter.unusedSimpArgs false
set_option maxRecDepth 100000
namespace Go.Proofs.YtckmajcophpddaaDoor
open Go.RowKit

/-- A list's atoms behind its begin: at most k more; and its end. -/
def listR : Nat → List At → List UInt8 → Except Int (List At × List UInt8)
  | 0, _, _ => .error 3
  | k + 1, acc, l => match atomR l with
    | .error x => .error x
    | .ok (a, m) =>
      if Lib.hasPrefix m [93] then .ok (acc ++ [a], Lib.trimPrefix m [93])
      else if Lib.hasPrefix m [44, 32] then listR k (acc ++ [a]) (Lib.trimPrefix m [44, 32]) else .error 11
def listsR (l : List UInt8) : Except Int (List At × List UInt8) :=
  if Lib.hasPrefix l [93] then .ok ([], Lib.trimPrefix l [93]) else listR 16 [] l
theorem listR_bad (k : Nat) (acc : List At) {l : List UInt8} {x : Int} (h : atomR l = .error x) : listR (k + 1) acc l = .error x := by rw [listR, h]
theorem listR_end (k : Nat) (acc : List At) {l m : List UInt8} {a : At} (h : atomR l = .ok (a, m)) (h1 : Lib.hasPrefix m [93] = true) : listR (k + 1) acc l = .ok (acc ++ [a], Lib.trimPrefix m [93]) := by
  rw [listR, h]; simp only; rw [if_pos h1]
theorem listR_next (k : Nat) (acc : List At) {l m : List UInt8} {a : At} (h : atomR l = .ok (a, m)) (h1 : Lib.hasPrefix m [93] = false) (h2 : Lib.hasPrefix m [44, 32] = true) : listR (k + 1) acc l = listR k (acc ++ [a]) (Lib.trimPrefix m [44, 32]) := by
  rw [listR, h]; simp only; rw [if_neg (by rw [h1]; decide), if_pos h2]
theorem listR_form (k : Nat) (acc : List At) {l m : List UInt8} {a : At} (h : atomR l = .ok (a, m)) (h1 : Lib.hasPrefix m [93] = false) (h2 : Lib.hasPrefix m [44, 32] = false) : listR (k + 1) acc l = .error 11 := by
  rw [listR, h]; simp only; rw [if_neg (by rw [h1]; decide), if_neg (by rw [h2]; decide)]
theorem floatR_len {l m : List UInt8} {f : Nat} (h : floatR l = .ok (f, m)) : m.length ≤ l.length := by
  unfold floatR at h
  split at h
  · cases h; rw [List.length_drop]; omega
  · cases h
theorem wholeR_len {l m : List UInt8} {v : Int} (h : wholeR l = .ok (v, m)) : m.length ≤ l.length := by
  unfold wholeR at h
  split at h
  · split at h
    · cases h; rw [List.length_drop]; omega
    · cases h
  · cases h
theorem textR_len : ∀ (k : Nat) (acc l : List UInt8) {s m : List UInt8}, textR k acc l = .ok (s, m) → m.length ≤ l.length
  | 0, acc, l, s, m, h => by
    cases hp : Lib.hasPrefix l [34]
    · rcases hc : charR l with x | p
      · rw [textR_bad _ _ _ hp hc] at h; cases h
      · rw [textR_big _ _ hp hc] at h; cases h
    · rw [textR_end _ _ _ hp] at h; cases h; exact Lib.trimPrefix_le _ _
  | k + 1, acc, l, s, m, h => by
    cases hp : Lib.hasPrefix l [34]
    · rcases hc : charR l with x | ⟨c, n⟩
      · rw [textR_bad _ _ _ hp hc] at h; cases h
      · rw [textR_next _ _ _ hp hc] at h
        exact Nat.le_trans (textR_len k _ _ h) (charR_len hc)
    · rw [textR_end _ _ _ hp] at h; cases h; exact Lib.trimPrefix_le _ _
theorem map_len {α β : Type} {x : Except Int (α × List UInt8)} {f : α × List UInt8 → β × List UInt8} (hf : ∀ p, (f p).2 = p.2) {n : Nat} (hx : ∀ a m, x = .ok (a, m) → m.length ≤ n) {a : β} {m : List UInt8} (h : x.map f = .ok (a, m)) : m.length ≤ n := by
  rcases x with e | ⟨b, k⟩
  · cases h
  · have h2 := hf (b, k)
    have h1 : f (b, k) = (a, m) := Except.ok.inj h
    rw [h1] at h2
    simp only at h2
    rw [h2]
    exact hx b k rfl
theorem atomR_len {l m : List UInt8} {a : At} (h : atomR l = .ok (a, m)) : m.length ≤ l.length := by
  have T : ∀ p, (Lib.trimPrefix l p).length ≤ l.length := fun p => Lib.trimPrefix_le _ _
  unfold atomR at h
  split at h
  · cases h; exact T _
  split at h
  · cases h; exact T _
  split at h
  · cases h; exact T _
  split at h
  · refine map_len ?_ ?_ h
    · intro p; rfl
    · intro b k hk; exact Nat.le_trans (floatR_len hk) (T _)
  split at h
  · refine map_len ?_ ?_ h
    · intro p; rfl
    · intro b k hk; exact Nat.le_trans (textR_len _ _ _ hk) (T _)
  split at h
  · refine map_len ?_ ?_ h
    · intro p; rfl
    · intro b k hk; exact Nat.le_trans (textR_len _ _ _ hk) (T _)
  · refine map_len ?_ ?_ h
    · intro p; rfl
    · intro b k hk; exact wholeR_len hk

theorem as_one {w : World} {k n : Int} {f : Nat} {s : ByteArray} {g : Nat} (hg : g = w.heap.size) (t : TypeId) : As (w.alloc (.cells #[.int .i64 k, .int .i64 n, .float .f64 f, .string s] t)) (some ⟨g, 0, none⟩) [⟨k, n, f, s⟩] := by
  subst hg
  have hc := fun i => Joins.cell_of_block (heap_alloc_new w (.cells #[.int .i64 k, .int .i64 n, .float .f64 f, .string s] t)) i
  intro _
  refine ⟨w.heap.size, 0, rfl, fun i b hi => ?_⟩
  match i, hi with
  | 0, hi =>
    obtain rfl : (⟨k, n, f, s⟩ : At) = b := by simpa using hi
    exact ⟨hc 0, hc 1, hc 2, hc 3⟩

/-- What list leaves. -/
def LPost (w : World) (b : Nat) (e : Ending) (w' : World) : Except Int (List At × List UInt8) → Prop
  | .ok (ls, m) => (∃ v, e = .returned v ∧ AOwn w' w.heap.size v ls) ∧ Rd w' b m ∧ w.grownBy w' (some b)
  | .error x => e = .panicked [{ v := .iface 28 (.int .i64 x), recovered := false }] ∧ w.grownBy w' (some b)
theorem aown_ge {w : World} {B : Nat} {v : Value} {l : List At} (h : AOwn w B v l) {b : Nat} (hb : b < B) : v.ownBlock ≠ some b := fun e => by
  have := (World.ownsRow.lt h b e).1
  omega

set_option maxHeartbeats 4000000 in
theorem list_any {w : World} (hW : RW w) {b : Nat} (hb5 : 5 < b) {l : List UInt8} (h : Rd w b l) (hl : l.length ≤ 281474976710656) :
    Calls Tryd.prog 21 #[.pointer (some ⟨b, 0, none⟩)] w fun e w' => LPost w b e w' (listsR l) := by
  have HLT := Lib.hid h.lt
  have HL := Lib.hid hl
  have HW0 := Lib.hid hW
  cases hp : Lib.hasPrefix l [93]
  · have T := Lib.hid (take_no h ⟨#[93]⟩ hp)
    have HE : Hid (listsR l = listR 16 [] l) := Lib.hid (by unfold listsR; rw [if_neg (by rw [hp]; decide)])
    clear h hp hW hl
    go_enter Tryd.func21, Tryd.ntmps21
    go_wp2_with fail
    refine T.out.mono ?_
    rintro e w1 ⟨rfl, hr, hg⟩
    have HR1 := Lib.hid hr
    have HG1 := Lib.hid hg
    clear hr hg T
    go_wp2_with fail
    go_loopw [3] (fun v wr => ∃ (acc : List At) (m : List UInt8) (k : Nat), AOwn wr w.heap.size v acc ∧ Rd wr b m ∧ acc.length + k = 16 ∧ m.length ≤ l.length ∧ listsR l = listR k acc m ∧ w.grownBy wr (some b)) (fun v _ => 16 - lenV v)
    case atStart => exact ⟨[], l, 16, AOwn.nil _ _, HR1.out, rfl, Nat.le_refl _, HE.out, HG1.out⟩
    case round =>
      obtain ⟨acc, m, k, ho, hr, hk, hm, hte, hg⟩ := hrel
      have hne := aown_ge ho HLT.out
      obtain ⟨n, hn⟩ : ∃ n, n = acc.length := ⟨_, rfl⟩
      obtain ⟨p, c, rfl, hnc, hcm, hbs⟩ := ho.form hn
      have HO := Lib.hid ho
      have HNE := Lib.hid hne
      have HG := Lib.hid hg
      have HTE := Lib.hid hte
      have HN := Lib.hid hn
      have HK := Lib.hid hk
      have HM := Lib.hid hm
      have HR := Lib.hid hr
      have HWR := Lib.hid (HW0.out.grown hg hb5)
      clear ho hr hk hm hte hg hn hbs hnc hne
      rcases k with _ | k
      · have h16 : n = 16 := by have := HK.out; have := HN.out; omega
        subst h16
        have HE2 : Hid (listsR l = .error 3) := Lib.hid (by rw [HTE.out]; rfl)
        go_wp2
        refine ⟨rfl, ?_⟩
        rw [HE2.out]
        exact ⟨rfl, HG.out⟩
      · have h16 : ((n : Int) == 16) = false := by rw [beq_eq_false_iff_ne]; have := HK.out; have := HN.out; omega
        have hn16 : ¬ (n : Int) = 16 := by have := HK.out; have := HN.out; omega
        have C := Lib.hid (atom_any HWR.out hb5 HR.out (Nat.le_trans HM.out HL.out))
        rcases ha : atomR m with x | ⟨⟨k0, n0, f0, s0⟩, m2⟩
        · have HE2 : Hid (listsR l = .error x) := Lib.hid (by rw [HTE.out]; exact listR_bad _ _ ha)
          rw [ha] at C
          clear ha
          go_wp2_with fail
          refine C.out.mono ?_
          rintro e w2 ⟨rfl, hg2⟩
          have HG2 := Lib.hid (grown_trans HG.out hg2)
          clear hg2
          go_wp2
          refine ⟨rfl, ?_⟩
          rw [HE2.out]
          exact ⟨rfl, HG2.out⟩
        · have hml := atomR_len ha
          have HM2 : Hid (m2.length ≤ l.length) := Lib.hid (by have := HM.out; omega)
          have HA := Lib.hid ha
          rw [ha] at C
          have C2 : Hid (Calls Tryd.prog 22 #[.pointer (some ⟨b, 0, none⟩)] wr fun e w' => RPost wr b e w' (.ok (.agg #[.int .i64 k0, .int .i64 n0, .float .f64 f0, .string s0], m2))) := C
          clear ha hml
          go_wp2_with fail
          refine C2.out.mono ?_
          rintro e w2 ⟨rfl, hr2, hg2⟩
          have HO2 : Hid (AOwn w2 w.heap.size (.slice p n c) acc) := Lib.hid (World.ownsRow.kept HO.out hg2 (.inr HNE.out))
          have HR2 : Hid (Rd w2 b m2) := Lib.hid hr2
          have HG2 := Lib.hid (grown_trans HG.out hg2)
          clear hr2 hg2 C C2
          obtain ⟨n2, hn2⟩ : ∃ n, n = (acc ++ [(⟨k0, n0, f0, s0⟩ : At)]).length := ⟨_, rfl⟩
          go_wp2_with (at_builtin; refine app_atoms rfl (.tmp 10) (.tmp 13) rfl rfl (HO2.out.below ((Below.refl _ w2).alloc (Nat.le_refl _) _)) (m := [⟨k0, n0, f0, s0⟩]) rfl rfl (as_one rfl _) (fun h => by cases h) (by have := HK.out; simp; omega) (by have := HG2.out.size; simp; omega) ?_; intro v3 w3 ho3 hb3; obtain ⟨p3, c3, rfl, _, _, _⟩ := ho3.form hn2; have HO3 := Lib.hid ho3; have HB3 := Lib.hid hb3; have HN2 := Lib.hid hn2; clear ho3 hb3 hn2)
          have HG3 : Hid (w.grownBy w3 (some b)) := Lib.hid (grown_below HG2.out (((Below.refl _ w2).alloc HG2.out.size _).trans HB3.out))
          have HR3 : Hid (Rd w3 b m2) := Lib.hid (HR2.out.below (((Below.refl _ w2).alloc HG2.out.size _).trans HB3.out) HLT.out)
          have HNE3 := Lib.hid (aown_ge HO3.out HLT.out)
          cases k93 : Lib.hasPrefix m2 [93]
          · refine (take_no HR3.out ⟨#[93]⟩ k93).mono ?_
            rintro e w4 ⟨rfl, hr4, hg4⟩
            have HR4 := Lib.hid hr4
            have HG4 := Lib.hid (grown_trans HG3.out hg4)
            have HO4 : Hid (AOwn w4 w.heap.size (.slice p3 n2 c3) _) := Lib.hid (World.ownsRow.kept HO3.out hg4 (.inr HNE3.out))
            clear hr4 hg4
            go_wp2_with fail
            cases k44 : Lib.hasPrefix m2 [44, 32]
            · refine (take_no HR4.out ⟨#[44, 32]⟩ k44).mono ?_
              rintro e w5 ⟨rfl, hr5, hg5⟩
              have HG5 := Lib.hid (grown_trans HG4.out hg5)
              have HE2 : Hid (listsR l = .error 11) := Lib.hid (by rw [HTE.out]; exact listR_form _ _ HA.out k93 k44)
              clear hr5 hg5 k93 k44
              go_wp2
              refine ⟨rfl, ?_⟩
              rw [HE2.out]
              exact ⟨rfl, HG5.out⟩
            · refine (take_yes HR4.out ⟨#[44, 32]⟩ k44).mono ?_
              rintro e w5 ⟨rfl, hr5, hg5⟩
              have HG5 := Lib.hid (grown_trans HG4.out hg5)
              have HO5 : Hid (AOwn w5 w.heap.size (.slice p3 n2 c3) _) := Lib.hid (World.ownsRow.kept HO4.out hg5 (.inr HNE3.out))
              have HR5 : Hid (Rd w5 b (Lib.trimPrefix m2 [44, 32])) := Lib.hid hr5
              have HE2 := Lib.hid (HTE.out.trans (listR_next k acc HA.out k93 k44))
              have HM5 : Hid ((Lib.trimPrefix m2 [44, 32]).length ≤ l.length) := Lib.hid (Nat.le_trans (Lib.trimPrefix_le _ _) HM2.out)
              clear hr5 hg5 k93 k44
              go_wp2_with fail
              go_roundw
              case rel => exact ⟨acc ++ [⟨k0, n0, f0, s0⟩], _, k, HO5.out, HR5.out, by have := HK.out; simp; omega, HM5.out, HE2.out, HG5.out⟩
              case measure => have := HK.out; have := HN.out; have := HN2.out; simp [lenV] at *; omega
          · refine (take_yes HR3.out ⟨#[93]⟩ k93).mono ?_
            rintro e w4 ⟨rfl, hr4, hg4⟩
            have HR4 : Hid (Rd w4 b (Lib.trimPrefix m2 [93])) := Lib.hid hr4
            have HG4 := Lib.hid (grown_trans HG3.out hg4)
            have HO4 : Hid (AOwn w4 w.heap.size (.slice p3 n2 c3) _) := Lib.hid (World.ownsRow.kept HO3.out hg4 (.inr HNE3.out))
            have HE2 := Lib.hid (HTE.out.trans (listR_end k acc HA.out k93))
            clear hr4 hg4 k93
            go_wp2
            go_ret
            rw [HE2.out]
            exact ⟨⟨_, rfl, HO4.out⟩, HR4.out, HG4.out⟩
  · have HE : Hid (listsR l = .ok ([], Lib.trimPrefix l [93])) := Lib.hid (by unfold listsR; rw [if_pos hp])
    have T := Lib.hid (take_yes h ⟨#[93]⟩ hp)
    clear h hp hW hl
    go_enter Tryd.func21, Tryd.ntmps21
    go_wp2_with fail
    refine T.out.mono ?_
    rintro e w1 ⟨rfl, hr, hg⟩
    have HR1 := Lib.hid hr
    have HG1 := Lib.hid hg
    clear hr hg T
    go_wp2
    go_ret
    rw [HE.out]
    exact ⟨⟨_, rfl, AOwn.nil _ _⟩, HR1.out, HG1.out⟩

end Go.Proofs.YtckmajcophpddaaDoor
