/-
  Read's reader: whole.
-/
import Derived.Test.YtckmajcophpddaaDoorVRdF
import Derived.Shelf.Strings.SlTrimAscii
import Derived.Lib.AtoiErrMem
set_option linter.unusedVariables false
set_option linter.unusedSimpArgs false
set_option maxRecDepth 100000
namespace Go.Proofs.YtckmajcophpddaaDoor
open Go.RowKit

/-- What Read asks of the world: Print's two tables, and the two errors of strconv. -/
structure RW (w : World) : Prop where
  pw : PW w
  es : ∃ t p, w.cell? ⟨4, 0, none⟩ = some (.iface t p)
  er : ∃ t p, w.cell? ⟨5, 0, none⟩ = some (.iface t p)
  lt : 5 < w.heap.size
theorem RW.below {w w' : World} (h : RW w) (hb : Below w.heap.size w w') : RW w' := by
  have hl := h.lt
  obtain ⟨t, p, h4⟩ := h.es
  obtain ⟨u, q, h5⟩ := h.er
  exact ⟨h.pw.below hb, ⟨t, p, (hb.cell (p := ⟨4, 0, none⟩) (by show 4 < _; omega)).trans h4⟩, ⟨u, q, (hb.cell (p := ⟨5, 0, none⟩) (by show 5 < _; omega)).trans h5⟩, Nat.lt_of_lt_of_le hl hb.size⟩
theorem RW.grown {w w' : World} (h : RW w) {b : Nat} (hg : w.grownBy w' (some b)) (hb : 5 < b) : RW w' := by
  have hl := h.lt
  obtain ⟨t, p, h4⟩ := h.es
  obtain ⟨u, q, h5⟩ := h.er
  have n4 : some 4 ≠ some b := fun e => by cases e; omega
  have n5 : some 5 ≠ some b := fun e => by cases e; omega
  exact ⟨h.pw.grown hg (by omega) (by omega), ⟨t, p, hg.cell h4 n4⟩, ⟨u, q, hg.cell h5 n5⟩, Nat.lt_of_lt_of_le hl hg.size⟩

def digs : List UInt8 := [48, 49, 50, 51, 52, 53, 54, 55, 56, 57]
/-- How many bytes a number has. -/
def wholeN (l : List UInt8) : Nat := l.length - (Lib.trimLeftS (Lib.trimPrefix l [45]) digs).length
def wholeR (l : List UInt8) : Except Int (Int × List UInt8) :=
  match Lib.atoiAll (l.take (wholeN l)) with
  | .ok v => if Lib.itoa v = l.take (wholeN l) then .ok (v, l.drop (wholeN l)) else .error 11
  | _ => .error 11
theorem trimLeftS_len (l cs : List UInt8) : (Lib.trimLeftS l cs).length ≤ l.length := (List.dropWhile_suffix _).length_le
theorem whole_len (l : List UInt8) : (Lib.trimLeftS (Lib.trimPrefix l [45]) digs).length ≤ l.length := Nat.le_trans (trimLeftS_len _ _) (Lib.trimPrefix_le _ _)
theorem atoiAll_fits {l : List UInt8} {v : Int} (h : Lib.atoiAll l = .ok v) : -9223372036854775808 ≤ v ∧ v ≤ 9223372036854775807 := by
  unfold Lib.atoiAll at h
  split at h
  · cases h
  · simp only at h
    split at h
    · cases h
    · cases h
    · rename_i u _
      split at h
      · cases h
      · split at h
        · cases h
        · cases h
          split <;> omega
theorem wholeR_ok {l : List UInt8} {v : Int} (h : Lib.atoiAll (l.take (wholeN l)) = .ok v) : wholeR l = if Lib.itoa v = l.take (wholeN l) then .ok (v, l.drop (wholeN l)) else .error 11 := by
  unfold wholeR; rw [h]
theorem wholeR_form {l : List UInt8} (h : Lib.atoiAll (l.take (wholeN l)) = Lib.atoiAll []) : wholeR l = .error 11 := by
  unfold wholeR; rw [h]; rfl
theorem wholeR_range {l : List UInt8} (h : Lib.atoiAll (l.take (wholeN l)) = .range) : wholeR l = .error 11 := by
  unfold wholeR; rw [h]
theorem grown_of_below {a w : World} {b : Nat} (hb : Below a.heap.size a w) : a.grownBy w (some b) := ⟨hb.os, hb.tape, hb.output, hb.size, fun i hi _ => hb.block i hi⟩

set_option maxHeartbeats 2000000 in
theorem whole_any {w : World} (hW : RW w) {b : Nat} (hb5 : 5 < b) {l : List UInt8} (h : Rd w b l) (hl : l.length ≤ 281474976710656) :
    Calls Tryd.prog 40 #[.pointer (some ⟨b, 0, none⟩)] w fun e w' => RPost w b e w' ((wholeR l).map fun p => (.int .i64 p.1, p.2)) := by
  have hlt := h.lt
  have c0 := h.cell
  have H := Lib.hid h
  clear h
  have T1 := Lib.hid (Tryd.strings_TrimPrefix ⟨l.toArray⟩ ⟨#[45]⟩ w)
  have hE : (⟨#[45]⟩ : ByteArray).data.toList = [45] := rfl
  rw [hE, show (⟨l.toArray⟩ : ByteArray).data.toList = l from rfl] at T1
  have hw1 := whole_len l
  obtain ⟨d, hd⟩ : ∃ d, d = Lib.trimPrefix l [45] := ⟨_, rfl⟩
  rw [← hd] at T1 hw1
  have T2 := Lib.hid (Any.strings_TrimLeft_laid Tryd.lays161 (by kernel_rfl) ⟨d.toArray⟩ ⟨#[48, 49, 50, 51, 52, 53, 54, 55, 56, 57]⟩ w (by decide) (Go.Proofs.ascii_of_all (by decide)))
  rw [show (⟨#[48, 49, 50, 51, 52, 53, 54, 55, 56, 57]⟩ : ByteArray).data.toList = digs from rfl, show (⟨d.toArray⟩ : ByteArray).data.toList = d from rfl] at T2
  obtain ⟨k, hk⟩ : ∃ k, k = Lib.trimLeftS d digs := ⟨_, rfl⟩
  rw [← hk] at T2 hw1
  have hn : wholeN l = l.length - k.length := by unfold wholeN; rw [← hd, ← hk]
  obtain ⟨s, hs⟩ : ∃ s, s = (⟨l.toArray⟩ : ByteArray) := ⟨_, rfl⟩
  obtain ⟨u, hu⟩ : ∃ u, u = (⟨k.toArray⟩ : ByteArray) := ⟨_, rfl⟩
  have hsz : s.size = l.length := by rw [hs, ba_size]
  have huz : u.size = k.length := by rw [hu, ba_size]
  rw [← hs] at T1 c0
  rw [← hu] at T2
  have HS := Lib.hid hs
  obtain ⟨n, hnn⟩ : ∃ n, n = wholeN l := ⟨_, rfl⟩
  have hcast : wrap64 ((l.length : Int) - (k.length : Int)) = (n : Int) := by
    rw [hnn, hn]
    unfold wrap64
    omega
  have HN := Lib.hid hnn
  have HW := Lib.hid hW
  have HL := Lib.hid hl
  have HLT := Lib.hid hlt
  clear hs hu hk hd hn hE hW hl hlt hnn hw1
  go_enter Tryd.func40, Tryd.ntmps40
  go_wp2_with fail
  refine T1.out.mono ?_
  rintro e w1 ⟨rfl, rfl⟩
  go_wp2_with fail
  refine T2.out.mono ?_
  rintro e w2 ⟨rfl, hb2⟩
  have HB2 := Lib.hid hb2
  have HR2 : Hid (Rd w2 b l) := Lib.hid (H.out.below hb2 HLT.out)
  have d0 : w2.cell? ⟨b, 0, none⟩ = some (.string s) := by rw [HR2.out.cell, HS.out]
  clear hb2
  go_wp2_with fail
  have T3 := Lib.hid (cut_any HR2.out n (by have := HL.out; omega))
  obtain ⟨t, ht⟩ : ∃ t, t = (⟨(l.take n).toArray⟩ : ByteArray) := ⟨_, rfl⟩
  rw [← ht] at T3
  refine T3.out.mono ?_
  rintro e w3 ⟨rfl, hr3, hg3⟩
  have HR3 := Lib.hid hr3
  have HG3 : Hid (w1.grownBy w3 (some b)) := Lib.hid (grown_trans (grown_of_below HB2.out) hg3)
  have HW3 := Lib.hid ((HW.out.below HB2.out).grown hg3 hb5)
  have HLT3 : Hid (b < w3.heap.size) := Lib.hid (Nat.lt_of_lt_of_le HLT.out (Nat.le_trans HB2.out.size hg3.size))
  clear hr3 hg3 d0 c0 hcast T3
  have htl : t.data.toList = l.take n := by rw [ht]
  have htz : t.size ≤ 281474976710656 := by
    have e : t.size = (l.take n).length := by rw [ht, ba_size]
    have := HL.out
    rw [List.length_take] at e
    omega
  have HT := Lib.hid ht
  clear ht
  rcases ha : Lib.atoiAll (l.take n) with v | _ | _
  · have hf := atoiAll_fits ha
    have A := Lib.hid (Tryd.strconv_Atoi_ok t (by omega) v (by rw [htl]; exact ha) w3)
    have HE := Lib.hid (wholeR_ok (l := l) (v := v) (by rw [← HN.out]; exact ha))
    rw [← HN.out] at HE
    obtain ⟨z, hz⟩ : ∃ z, z = (⟨(Lib.itoa v).toArray⟩ : ByteArray) := ⟨_, rfl⟩
    have I := fun w4 (h : PW w4) => Lib.hid (Tryd.strconv_Itoa v hf.1 hf.2 w4 h.pow)
    rw [← hz] at I
    clear ha hf htz
    go_wp2_with fail
    refine A.out.mono ?_
    rintro e w4 ⟨rfl, hw4⟩
    have HB4 : Hid (Below w3.heap.size w3 w4) := Lib.hid (by
      rcases hw4 with rfl | ⟨x, rfl⟩
      · exact Below.refl _ _
      · exact Lib.bytesWorld_below _ _ _)
    clear hw4
    go_wp2_with fail
    refine (I _ (HW3.out.below HB4.out).pw).out.mono ?_
    rintro e w5 ⟨rfl, kk, os, hw5⟩
    have HB5 : Hid (Below w3.heap.size w3 w5) := Lib.hid (by rw [hw5]; exact HB4.out.trans ((grow_below w4 kk os).mono HB4.out.size))
    clear hw5
    have HG5 : Hid (w1.grownBy w5 (some b)) := Lib.hid (grown_trans HG3.out ⟨HB5.out.os, HB5.out.tape, HB5.out.output, HB5.out.size, fun i hi _ => HB5.out.block i hi⟩)
    have HR5 : Hid (Rd w5 b (l.drop n)) := Lib.hid (HR3.out.below HB5.out HLT3.out)
    by_cases hi : Lib.itoa v = l.take n
    · rw [if_pos hi] at HE
      obtain rfl : z = t := by rw [hz, HT.out, hi]
      clear hi hz htl
      go_wp2
      go_ret
      rw [HE.out]
      exact ⟨rfl, HR5.out, HG5.out⟩
    · rw [if_neg hi] at HE
      have hne : ¬ z.toList = t.toList := by
        rw [ByteArray.toList_eq, ByteArray.toList_eq, htl, hz]
        exact hi
      have hnb : (!(z.toList == t.toList)) = true := by rw [beq_false_of_ne hne]; rfl
      clear hi hz htl hne
      go_wp2
      refine ⟨rfl, ?_⟩
      rw [HE.out]
      exact ⟨rfl, HG5.out⟩
  · have HE := Lib.hid (wholeR_form (l := l) (by rw [← HN.out]; exact ha))
    obtain ⟨tp, pp, h4⟩ := HW3.out.es
    have A := Lib.hid (Tryd.strconv_Atoi_syntax t htz (by rw [htl]; exact ha) _ w3 h4 (.inr ⟨_, _, rfl⟩))
    clear ha htz htl h4
    go_wp2_with fail
    refine A.out.mono ?_
    rintro e w4 ⟨N, rfl, _, _, hb4⟩
    have HG4 : Hid (w1.grownBy w4 (some b)) := Lib.hid (grown_trans HG3.out (grown_of_below hb4))
    clear hb4
    go_wp2
    refine ⟨rfl, ?_⟩
    rw [HE.out]
    exact ⟨rfl, HG4.out⟩
  · have HE := Lib.hid (wholeR_range (l := l) (by rw [← HN.out]; exact ha))
    obtain ⟨tp, pp, h5⟩ := HW3.out.er
    have A := Lib.hid (Tryd.strconv_Atoi_range t htz (by rw [htl]; exact ha) _ w3 h5 (.inr ⟨_, _, rfl⟩))
    clear ha htz htl h5
    go_wp2_with fail
    refine A.out.mono ?_
    rintro e w4 ⟨N, rfl, _, _, hb4⟩
    have HG4 : Hid (w1.grownBy w4 (some b)) := Lib.hid (grown_trans HG3.out (grown_of_below hb4))
    clear hb4
    go_wp2
    refine ⟨rfl, ?_⟩
    rw [HE.out]
    exact ⟨rfl, HG4.out⟩

end Go.Proofs.YtckmajcophpddaaDoor
