/-
  sector.laid: a sector of its own. make and copy of bytes whose block is known whole.
-/
import Derived.Test.YtpmiakcngjihnaaDoorBytes
import Derived.Test.YtpmiakcngjihnaaDoorSSpec
import Derived.Laws.CopyOwn
import Derived.Deep.OwnRows
set_option linter.unusedVariables false
set_option maxRecDepth 100000
namespace Go.Proofs.YtpmiakcngjihnaaDoor
open Go.RowKit

/-- Block g is known whole: the bytes l. -/
def Sec (w : World) (g : Nat) (l : List UInt8) : Prop := w.heap[g]? = some (.cells (u8s l).toArray 5 (0, 0))

theorem Sec.lt {w : World} {g : Nat} {l : List UInt8} (h : Sec w g l) : g < w.heap.size := (Array.getElem?_eq_some_iff.1 h).1
theorem Sec.below {w w' : World} {g : Nat} {l : List UInt8} (h : Sec w g l) (hb : Below w.heap.size w w') : Sec w' g l := by
  unfold Sec
  rw [hb.block g h.lt]
  exact h
theorem Sec.bs {w : World} {g : Nat} {l : List UInt8} (h : Sec w g l) : Bs w (some ⟨g, 0, none⟩) l := Bs.of_block h rfl

theorem madeCells_u8 (n : Nat) : madeCells #[Value.int .u8 0] n = (u8s (zeros n)).toArray := by
  apply Array.ext
  · simp [madeCells, u8s, zeros]
  · intro i h1 h2
    simp [madeCells, u8s, zeros, Nat.mod_one]

/-- make([]byte, 512) -/
theorem make_u8 {w : World} {ops : Array Oper} {rest : List Oper} {o : Oper} {a : Act} {Q : Exit → Act → World → Prop} (hg : o.guard = none) (l c : Operand) (hop : o.op = Op.makeSlice 37 l c)
    (hl : a.eval l = .int .i64 512) (hc : a.eval c = .int .i64 512)
    (hK : ∀ w', Sec w' w.heap.size (zeros 512) → Below w.heap.size w w' → wpList Tryd.prog ops Q rest (a.put o.dst (.slice (some ⟨w.heap.size, 0, none⟩) 512 512)) w') :
    wpList Tryd.prog ops Q (o :: rest) a w := by
  obtain ⟨i, hi, hz0, hz1, hz2⟩ := info_parts info_u8
  refine wpList_make_row w hg l c _ hop 5 i (.int .u8 0) Tryd.underlying37 hi hz0 hz1 rfl .i64 .i64 512 hl hc (by rw [hz2]; decide) (by decide) ?_
  refine hK _ ?_ ((Below.refl _ _).alloc (Nat.le_refl _) _)
  rw [madeCells_u8]
  exact heap_alloc_new w _

theorem splice_u8 (l m : List UInt8) : splice (u8s l) 0 (u8s m) = u8s (over l m) := by
  simp [splice, u8s, over]

/-- copy(own, bytes): the bytes lie elsewhere. -/
theorem copy_u8 {w w0 : World} {ops : Array Oper} {rest : List Oper} {o : Oper} {a : Act} {Q : Exit → Act → World → Prop} (hgd : o.guard = none) (d s : Operand)
    (ho : o.op = .call { callee := .builtin .copy, args := #[d, s], argTypes := #[37, 37] })
    {g n c : Nat} {l : List UInt8} (hd : a.eval d = .slice (some ⟨g, 0, none⟩) n c) (hg : Sec w g l) (hn : n = l.length)
    {p : Option Addr} {k k' : Nat} {m : List UInt8} (hs : a.eval s = .slice p k k') (hm : Bs w p m) (hk : k = m.length) (hml : m.length ≤ l.length) {B : Nat} (hb : Below B w0 w) (hB : B ≤ g)
    (h : ∀ w', Sec w' g (over l m) → Below B w0 w' → wpList Tryd.prog ops Q rest (a.put o.dst (goInt m.length)) w') : wpList Tryd.prog ops Q (o :: rest) a w := by
  subst hn hk
  obtain ⟨i, hi, hz0, hz1, hz2⟩ := info_parts info_u8
  refine wpList_copy_splice hgd d s _ _ ho 5 Tryd.underlying37 (by rw [hi]; simp [hz1]) _ _ _ _ _ _ hd hs g 0 (u8s l) 5 hg (u8s m) (by rw [u8s_length]; show _ = min _ _; omega) ?_ (by rw [u8s_length, u8s_length]; omega) (u8s_oneCell m) B w0 hb hB ?_
  · intro h0
    rw [u8s_length] at h0
    obtain ⟨b, o, rfl, _, hc⟩ := hm.at h0
    refine ⟨rfl, _, rfl, fun j v hj => ?_⟩
    obtain ⟨u, hu, rfl⟩ := u8s_get hj
    rw [Addr.add_lit]
    obtain ⟨hj', rfl⟩ := List.getElem?_eq_some_iff.1 hu
    exact hc j hj'
  · intro w' h1 h2
    rw [u8s_length]
    refine h w' ?_ h2
    have h3 := h1.out
    rw [splice_u8] at h3
    exact h3

def LaidPost (w : World) (l : List UInt8) (e : Ending) (w' : World) : Prop :=
  ∃ g, e = .returned (.slice (some ⟨g, 0, none⟩) 512 512) ∧ w.heap.size ≤ g ∧ Sec w' g l ∧ Below w.heap.size w w'

set_option maxHeartbeats 800000 in
theorem laid_any {w : World} {p q : Option Addr} {l m : List UInt8} {n c k d : Nat} (hl : Bs w p l) (hn : n = l.length) (h1 : l.length ≤ 512) (hm : Bs w q m) (hk : k = m.length) (h2 : m.length ≤ 512) :
    Calls Tryd.prog 59 #[.slice p n c, .slice q k d] w (LaidPost w (over (pad l) m)) := by
  have HL := Lib.hid hl
  have HM := Lib.hid hm
  have HN := Lib.hid hn
  have HK := Lib.hid hk
  have H1 := Lib.hid h1
  have H2 := Lib.hid h2
  clear hl hm hn hk h1 h2
  go_enter Tryd.func59, Tryd.ntmps59
  have hz : l.length ≤ (zeros 512).length := by rw [zeros_length]; exact H1.out
  have HZ := Lib.hid hz
  have hz2 : m.length ≤ (over (zeros 512) l).length := by rw [over_length hz, zeros_length]; exact H2.out
  have HZ2 := Lib.hid hz2
  have HZ3 := Lib.hid (pad_over l)
  have hz4 : 512 = (zeros 512).length := (zeros_length 512).symm
  have hz5 : 512 = (over (zeros 512) l).length := by rw [over_length hz, zeros_length]
  have HZ4 := Lib.hid hz4
  have HZ5 := Lib.hid hz5
  clear hz hz2 hz4 hz5
  go_wp2_with (first | (at_make; refine make_u8 rfl _ _ rfl rfl rfl ?_; intro w1 h1 hb1; have H1 := Lib.hid h1; have HB1 := Lib.hid hb1; clear h1 hb1) | (refine copy_u8 rfl (.tmp 7) (.tmp 8) rfl rfl H1.out HZ4.out rfl (HL.out.below HB1.out) HN.out HZ.out HB1.out (Nat.le_refl _) ?_; intro w2 h2 hb2; have H2 := Lib.hid h2; have HB2 := Lib.hid hb2; clear h2 hb2) | (refine copy_u8 rfl (.tmp 10) (.tmp 11) rfl rfl H2.out HZ5.out rfl (HM.out.below HB2.out) HK.out HZ2.out HB2.out (Nat.le_refl _) ?_; intro w3 h3 hb3; have H3 := Lib.hid h3; have HB3 := Lib.hid hb3; clear h3 hb3))
  go_ret
  exact ⟨_, rfl, Nat.le_refl _, by rw [HZ3.out]; exact H3.out, HB3.out⟩

end Go.Proofs.YtpmiakcngjihnaaDoor
