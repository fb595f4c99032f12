/-
  A block of bytes that is known whole: make, copy into a part of it, a byte that is stored.
-/
import Derived.Test.YtpmiakcngjihnaaDoorBytes
import Derived.Laws.CopyOwn
import Derived.Deep.OwnRows
set_option linter.unusedVariables false
set_option maxRecDepth 100000
namespace Go.Proofs.YtpmiakcngjihnaaDoor
open Go.RowKit

/-- Block g is known whole: the bytes l. -/
def PSec (w : World) (g : Nat) (l : List UInt8) : Prop := w.heap[g]? = some (.cells (u8s l).toArray 5 (0, 0))

theorem PSec.lt {w : World} {g : Nat} {l : List UInt8} (h : PSec w g l) : g < w.heap.size := (Array.getElem?_eq_some_iff.1 h).1
theorem PSec.below {w w' : World} {g : Nat} {l : List UInt8} (h : PSec w g l) {B : Nat} (hB : g < B) (hb : Below B w w') : PSec w' g l := by
  unfold PSec
  rw [hb.block g hB]
  exact h
theorem PSec.bs {w : World} {g : Nat} {l : List UInt8} (h : PSec w g l) : Bs w (some ⟨g, 0, none⟩) l := Bs.of_block h rfl
/-- A part of it. -/
theorem PSec.part {w : World} {g : Nat} {l : List UInt8} (h : PSec w g l) (a n : Nat) : Bs w (some ⟨g, a, none⟩) ((l.drop a).take n) := by
  refine Bs.take ?_ n
  have h1 : ∀ i u, l[i]? = some u → w.cell? ⟨g, 0 + i, none⟩ = some (.int .u8 (u.toNat : Int)) := by
    intro i u hi
    rw [Joins.cell_of_block h, Nat.zero_add]
    simp [u8s, hi]
  have := Bs.drop h1 a
  rwa [Nat.zero_add] at this
theorem PSec.own {w : World} {B g : Nat} {l : List UInt8} (h : PSec w g l) (hB : B ≤ g) {n : Nat} (hn : n = l.length) (hm : l.length ≤ 140737488355328) : Own w B (.slice (some ⟨g, 0, none⟩) n n) l := by
  subst hn
  refine ⟨by simp [u8s], .inr ⟨g, l.length, (u8s l).toArray, rfl, hB, h, Nat.le_refl _, by simp only [maxLen]; omega, by simp [u8s], by rw [List.take_of_length_le (by simp [u8s])]⟩⟩

theorem pmadeCells_u8 (n : Nat) : madeCells #[Value.int .u8 0] n = (u8s (List.replicate n 0)).toArray := by
  apply Array.ext
  · simp [madeCells, u8s]
  · intro i h1 h2
    simp [madeCells, u8s, Nat.mod_one]

/-- make([]byte, 512) -/
theorem pmake_u8 {w : World} {ops : Array Oper} {rest : List Oper} {o : Oper} {a : Act} {Q : Exit → Act → World → Prop} (hg : o.guard = none) (l c : Operand) (hop : o.op = Op.makeSlice 37 l c)
    (hl : a.eval l = .int .i64 512) (hc : a.eval c = .int .i64 512)
    (hK : ∀ w', PSec w' w.heap.size (List.replicate 512 0) → Below w.heap.size w w' → w'.heap.size = w.heap.size + 1 → wpList Tryd.prog ops Q rest (a.put o.dst (.slice (some ⟨w.heap.size, 0, none⟩) 512 512)) w') :
    wpList Tryd.prog ops Q (o :: rest) a w := by
  obtain ⟨i, hi, hz0, hz1, hz2⟩ := info_parts info_u8
  refine wpList_make_row w hg l c _ hop 5 i (.int .u8 0) Tryd.underlying37 hi hz0 hz1 rfl .i64 .i64 512 hl hc (by rw [hz2]; decide) (by decide) ?_
  refine hK _ ?_ ((Below.refl _ _).alloc (Nat.le_refl _) _) (by simp)
  rw [pmadeCells_u8]
  exact heap_alloc_new w _

/-- Bytes laid over a part. -/
def splL (l : List UInt8) (o : Nat) (m : List UInt8) : List UInt8 := l.take o ++ m ++ l.drop (o + m.length)
theorem splL_length {l m : List UInt8} {o : Nat} (h : o + m.length ≤ l.length) : (splL l o m).length = l.length := by
  simp only [splL, List.length_append, List.length_take, List.length_drop]
  omega
theorem psplice_u8 (l m : List UInt8) (o : Nat) : splice (u8s l) o (u8s m) = u8s (splL l o m) := by
  simp [splice, u8s, splL]

/-- copy(own[o:o+n], bytes): the bytes lie elsewhere. -/
theorem pcopy_u8 {w w0 : World} {ops : Array Oper} {rest : List Oper} {o : Oper} {a : Act} {Q : Exit → Act → World → Prop} (hgd : o.guard = none) (d s : Operand)
    (ho : o.op = .call { callee := .builtin .copy, args := #[d, s], argTypes := #[37, 37] })
    {g off n c : Nat} {l : List UInt8} (hd : a.eval d = .slice (some ⟨g, off, none⟩) n c) (hg : PSec w g l) (hn : off + n ≤ l.length)
    {p : Option Addr} {k k' : Nat} {m : List UInt8} (hs : a.eval s = .slice p k k') (hm : Bs w p m) (hml : m.length = min k n) {B : Nat} (hb : Below B w0 w) (hB : B ≤ g)
    (h : ∀ w', PSec w' g (splL l off m) → Below B w0 w' → wpList Tryd.prog ops Q rest (a.put o.dst (goInt m.length)) w') : wpList Tryd.prog ops Q (o :: rest) a w := by
  obtain ⟨i, hi, hz0, hz1, hz2⟩ := info_parts info_u8
  refine wpList_copy_splice hgd d s _ _ ho 5 Tryd.underlying37 (by rw [hi]; simp [hz1]) _ _ _ _ _ _ hd hs g off (u8s l) 5 hg (u8s m) (by rw [u8s_length]; exact hml) ?_ (by rw [u8s_length, u8s_length]; omega) (u8s_oneCell m) B w0 hb hB ?_
  · intro h0
    rw [u8s_length] at h0
    obtain ⟨b, o, rfl, _, hc⟩ := hm.at h0
    refine ⟨rfl, _, rfl, fun j v hj => ?_⟩
    obtain ⟨u, hu, rfl⟩ := u8s_get hj
    rw [Addr.add_lit]
    obtain ⟨hj', rfl⟩ := List.getElem?_eq_some_iff.1 hu
    exact hc j hj'
  · intro w' h1 h2
    rw [u8s_length]
    refine h w' ?_ h2
    have h3 := h1.out
    rw [psplice_u8] at h3
    exact h3

end Go.Proofs.YtpmiakcngjihnaaDoor
