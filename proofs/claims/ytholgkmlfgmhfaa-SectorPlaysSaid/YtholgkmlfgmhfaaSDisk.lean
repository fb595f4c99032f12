/-
  A disk in memory: its block, its two maps, the slice of writes; and what stays when it changes.
-/
import Derived.Test.YtholgkmlfgmhfaaSMap
import Derived.Test.YtholgkmlfgmhfaaSLaid
set_option linter.unusedVariables false
set_option maxRecDepth 100000
namespace Go.Proofs.Ytholgkmlfgmhfaa
open Go.RowKit

/-- The blocks of a disk: its own, its maps, its slices of writes. -/
def ofDisk : Obj → Bool
  | .map _ _ => true
  | .cells _ t _ => t == 53 || t == 66
  | _ => false

/-- What is no block of kind K stays. -/
structure Keeps (K : Obj → Bool) (w w' : World) : Prop where
  size : w.heap.size ≤ w'.heap.size
  stay : ∀ {i : Nat} {o : Obj}, w.heap[i]? = some o → K o = false → w'.heap[i]? = some o

theorem Keeps.refl (K : Obj → Bool) (w : World) : Keeps K w w := ⟨Nat.le_refl _, fun h _ => h⟩
theorem Keeps.trans {K : Obj → Bool} {w w1 w2 : World} (h : Keeps K w w1) (h' : Keeps K w1 w2) : Keeps K w w2 := ⟨Nat.le_trans h.size h'.size, fun h1 h2 => h'.stay (h.stay h1 h2) h2⟩
theorem Keeps.below {K : Obj → Bool} {w w' : World} (h : Below w.heap.size w w') : Keeps K w w' :=
  ⟨h.size, fun {i o} h1 _ => by rw [h.block i (Array.getElem?_eq_some_iff.1 h1).1]; exact h1⟩
theorem Keeps.grown {K : Obj → Bool} {w w' : World} {row : Option Nat} (h : w.grownBy w' row) (hk : ∀ b o, row = some b → w.heap[b]? = some o → K o = true) : Keeps K w w' :=
  ⟨h.size, fun {i o} h1 h2 => by
    by_cases hi : row = some i
    · rw [hk i o hi h1] at h2
      cases h2
    · rw [h.block i (Array.getElem?_eq_some_iff.1 h1).1 (fun e => hi e.symm)]
      exact h1⟩
theorem Keeps.sec {K : Obj → Bool} {w w' : World} (h : Keeps K w w') (hK : ∀ c f, K (.cells c 5 f) = false) {g : Nat} {l : List UInt8} (hs : Sec w g l) : Sec w' g l := h.stay hs (hK _ _)
theorem Keeps.bs {K : Obj → Bool} {w w' : World} (h : Keeps K w w') {p : Option Addr} {l : List UInt8} (hb : Bs w p l) (hK : ∀ b o fr c t, p = some ⟨b, o, none⟩ → w.heap[b]? = some (.cells c t fr) → K (.cells c t fr) = false) : Bs w' p l := by
  intro hne
  obtain ⟨b, o, hp, hc⟩ := hb hne
  refine ⟨b, o, hp, fun i u hi => ?_⟩
  have h1 := hc i u hi
  have h2 := World.block_lt_of_cell? _ _ h1
  obtain ⟨ob, hob⟩ : ∃ ob, w.heap[b]? = some ob := ⟨_, Array.getElem?_eq_getElem h2⟩
  have hk : K ob = false := by
    cases ob with
    | cells c t fr => exact hK b o fr c t hp hob
    | _ => simp [World.cell?, hob] at h1
  have h3 := h.stay hob hk
  simp only [World.cell?, hob, h3] at h1 ⊢
  exact h1

theorem ofDisk_u8 (c : Array Value) (f : Nat × Nat) : ofDisk (.cells c 5 f) = false := by
  show ((5 : TypeId) == 53 || (5 : TypeId) == 66) = false
  decide

/-- The cells of writes. -/
def wcells (ms : List (Wr × Nat)) : List Value := ms.flatMap fun x => [.int .i64 x.1.k, .slice (some ⟨x.2, 0, none⟩) 512 512]

theorem wcells_length (ms : List (Wr × Nat)) : (wcells ms).length = ms.length * 2 := by
  induction ms with
  | nil => rfl
  | cons x ms ih => simp only [wcells, List.flatMap_cons, List.length_append, List.length_cons, List.length_nil] at *; omega

/-- A slice of 512 bytes that lies there whole. -/
def sl (g : Nat) : Value := .slice (some ⟨g, 0, none⟩) 512 512

/-- A disk that lies at p. -/
structure DiskIs (w : World) (B p lm fm : Nat) (v : Value) (ms : List (Wr × Nat)) (fl ff : Int → Option Value) (S : SD) : Prop where
  blk : w.heap[p]? = some (.cells #[.int .i64 S.size, .map (some lm), v, .map (some fm), .int .i64 S.left, .int .i64 S.ops] 53 (0, 0))
  hp : B ≤ p
  lb : B ≤ lm
  fb : B ≤ fm
  ne : lm ≠ fm
  ws : S.waits = ms.map (·.1)
  own : w.ownsRow B 66 2 v ms.length (wcells ms)
  sec : ∀ x ∈ ms, Sec w x.2 x.1.l
  ml : MapIs w lm fl
  mf : MapIs w fm ff
  ll : ∀ k, (fl k = none ∧ S.lasts k = zeros 512) ∨ ∃ g, fl k = some (sl g) ∧ Sec w g (S.lasts k)
  lf : ∀ k, (ff k = none ∧ found S.waits k = none) ∨ ∃ g l, ff k = some (sl g) ∧ found S.waits k = some l ∧ Sec w g l
  ok : S.Ok

def DiskAt (w : World) (B p : Nat) (S : SD) : Prop := ∃ lm fm v ms fl ff, DiskIs w B p lm fm v ms fl ff S

theorem DiskIs.below {w w' : World} {B p lm fm : Nat} {v : Value} {ms : List (Wr × Nat)} {fl ff : Int → Option Value} {S : SD} (h : DiskIs w B p lm fm v ms fl ff S) (hb : Below w.heap.size w w') : DiskIs w' B p lm fm v ms fl ff S := by
  obtain ⟨h1, h2, h3, h4, h5, h6, h7, h8, h9, h10, h11, h12, h13⟩ := h
  refine ⟨by rw [hb.block _ (Array.getElem?_eq_some_iff.1 h1).1]; exact h1, h2, h3, h4, h5, h6, ?_, fun x hx => (h8 x hx).below hb, h9.block (hb.block _ h9.lt), h10.block (hb.block _ h10.lt), ?_, ?_, h13⟩
  · refine ⟨h7.1, ?_⟩
    rcases h7.2 with h0 | ⟨g, cap, cur, hv, r1, hg, r2⟩
    · exact .inl h0
    · exact .inr ⟨g, cap, cur, hv, r1, by rw [hb.block g (Array.getElem?_eq_some_iff.1 hg).1]; exact hg, r2⟩
  · intro k
    rcases h11 k with h | ⟨g, h, hs⟩
    · exact .inl h
    · exact .inr ⟨g, h, hs.below hb⟩
  · intro k
    rcases h12 k with h | ⟨g, l, h, h', hs⟩
    · exact .inl h
    · exact .inr ⟨g, l, h, h', hs.below hb⟩

theorem DiskAt.below {w w' : World} {B p : Nat} {S : SD} (h : DiskAt w B p S) (hb : Below w.heap.size w w') : DiskAt w' B p S := by
  obtain ⟨lm, fm, v, ms, fl, ff, h⟩ := h
  exact ⟨lm, fm, v, ms, fl, ff, h.below hb⟩
theorem DiskAt.le {w : World} {B B' p : Nat} {S : SD} (h : DiskAt w B p S) (hb : B' ≤ B) : DiskAt w B' p S := by
  obtain ⟨lm, fm, v, ms, fl, ff, h1, h2, h3, h4, h5, h6, h7, h8, h9, h10, h11, h12, h13⟩ := h
  exact ⟨lm, fm, v, ms, fl, ff, h1, by omega, by omega, by omega, h5, h6, World.ownsRow.mono h7 hb, h8, h9, h10, h11, h12, h13⟩
theorem DiskAt.ok {w : World} {B p : Nat} {S : SD} (h : DiskAt w B p S) : S.Ok := by
  obtain ⟨lm, fm, v, ms, fl, ff, h⟩ := h
  exact h.ok

/-- What a call leaves that changes a disk. -/
structure DiskStep (w w' : World) (B p : Nat) (S : SD) : Prop where
  disk : DiskAt w' B p S
  below : Below B w w'
  keeps : Keeps ofDisk w w'

end Go.Proofs.Ytholgkmlfgmhfaa
