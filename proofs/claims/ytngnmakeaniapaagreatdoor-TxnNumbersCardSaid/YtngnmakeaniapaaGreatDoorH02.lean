/-
  A disk in memory: its block, its two maps, the slice of writes; and what stays when it changes.
  sector: made, has; and all calls of a disk that no call made.
  A function's own boxes in later worlds (as VAt's, for seats without values).
  sector: begin, New, do; Ops, Waiting, Len, Cut of a disk.
  sector.do: an operation is counted, and done.
-/
import Derived.Test.YtngnmakeaniapaaGreatDoorH01
import Derived.Test.YtngnmakeaniapaaGreatDoorH00
import Derived.WalkSpells
import Derived.WalkLawsBesides
import Derived.RegionTactic
import Derived.Lib.Hide
import Derived.Lib.SmallJoins
set_option linter.unusedVariables false
set_option maxRecDepth 100000
namespace Go.Proofs.YtngnmakeaniapaaGreatDoor
open Go.RowKit

/-- The blocks of a disk: its own, its maps, its slices of writes. -/
def ofDisk (lm fm : Nat) : Nat → Obj → Bool
  | i, .map _ _ => i == lm || i == fm
  | _, .cells _ t _ => t == 56 || t == 102
  | _, _ => false

/-- What is no block of kind K stays. -/
structure Keeps (K : Nat → Obj → Bool) (w w' : World) : Prop where
  size : w.heap.size ≤ w'.heap.size
  stay : ∀ {i : Nat} {o : Obj}, w.heap[i]? = some o → K i o = false → w'.heap[i]? = some o

theorem Keeps.refl (K : Nat → Obj → Bool) (w : World) : Keeps K w w := ⟨Nat.le_refl _, fun h _ => h⟩
theorem Keeps.trans {K : Nat → Obj → Bool} {w w1 w2 : World} (h : Keeps K w w1) (h' : Keeps K w1 w2) : Keeps K w w2 := ⟨Nat.le_trans h.size h'.size, fun h1 h2 => h'.stay (h.stay h1 h2) h2⟩
theorem Keeps.below {K : Nat → Obj → Bool} {w w' : World} (h : Below w.heap.size w w') : Keeps K w w' :=
  ⟨h.size, fun {i o} h1 _ => by rw [h.block i (Array.getElem?_eq_some_iff.1 h1).1]; exact h1⟩
theorem Keeps.grown {K : Nat → Obj → Bool} {w w' : World} {row : Option Nat} (h : w.grownBy w' row) (hk : ∀ b o, row = some b → w.heap[b]? = some o → K b o = true) : Keeps K w w' :=
  ⟨h.size, fun {i o} h1 h2 => by
    by_cases hi : row = some i
    · rw [hk i o hi h1] at h2
      cases h2
    · rw [h.block i (Array.getElem?_eq_some_iff.1 h1).1 (fun e => hi e.symm)]
      exact h1⟩
theorem Keeps.sec {K : Nat → Obj → Bool} {w w' : World} (h : Keeps K w w') {g : Nat} (hK : ∀ c f, K g (.cells c 5 f) = false) {l : List UInt8} (hs : Sec w g l) : Sec w' g l := h.stay hs (hK _ _)
theorem Keeps.bs {K : Nat → Obj → Bool} {w w' : World} (h : Keeps K w w') {p : Option Addr} {l : List UInt8} (hb : Bs w p l) (hK : ∀ b o fr c t, p = some ⟨b, o, none⟩ → w.heap[b]? = some (.cells c t fr) → K b (.cells c t fr) = false) : Bs w' p l := by
  intro hne
  obtain ⟨b, o, hp, hc⟩ := hb hne
  refine ⟨b, o, hp, fun i u hi => ?_⟩
  have h1 := hc i u hi
  have h2 := World.block_lt_of_cell? _ _ h1
  obtain ⟨ob, hob⟩ : ∃ ob, w.heap[b]? = some ob := ⟨_, Array.getElem?_eq_getElem h2⟩
  have hk : K b ob = false := by
    cases ob with
    | cells c t fr => exact hK b o fr c t hp hob
    | _ => simp [World.cell?, hob] at h1
  have h3 := h.stay hob hk
  simp only [World.cell?, hob, h3] at h1 ⊢
  exact h1

theorem ofDisk_u8 {lm fm i : Nat} (c : Array Value) (f : Nat × Nat) : ofDisk lm fm i (.cells c 5 f) = false := by
  show ((5 : TypeId) == 56 || (5 : TypeId) == 102) = false
  decide

/-- The cells of writes. -/
def wcells (ms : List (Wr × Nat)) : List Value := ms.flatMap fun x => [.int .i64 x.1.k, .slice (some ⟨x.2, 0, none⟩) 512 512]

theorem wcells_length (ms : List (Wr × Nat)) : (wcells ms).length = ms.length * 2 := by
  induction ms with
  | nil => rfl
  | cons x ms ih => simp only [wcells, List.flatMap_cons, List.length_append, List.length_cons, List.length_nil] at *; omega

/-- A slice of 512 bytes that lies there whole. -/
def sl (g : Nat) : Value := .slice (some ⟨g, 0, none⟩) 512 512

/-- A disk that lies at p. -/
structure DiskIs (w : World) (B p lm fm : Nat) (v : Value) (ms : List (Wr × Nat)) (fl ff : Int → Option Value) (S : SD) : Prop where
  blk : w.heap[p]? = some (.cells #[.int .i64 S.size, .map (some lm), v, .map (some fm), .int .i64 S.left, .int .i64 S.ops] 56 (0, 0))
  hp : B ≤ p
  lb : B ≤ lm
  fb : B ≤ fm
  ne : lm ≠ fm
  ws : S.waits = ms.map (·.1)
  own : w.ownsRow B 102 2 v ms.length (wcells ms)
  sec : ∀ x ∈ ms, Sec w x.2 x.1.l
  ml : MapIs w lm fl
  mf : MapIs w fm ff
  ll : ∀ k, (fl k = none ∧ S.lasts k = zeros 512) ∨ ∃ g, fl k = some (sl g) ∧ Sec w g (S.lasts k)
  lf : ∀ k, (ff k = none ∧ found S.waits k = none) ∨ ∃ g l, ff k = some (sl g) ∧ found S.waits k = some l ∧ Sec w g l
  ok : S.Ok

def DiskAt (w : World) (B p lm fm : Nat) (S : SD) : Prop := ∃ v ms fl ff, DiskIs w B p lm fm v ms fl ff S

theorem DiskIs.below {w w' : World} {B p lm fm : Nat} {v : Value} {ms : List (Wr × Nat)} {fl ff : Int → Option Value} {S : SD} (h : DiskIs w B p lm fm v ms fl ff S) (hb : Below w.heap.size w w') : DiskIs w' B p lm fm v ms fl ff S := by
  obtain ⟨h1, h2, h3, h4, h5, h6, h7, h8, h9, h10, h11, h12, h13⟩ := h
  refine ⟨by rw [hb.block _ (Array.getElem?_eq_some_iff.1 h1).1]; exact h1, h2, h3, h4, h5, h6, ?_, fun x hx => (h8 x hx).below hb, h9.block (hb.block _ h9.lt), h10.block (hb.block _ h10.lt), ?_, ?_, h13⟩
  · refine ⟨h7.1, ?_⟩
    rcases h7.2 with h0 | ⟨g, cap, cur, hv, r1, hg, r2⟩
    · exact .inl h0
    · exact .inr ⟨g, cap, cur, hv, r1, by rw [hb.block g (Array.getElem?_eq_some_iff.1 hg).1]; exact hg, r2⟩
  · intro k
    rcases h11 k with h | ⟨g, h, hs⟩
    · exact .inl h
    · exact .inr ⟨g, h, hs.below hb⟩
  · intro k
    rcases h12 k with h | ⟨g, l, h, h', hs⟩
    · exact .inl h
    · exact .inr ⟨g, l, h, h', hs.below hb⟩

theorem DiskAt.below {w w' : World} {B p lm fm : Nat} {S : SD} (h : DiskAt w B p lm fm S) (hb : Below w.heap.size w w') : DiskAt w' B p lm fm S := by
  obtain ⟨v, ms, fl, ff, h⟩ := h
  exact ⟨v, ms, fl, ff, h.below hb⟩
theorem DiskAt.le {w : World} {B B' p lm fm : Nat} {S : SD} (h : DiskAt w B p lm fm S) (hb : B' ≤ B) : DiskAt w B' p lm fm S := by
  obtain ⟨v, ms, fl, ff, h1, h2, h3, h4, h5, h6, h7, h8, h9, h10, h11, h12, h13⟩ := h
  exact ⟨v, ms, fl, ff, h1, by omega, by omega, by omega, h5, h6, World.ownsRow.mono h7 hb, h8, h9, h10, h11, h12, h13⟩
theorem DiskAt.ok {w : World} {B p lm fm : Nat} {S : SD} (h : DiskAt w B p lm fm S) : S.Ok := by
  obtain ⟨v, ms, fl, ff, h⟩ := h
  exact h.ok

/-- What a call leaves that changes a disk. -/
structure DiskStep (w w' : World) (B p lm fm : Nat) (S : SD) : Prop where
  disk : DiskAt w' B p lm fm S
  below : Below B w w'
  keeps : Keeps (ofDisk lm fm) w w'

end Go.Proofs.YtngnmakeaniapaaGreatDoor

set_option linter.unusedVariables false
set_option maxRecDepth 100000
namespace Go.Proofs.YtngnmakeaniapaaGreatDoor
open Go.RowKit

/-- A disk that no call made. -/
def Nobody (w : World) (d : Option Addr) : Prop := d = none ∨ ∃ p, d = some ⟨p, 0, none⟩ ∧ w.cell? ⟨p, 0, none⟩ = some (.int .i64 0)

theorem Nobody.below {w w' : World} {d : Option Addr} (h : Nobody w d) (hb : Below w.heap.size w w') : Nobody w' d := by
  rcases h with h | ⟨p, h, hc⟩
  · exact .inl h
  · exact .inr ⟨p, h, by rw [hb.cell (p := ⟨p, 0, none⟩) (World.block_lt_of_cell? _ _ hc)]; exact hc⟩

set_option maxHeartbeats 400000 in
theorem made_yes {w : World} {p : Nat} {n : Int} (h : w.cell? ⟨p, 0, none⟩ = some (.int .i64 n)) (hn : 0 < n) :
    Calls Tryz.prog 54 #[.pointer (some ⟨p, 0, none⟩)] w fun e w' => e = .returned (.bool true) ∧ w = w' := by
  have hd : decide (0 < n) = true := decide_eq_true hn
  go_enter Tryz.func54, Tryz.ntmps54
  go_wp2
  all_goals first
    | (go_ret; exact ⟨rfl, rfl⟩)
    | trace_state

set_option maxHeartbeats 400000 in
theorem made_no {w : World} {d : Option Addr} (h : Nobody w d) :
    Calls Tryz.prog 54 #[.pointer d] w fun e w' => e = .returned (.bool false) ∧ w = w' := by
  rcases h with rfl | ⟨p, rfl, hc⟩
  · go_enter Tryz.func54, Tryz.ntmps54
    go_wp2
    go_ret
    exact ⟨rfl, rfl⟩
  · go_enter Tryz.func54, Tryz.ntmps54
    go_wp2
    go_ret
    exact ⟨rfl, rfl⟩

set_option maxHeartbeats 400000 in
theorem has_any {w : World} {p : Nat} {n k : Int} (h : w.cell? ⟨p, 0, none⟩ = some (.int .i64 n)) :
    Calls Tryz.prog 118 #[.pointer (some ⟨p, 0, none⟩), .int .i64 k] w fun e w' => e = .returned (.bool (decide (0 ≤ k) && decide (k < n))) ∧ w = w' := by
  by_cases h0 : 0 ≤ k
  · have h1 : decide (0 ≤ k) = true := decide_eq_true h0
    go_enter Tryz.func118, Tryz.ntmps118
    go_wp2
    all_goals (go_ret; exact ⟨by simp_all, rfl⟩)
  · have h1 : decide (0 ≤ k) = false := decide_eq_false h0
    go_enter Tryz.func118, Tryz.ntmps118
    go_wp2
    all_goals (go_ret; exact ⟨by simp_all, rfl⟩)

end Go.Proofs.YtngnmakeaniapaaGreatDoor

set_option linter.unusedVariables false
set_option maxRecDepth 100000
namespace Go.Proofs.YtngnmakeaniapaaGreatDoor
open Go.RowKit

theorem sbox1 (w : World) (o : Obj) : Below w.heap.size w (w.alloc o) := (Below.refl _ _).alloc (Nat.le_refl _) _
theorem sbox2 (w : World) (o o' : Obj) : Below w.heap.size w ((w.alloc o).alloc o') := (sbox1 w o).alloc (by simp) _
theorem sbox3 (w : World) (o o' o2 : Obj) : Below w.heap.size w (((w.alloc o).alloc o').alloc o2) := (sbox2 w o o').alloc (by simp; omega) _
theorem sbox3_heap (w : World) (o o' o2 : Obj) : (((w.alloc o).alloc o').alloc o2).heap[w.heap.size]? = some o ∧ (((w.alloc o).alloc o').alloc o2).heap[w.heap.size + 1]? = some o' ∧ (((w.alloc o).alloc o').alloc o2).heap[w.heap.size + 2]? = some o2 ∧ (((w.alloc o).alloc o').alloc o2).heap.size = w.heap.size + 3 := by
  have e1 : (w.alloc o).heap.size = w.heap.size + 1 := by simp
  have e2 : ((w.alloc o).alloc o').heap.size = w.heap.size + 2 := by simp
  refine ⟨?_, ?_, ?_, by simp⟩
  · rw [Below.heap_alloc _ _ _ (by omega), Below.heap_alloc _ _ _ (by omega)]
    exact heap_alloc_new w _
  · rw [Below.heap_alloc _ _ _ (by omega)]
    have := heap_alloc_new (w.alloc o) o'
    rw [e1] at this
    exact this
  · have := heap_alloc_new ((w.alloc o).alloc o') o2
    rw [e2] at this
    exact this

end Go.Proofs.YtngnmakeaniapaaGreatDoor

set_option linter.unusedVariables false
set_option maxRecDepth 100000
namespace Go.Proofs.YtngnmakeaniapaaGreatDoor
open Go.RowKit

/-- A cell of a block is stored. -/
theorem cell_set {w : World} {p i : Nat} {cs : Array Value} {t : TypeId} {v : Value} (h : w.heap[p]? = some (.cells cs t (0, 0))) :
    (w.setCell ⟨p, i, none⟩ v).heap[p]? = some (.cells (cs.setIfInBounds i v) t (0, 0)) ∧ w.grownBy (w.setCell ⟨p, i, none⟩ v) (some p) := by
  rw [setCell_eq_setRow w p i cs t (0, 0) v h]
  exact ⟨setRow_heap w p cs _ t _ h, ⟨rfl, rfl, rfl, by simp [World.setRow], fun k _ hk => setRow_other w p k _ (fun e => hk (by rw [e]))⟩⟩

theorem grown_at {w w' : World} {b i : Nat} {o : Obj} (hg : w.grownBy w' (some b)) (h : w.heap[i]? = some o) (hne : i ≠ b) : w'.heap[i]? = some o := by
  rw [hg.block i (Array.getElem?_eq_some_iff.1 h).1 (fun e => hne (Option.some.inj e))]
  exact h
theorem obj_ne {w : World} {i b : Nat} {o o' : Obj} (h : w.heap[i]? = some o) (h' : w.heap[b]? = some o') (hne : o ≠ o') : i ≠ b := by
  rintro rfl
  rw [h] at h'
  exact hne (Option.some.inj h')

theorem ofDisk_own {lm fm i : Nat} (c : Array Value) (f : Nat × Nat) : ofDisk lm fm i (.cells c 56 f) = true := by
  show ((56 : TypeId) == 56 || (56 : TypeId) == 102) = true
  decide
theorem ofDisk_write {lm fm i : Nat} (c : Array Value) (f : Nat × Nat) : ofDisk lm fm i (.cells c 102 f) = true := by
  show ((102 : TypeId) == 56 || (102 : TypeId) == 102) = true
  decide

/-- What a disk's parts have, of a world in which block b alone has changed. -/
structure DiskRest (w : World) (b : Nat) (B p lm fm : Nat) (v : Value) (ms : List (Wr × Nat)) (fl ff : Int → Option Value) (S : SD) : Prop where
  blk : p ≠ b → w.heap[p]? = some (.cells #[.int .i64 S.size, .map (some lm), v, .map (some fm), .int .i64 S.left, .int .i64 S.ops] 56 (0, 0))
  own : v.ownBlock ≠ some b → w.ownsRow B 102 2 v ms.length (wcells ms)
  sec : ∀ x ∈ ms, Sec w x.2 x.1.l
  ml : lm ≠ b → MapIs w lm fl
  mf : fm ≠ b → MapIs w fm ff
  ll : ∀ k, (fl k = none ∧ S.lasts k = zeros 512) ∨ ∃ g, fl k = some (sl g) ∧ Sec w g (S.lasts k)
  lf : ∀ k, (ff k = none ∧ found S.waits k = none) ∨ ∃ g l, ff k = some (sl g) ∧ found S.waits k = some l ∧ Sec w g l

theorem DiskIs.rest {w w' : World} {b B p lm fm : Nat} {v : Value} {ms : List (Wr × Nat)} {fl ff : Int → Option Value} {S : SD} (h : DiskIs w B p lm fm v ms fl ff S) (hg : w.grownBy w' (some b))
    {o : Obj} (hb : w.heap[b]? = some o) (ho : ofDisk lm fm b o = true) : DiskRest w' b B p lm fm v ms fl ff S := by
  have hs : ∀ {g : Nat} {l : List UInt8}, Sec w g l → Sec w' g l := fun {g l} hs => grown_at hg hs (obj_ne hs hb (by rintro rfl; rw [ofDisk_u8] at ho; cases ho))
  have hm : ∀ {m : Nat} {f : Int → Option Value}, MapIs w m f → m ≠ b → MapIs w' m f := fun {m f} hm hne => hm.block (hg.block m hm.lt (fun e => hne (Option.some.inj e)))
  refine ⟨fun hne => grown_at hg h.blk hne, fun hne => World.ownsRow.kept h.own hg (.inr hne), fun x hx => hs (h.sec x hx), hm h.ml, hm h.mf, fun k => ?_, fun k => ?_⟩
  · rcases h.ll k with h | ⟨g, h, h'⟩
    · exact .inl h
    · exact .inr ⟨g, h, hs h'⟩
  · rcases h.lf k with h | ⟨g, l, h, h1, h'⟩
    · exact .inl h
    · exact .inr ⟨g, l, h, h1, hs h'⟩

/-- Another block than the disk's own. -/
theorem DiskIs.lm_ne {w : World} {B p lm fm : Nat} {v : Value} {ms : List (Wr × Nat)} {fl ff : Int → Option Value} {S : SD} (h : DiskIs w B p lm fm v ms fl ff S) : lm ≠ p ∧ fm ≠ p ∧ v.ownBlock ≠ some p ∧ v.ownBlock ≠ some lm ∧ v.ownBlock ≠ some fm := by
  obtain ⟨_, _, hl, _⟩ := h.ml
  obtain ⟨_, _, hf, _⟩ := h.mf
  refine ⟨obj_ne hl h.blk (by simp), obj_ne hf h.blk (by simp), ?_⟩
  rcases h.own.2 with ⟨rfl, _⟩ | ⟨g, cap, cur, rfl, _, hg, _⟩
  · exact ⟨by simp [Value.ownBlock], by simp [Value.ownBlock], by simp [Value.ownBlock]⟩
  · refine ⟨fun e => obj_ne hg h.blk ?_ (Option.some.inj e), fun e => obj_ne hg hl (by simp) (Option.some.inj e), fun e => obj_ne hg hf (by simp) (Option.some.inj e)⟩
    intro e
    simp at e

/-- The counters of a disk are set. -/
theorem DiskIs.count {w w' : World} {B p lm fm : Nat} {v : Value} {ms : List (Wr × Nat)} {fl ff : Int → Option Value} {S : SD} (h : DiskIs w B p lm fm v ms fl ff S) (hg : w.grownBy w' (some p)) {l o : Int}
    (hb : w'.heap[p]? = some (.cells #[.int .i64 S.size, .map (some lm), v, .map (some fm), .int .i64 l, .int .i64 o] 56 (0, 0))) (ho : S.ops ≤ o) :
    DiskIs w' B p lm fm v ms fl ff { S with left := l, ops := o } := by
  obtain ⟨r1, r2, r3, r4, r5, r6, r7⟩ := h.rest hg h.blk (ofDisk_own _ _)
  obtain ⟨n1, n2, n3, _⟩ := h.lm_ne
  obtain ⟨k1, k2, k3, k4, k5, k6⟩ := h.ok
  exact ⟨hb, h.hp, h.lb, h.fb, h.ne, h.ws, r2 n3, r3, r4 n1, r5 n2, r6, r7, ⟨k1, k2, k3, k4, by show ((S.waits.length : Nat) : Int) ≤ o; omega, by show 0 ≤ o; omega⟩⟩

theorem disk_step {w w' : World} {B b lm fm : Nat} (hg : w.grownBy w' (some b)) {o : Obj} (hb : w.heap[b]? = some o) (ho : ofDisk lm fm b o = true) (hB : B ≤ b) (hBw : B ≤ w.heap.size) :
    Below B w w' ∧ Keeps (ofDisk lm fm) w w' :=
  ⟨(Below.refl B w).grown hg hBw fun k hk => by cases hk; exact hB, Keeps.grown hg fun i o' hi h => by cases hi; rw [hb] at h; cases h; exact ho⟩

/-- A disk that was just made. -/
theorem DiskIs.begun {w' : World} {B p lm fm : Nat} {fl : Int → Option Value} {L : Int → List UInt8} {n : Int} (hp : w'.heap[p]? = some (.cells #[.int .i64 n, .map (some lm), .slice none 0 0, .map (some fm), .int .i64 (-1), .int .i64 0] 56 (0, 0)))
    (h1 : B ≤ p) (h2 : B ≤ lm) (h3 : B ≤ fm) (h4 : lm ≠ fm) (hm : MapIs w' lm fl) (hf : w'.heap[fm]? = some (.map #[] 0)) (hl : ∀ k, (fl k = none ∧ L k = zeros 512) ∨ ∃ g, fl k = some (sl g) ∧ Sec w' g (L k))
    (n1 : 1 ≤ n) (n2 : n ≤ 4096) (hL : ∀ k, (L k).length = 512) : DiskIs w' B p lm fm (.slice none 0 0) [] fl (fun _ => none) ⟨n, L, [], -1, 0⟩ :=
  ⟨hp, h1, h2, h3, h4, rfl, World.ownsRow_nil w' B _ _, by simp, hm, MapIs.new hf, hl, fun k => .inl ⟨rfl, rfl⟩, ⟨n1, n2, hL, by simp, by simp, by simp⟩⟩

def NewPost (w : World) (B lm : Nat) (S : SD) (e : Ending) (w' : World) : Prop := ∃ p fm, e = .returned (.pointer (some ⟨p, 0, none⟩)) ∧ DiskAt w' B p lm fm S ∧ Below w.heap.size w w' ∧ w.heap.size ≤ p

set_option maxHeartbeats 800000 in
theorem begin_any {w : World} {B lm : Nat} {fl : Int → Option Value} {L : Int → List UInt8} {n : Int} (hm : MapIs w lm fl) (hB : B ≤ lm) (hl : ∀ k, (fl k = none ∧ L k = zeros 512) ∨ ∃ g, fl k = some (sl g) ∧ Sec w g (L k)) (n1 : 1 ≤ n) (n2 : n ≤ 4096) (hL : ∀ k, (L k).length = 512) :
    Calls Tryz.prog 42 #[.int .i64 n, .map (some lm)] w (NewPost w B lm ⟨n, L, [], -1, 0⟩) := by
  have hfin : ∀ w', w' = ((w.alloc (.map #[] 0)).alloc (.cells #[.int .i64 n, .map (some lm), .slice none 0 0, .map (some w.heap.size), .int .i64 (-1), .int .i64 0] 56)) → DiskAt w' B (w.heap.size + 1) lm w.heap.size ⟨n, L, [], -1, 0⟩ ∧ Below w.heap.size w w' := by
    rintro w' rfl
    have hb := sbox2 w (.map #[] 0) (.cells #[.int .i64 n, .map (some lm), .slice none 0 0, .map (some w.heap.size), .int .i64 (-1), .int .i64 0] 56)
    have hlt := hm.lt
    have e1 : (w.alloc (.map #[] 0)).heap.size = w.heap.size + 1 := by simp
    refine ⟨⟨_, [], fl, _, DiskIs.begun ?_ (by omega) hB (by omega) (by omega) (hm.block (hb.block _ hlt)) ?_ ?_ n1 n2 hL⟩, hb⟩
    · have := heap_alloc_new (w.alloc (.map #[] 0)) (.cells #[.int .i64 n, .map (some lm), .slice none 0 0, .map (some w.heap.size), .int .i64 (-1), .int .i64 0] 56)
      rw [e1] at this
      exact this
    · rw [Below.heap_alloc _ _ _ (by omega)]
      exact heap_alloc_new w _
    · intro k
      rcases hl k with h | ⟨g, h, h'⟩
      · exact .inl h
      · exact .inr ⟨g, h, h'.below hb⟩
  have HF := Lib.hid hfin
  clear hfin hm hl
  have hmm := @run_makeMap Tryz.prog
  go_enter Tryz.func42, Tryz.ntmps42
  go_wp2
  go_ret
  exact ⟨_, w.heap.size, rfl, (HF.out _ rfl).1, (HF.out _ rfl).2, by simp⟩

def NewPost2 (w : World) (n : Int) (e : Ending) (w' : World) : Prop := ∃ p lm fm, e = .returned (.tuple #[.pointer (some ⟨p, 0, none⟩), .int .i64 0]) ∧ DiskAt w' w.heap.size p lm fm (SD.new n) ∧ Below w.heap.size w w' ∧ w.heap.size ≤ p

set_option maxHeartbeats 800000 in
theorem new_yes {w : World} {n : Int} (n1 : 1 ≤ n) (n2 : n ≤ 4096) : Calls Tryz.prog 10 #[.int .i64 n] w (NewPost2 w n) := by
  have HB : Hid (Calls Tryz.prog 42 #[.int .i64 n, .map (some w.heap.size)] (w.alloc (.map #[] 0)) (NewPost (w.alloc (.map #[] 0)) w.heap.size w.heap.size (SD.new n))) :=
    Lib.hid (begin_any (MapIs.new (heap_alloc_new w _)) (Nat.le_refl _) (fun k => .inl ⟨rfl, rfl⟩) n1 n2 (fun k => zeros_length 512))
  have hmm := @run_makeMap Tryz.prog
  go_enter Tryz.func10, Tryz.ntmps10
  go_wp2_with fail
  refine HB.out.mono ?_; rintro e w1 ⟨p, fm, rfl, hd, hb, hp⟩
  have HD := Lib.hid hd
  have HB1 := Lib.hid ((sbox1 w _).trans (hb.mono (sbox1 w _).size))
  have HP := Lib.hid hp
  clear hd hb hp
  go_wp2
  go_ret2
  exact ⟨p, w.heap.size, fm, rfl, HD.out, HB1.out, by have := HP.out; simp at this; omega⟩

set_option maxHeartbeats 400000 in
theorem new_no {w : World} {n : Int} (hn : n < 1 ∨ 4096 < n) : Calls Tryz.prog 10 #[.int .i64 n] w fun e w' => e = .returned (.tuple #[.pointer none, .int .i64 2]) ∧ Below w.heap.size w w' := by
  by_cases h1 : n < 1
  · have d1 : decide (n < 1) = true := decide_eq_true h1
    clear hn
    go_enter Tryz.func10, Tryz.ntmps10
    go_wp2
    go_ret2
    exact ⟨rfl, Below.refl _ _⟩
  · have h2 : 4096 < n := by omega
    have d1 : decide (n < 1) = false := decide_eq_false h1
    have d2 : decide (4096 < n) = true := decide_eq_true h2
    clear hn
    go_enter Tryz.func10, Tryz.ntmps10
    go_wp2
    go_ret2
    exact ⟨rfl, Below.refl _ _⟩

end Go.Proofs.YtngnmakeaniapaaGreatDoor

set_option linter.unusedVariables false
set_option maxRecDepth 100000
namespace Go.Proofs.YtngnmakeaniapaaGreatDoor
open Go.RowKit

set_option maxHeartbeats 400000 in
theorem do_cut {w : World} {B p lm fm : Nat} {S : SD} (h : DiskAt w B p lm fm S) (h0 : S.left = 0) (op : Value) :
    Calls Tryz.prog 116 #[.pointer (some ⟨p, 0, none⟩), op] w fun e w' => e = .returned (.int .i64 17) ∧ w = w' := by
  obtain ⟨v, ms, fl, ff, h⟩ := h
  have c4 : w.cell? ⟨p, 4, none⟩ = some (.int .i64 0) := by rw [Joins.cell_of_block h.blk, ← h0]; rfl
  clear h h0
  go_enter Tryz.func116, Tryz.ntmps116
  go_wp2
  go_ret
  exact ⟨rfl, rfl⟩

set_option maxHeartbeats 1600000 in
theorem do_any {w : World} {B p lm fm : Nat} {S : SD} (h : DiskAt w B p lm fm S) (h0 : S.left ≠ 0) (hl : -1 ≤ S.left) (hu : S.left ≤ 9223372036854775807) (ho : S.ops ≤ 1000000000) (hBw : B ≤ w.heap.size)
    {fn : FuncId} {caps : Array Value} (eg : ∀ args (w : World), (callFunc fn args).run Tryz.prog w = .ok (.enter fn args) w) {R : World → Prop}
    (H : ∀ w1, DiskAt w1 B p lm fm S.tick → Below B w w1 → Keeps (ofDisk lm fm) w w1 → Calls Tryz.prog fn caps w1 fun e w2 => e = .returned (.tuple #[]) ∧ R w2) :
    Calls Tryz.prog 116 #[.pointer (some ⟨p, 0, none⟩), .func (.func fn) #[] caps] w fun e w' => e = .returned (.int .i64 0) ∧ R w' := by
  obtain ⟨v, ms, fl, ff, h⟩ := h
  have o0 := h.ok.o1
  have c4 : w.cell? ⟨p, 4, none⟩ = some (.int .i64 S.left) := by rw [Joins.cell_of_block h.blk]; rfl
  have c5 : w.cell? ⟨p, 5, none⟩ = some (.int .i64 S.ops) := by rw [Joins.cell_of_block h.blk]; rfl
  have u4 : ∀ i, w.frozen? ⟨p, i, none⟩ = false := fun i => Joins.unfrozen_of_block h.blk i
  have hHid := Lib.hid H
  have d0 : decide (S.left = 0) = false := decide_eq_false h0
  by_cases hp : 0 < S.left
  · have hd : decide (0 < S.left) = true := decide_eq_true hp
    have hfin : ∀ w1, w1 = ((w.setCell ⟨p, 4, none⟩ (.int .i64 (S.left - 1))).setCell ⟨p, 5, none⟩ (.int .i64 (S.ops + 1))) → Calls Tryz.prog fn caps w1 fun e w2 => e = .returned (.tuple #[]) ∧ R w2 := by
      rintro w1 rfl
      obtain ⟨b1, g1⟩ := cell_set (i := 4) (v := .int .i64 (S.left - 1)) h.blk
      obtain ⟨b2, g2⟩ := cell_set (i := 5) (v := .int .i64 (S.ops + 1)) b1
      have g := g1.trans g2
      obtain ⟨q1, q2⟩ := disk_step (lm := lm) (fm := fm) g h.blk (ofDisk_own _ _) h.hp hBw
      refine H _ ⟨v, ms, fl, ff, ?_⟩ q1 q2
      have := h.count g (l := S.left - 1) (o := S.ops + 1) (by simpa using b2) (by omega)
      have e : S.tick = { S with left := S.left - 1, ops := S.ops + 1 } := by simp [SD.tick, hp]
      rw [e]
      exact this
    have HF := Lib.hid hfin
    clear hfin h H
    generalize S.left = l at *
    generalize S.ops = o at *
    go_enter Tryz.func116, Tryz.ntmps116
    go_wp2_with fail
    refine (HF.out _ rfl).mono ?_; rintro e w2 ⟨rfl, hr⟩
    have HR := Lib.hid hr
    clear hr
    go_wp2
    go_ret
    exact ⟨rfl, HR.out⟩
  · have hd : decide (0 < S.left) = false := decide_eq_false hp
    have hfin : ∀ w1, w1 = (w.setCell ⟨p, 5, none⟩ (.int .i64 (S.ops + 1))) → Calls Tryz.prog fn caps w1 fun e w2 => e = .returned (.tuple #[]) ∧ R w2 := by
      rintro w1 rfl
      obtain ⟨b2, g⟩ := cell_set (i := 5) (v := .int .i64 (S.ops + 1)) h.blk
      obtain ⟨q1, q2⟩ := disk_step (lm := lm) (fm := fm) g h.blk (ofDisk_own _ _) h.hp hBw
      refine H _ ⟨v, ms, fl, ff, ?_⟩ q1 q2
      have := h.count g (l := S.left) (o := S.ops + 1) (by simpa using b2) (by omega)
      have e : S.tick = { S with left := S.left, ops := S.ops + 1 } := by simp [SD.tick, hp]
      rw [e]
      exact this
    have HF := Lib.hid hfin
    clear hfin h H
    generalize S.left = l at *
    generalize S.ops = o at *
    go_enter Tryz.func116, Tryz.ntmps116
    go_wp2_with fail
    refine (HF.out _ rfl).mono ?_; rintro e w2 ⟨rfl, hr⟩
    have HR := Lib.hid hr
    clear hr
    go_wp2
    go_ret
    exact ⟨rfl, HR.out⟩

end Go.Proofs.YtngnmakeaniapaaGreatDoor

