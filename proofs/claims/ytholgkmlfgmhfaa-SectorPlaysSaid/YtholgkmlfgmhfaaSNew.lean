/-
  sector: begin, New, do; Ops, Waiting, Len, Cut of a disk.
-/
import Derived.Test.YtholgkmlfgmhfaaSDisk
import Derived.Test.YtholgkmlfgmhfaaSMade
import Derived.Test.YtholgkmlfgmhfaaSBox
set_option linter.unusedVariables false
set_option maxRecDepth 100000
namespace Go.Proofs.Ytholgkmlfgmhfaa
open Go.RowKit

/-- A cell of a block is stored. -/
theorem cell_set {w : World} {p i : Nat} {cs : Array Value} {t : TypeId} {v : Value} (h : w.heap[p]? = some (.cells cs t (0, 0))) :
    (w.setCell ⟨p, i, none⟩ v).heap[p]? = some (.cells (cs.setIfInBounds i v) t (0, 0)) ∧ w.grownBy (w.setCell ⟨p, i, none⟩ v) (some p) := by
  rw [setCell_eq_setRow w p i cs t (0, 0) v h]
  exact ⟨setRow_heap w p cs _ t _ h, ⟨rfl, rfl, rfl, by simp [World.setRow], fun k _ hk => setRow_other w p k _ (fun e => hk (by rw [e]))⟩⟩

theorem grown_at {w w' : World} {b i : Nat} {o : Obj} (hg : w.grownBy w' (some b)) (h : w.heap[i]? = some o) (hne : i ≠ b) : w'.heap[i]? = some o := by
  rw [hg.block i (Array.getElem?_eq_some_iff.1 h).1 (fun e => hne (Option.some.inj e))]
  exact h
theorem obj_ne {w : World} {i b : Nat} {o o' : Obj} (h : w.heap[i]? = some o) (h' : w.heap[b]? = some o') (hne : o ≠ o') : i ≠ b := by
  rintro rfl
  rw [h] at h'
  exact hne (Option.some.inj h')

theorem ofDisk_own (c : Array Value) (f : Nat × Nat) : ofDisk (.cells c 53 f) = true := by
  show ((53 : TypeId) == 53 || (53 : TypeId) == 66) = true
  decide
theorem ofDisk_write (c : Array Value) (f : Nat × Nat) : ofDisk (.cells c 66 f) = true := by
  show ((66 : TypeId) == 53 || (66 : TypeId) == 66) = true
  decide

/-- What a disk's parts have, of a world in which block b alone has changed. -/
structure DiskRest (w : World) (b : Nat) (B p lm fm : Nat) (v : Value) (ms : List (Wr × Nat)) (fl ff : Int → Option Value) (S : SD) : Prop where
  blk : p ≠ b → w.heap[p]? = some (.cells #[.int .i64 S.size, .map (some lm), v, .map (some fm), .int .i64 S.left, .int .i64 S.ops] 53 (0, 0))
  own : v.ownBlock ≠ some b → w.ownsRow B 66 2 v ms.length (wcells ms)
  sec : ∀ x ∈ ms, Sec w x.2 x.1.l
  ml : lm ≠ b → MapIs w lm fl
  mf : fm ≠ b → MapIs w fm ff
  ll : ∀ k, (fl k = none ∧ S.lasts k = zeros 512) ∨ ∃ g, fl k = some (sl g) ∧ Sec w g (S.lasts k)
  lf : ∀ k, (ff k = none ∧ found S.waits k = none) ∨ ∃ g l, ff k = some (sl g) ∧ found S.waits k = some l ∧ Sec w g l

theorem DiskIs.rest {w w' : World} {b B p lm fm : Nat} {v : Value} {ms : List (Wr × Nat)} {fl ff : Int → Option Value} {S : SD} (h : DiskIs w B p lm fm v ms fl ff S) (hg : w.grownBy w' (some b))
    {o : Obj} (hb : w.heap[b]? = some o) (ho : ofDisk o = true) : DiskRest w' b B p lm fm v ms fl ff S := by
  have hs : ∀ {g : Nat} {l : List UInt8}, Sec w g l → Sec w' g l := fun {g l} hs => grown_at hg hs (obj_ne hs hb (by rintro rfl; rw [ofDisk_u8] at ho; cases ho))
  have hm : ∀ {m : Nat} {f : Int → Option Value}, MapIs w m f → m ≠ b → MapIs w' m f := fun {m f} hm hne => hm.block (hg.block m hm.lt (fun e => hne (Option.some.inj e)))
  refine ⟨fun hne => grown_at hg h.blk hne, fun hne => World.ownsRow.kept h.own hg (.inr hne), fun x hx => hs (h.sec x hx), hm h.ml, hm h.mf, fun k => ?_, fun k => ?_⟩
  · rcases h.ll k with h | ⟨g, h, h'⟩
    · exact .inl h
    · exact .inr ⟨g, h, hs h'⟩
  · rcases h.lf k with h | ⟨g, l, h, h1, h'⟩
    · exact .inl h
    · exact .inr ⟨g, l, h, h1, hs h'⟩

/-- Another block than the disk's own. -/
theorem DiskIs.lm_ne {w : World} {B p lm fm : Nat} {v : Value} {ms : List (Wr × Nat)} {fl ff : Int → Option Value} {S : SD} (h : DiskIs w B p lm fm v ms fl ff S) : lm ≠ p ∧ fm ≠ p ∧ v.ownBlock ≠ some p ∧ v.ownBlock ≠ some lm ∧ v.ownBlock ≠ some fm := by
  obtain ⟨_, _, hl, _⟩ := h.ml
  obtain ⟨_, _, hf, _⟩ := h.mf
  refine ⟨obj_ne hl h.blk (by simp), obj_ne hf h.blk (by simp), ?_⟩
  rcases h.own.2 with ⟨rfl, _⟩ | ⟨g, cap, cur, rfl, _, hg, _⟩
  · exact ⟨by simp [Value.ownBlock], by simp [Value.ownBlock], by simp [Value.ownBlock]⟩
  · refine ⟨fun e => obj_ne hg h.blk ?_ (Option.some.inj e), fun e => obj_ne hg hl (by simp) (Option.some.inj e), fun e => obj_ne hg hf (by simp) (Option.some.inj e)⟩
    intro e
    simp at e

/-- The counters of a disk are set. -/
theorem DiskIs.count {w w' : World} {B p lm fm : Nat} {v : Value} {ms : List (Wr × Nat)} {fl ff : Int → Option Value} {S : SD} (h : DiskIs w B p lm fm v ms fl ff S) (hg : w.grownBy w' (some p)) {l o : Int}
    (hb : w'.heap[p]? = some (.cells #[.int .i64 S.size, .map (some lm), v, .map (some fm), .int .i64 l, .int .i64 o] 53 (0, 0))) (ho : S.ops ≤ o) :
    DiskIs w' B p lm fm v ms fl ff { S with left := l, ops := o } := by
  obtain ⟨r1, r2, r3, r4, r5, r6, r7⟩ := h.rest hg h.blk (ofDisk_own _ _)
  obtain ⟨n1, n2, n3, _⟩ := h.lm_ne
  obtain ⟨k1, k2, k3, k4, k5, k6⟩ := h.ok
  exact ⟨hb, h.hp, h.lb, h.fb, h.ne, h.ws, r2 n3, r3, r4 n1, r5 n2, r6, r7, ⟨k1, k2, k3, k4, by show ((S.waits.length : Nat) : Int) ≤ o; omega, by show 0 ≤ o; omega⟩⟩

theorem disk_step {w w' : World} {B b : Nat} (hg : w.grownBy w' (some b)) {o : Obj} (hb : w.heap[b]? = some o) (ho : ofDisk o = true) (hB : B ≤ b) (hBw : B ≤ w.heap.size) :
    Below B w w' ∧ Keeps ofDisk w w' :=
  ⟨(Below.refl B w).grown hg hBw fun k hk => by cases hk; exact hB, Keeps.grown hg fun i o' hi h => by cases hi; rw [hb] at h; cases h; exact ho⟩

/-- A disk that was just made. -/
theorem DiskIs.begun {w' : World} {B p lm fm : Nat} {fl : Int → Option Value} {L : Int → List UInt8} {n : Int} (hp : w'.heap[p]? = some (.cells #[.int .i64 n, .map (some lm), .slice none 0 0, .map (some fm), .int .i64 (-1), .int .i64 0] 53 (0, 0)))
    (h1 : B ≤ p) (h2 : B ≤ lm) (h3 : B ≤ fm) (h4 : lm ≠ fm) (hm : MapIs w' lm fl) (hf : w'.heap[fm]? = some (.map #[] 0)) (hl : ∀ k, (fl k = none ∧ L k = zeros 512) ∨ ∃ g, fl k = some (sl g) ∧ Sec w' g (L k))
    (n1 : 1 ≤ n) (n2 : n ≤ 4096) (hL : ∀ k, (L k).length = 512) : DiskIs w' B p lm fm (.slice none 0 0) [] fl (fun _ => none) ⟨n, L, [], -1, 0⟩ :=
  ⟨hp, h1, h2, h3, h4, rfl, World.ownsRow_nil w' B _ _, by simp, hm, MapIs.new hf, hl, fun k => .inl ⟨rfl, rfl⟩, ⟨n1, n2, hL, by simp, by simp, by simp⟩⟩

def NewPost (w : World) (B : Nat) (S : SD) (e : Ending) (w' : World) : Prop := ∃ p, e = .returned (.pointer (some ⟨p, 0, none⟩)) ∧ DiskAt w' B p S ∧ Below w.heap.size w w' ∧ w.heap.size ≤ p

set_option maxHeartbeats 800000 in
theorem begin_any {w : World} {B lm : Nat} {fl : Int → Option Value} {L : Int → List UInt8} {n : Int} (hm : MapIs w lm fl) (hB : B ≤ lm) (hl : ∀ k, (fl k = none ∧ L k = zeros 512) ∨ ∃ g, fl k = some (sl g) ∧ Sec w g (L k)) (n1 : 1 ≤ n) (n2 : n ≤ 4096) (hL : ∀ k, (L k).length = 512) :
    Calls Try.prog 24 #[.int .i64 n, .map (some lm)] w (NewPost w B ⟨n, L, [], -1, 0⟩) := by
  have hfin : ∀ w', w' = ((w.alloc (.map #[] 0)).alloc (.cells #[.int .i64 n, .map (some lm), .slice none 0 0, .map (some w.heap.size), .int .i64 (-1), .int .i64 0] 53)) → DiskAt w' B (w.heap.size + 1) ⟨n, L, [], -1, 0⟩ ∧ Below w.heap.size w w' := by
    rintro w' rfl
    have hb := sbox2 w (.map #[] 0) (.cells #[.int .i64 n, .map (some lm), .slice none 0 0, .map (some w.heap.size), .int .i64 (-1), .int .i64 0] 53)
    have hlt := hm.lt
    have e1 : (w.alloc (.map #[] 0)).heap.size = w.heap.size + 1 := by simp
    refine ⟨⟨lm, w.heap.size, _, [], fl, _, DiskIs.begun ?_ (by omega) hB (by omega) (by omega) (hm.block (hb.block _ hlt)) ?_ ?_ n1 n2 hL⟩, hb⟩
    · have := heap_alloc_new (w.alloc (.map #[] 0)) (.cells #[.int .i64 n, .map (some lm), .slice none 0 0, .map (some w.heap.size), .int .i64 (-1), .int .i64 0] 53)
      rw [e1] at this
      exact this
    · rw [Below.heap_alloc _ _ _ (by omega)]
      exact heap_alloc_new w _
    · intro k
      rcases hl k with h | ⟨g, h, h'⟩
      · exact .inl h
      · exact .inr ⟨g, h, h'.below hb⟩
  have HF := Lib.hid hfin
  clear hfin hm hl
  have hmm := @run_makeMap Try.prog
  go_enter Try.func24, Try.ntmps24
  go_wp2
  go_ret
  exact ⟨_, rfl, (HF.out _ rfl).1, (HF.out _ rfl).2, by simp⟩

def NewPost2 (w : World) (n : Int) (e : Ending) (w' : World) : Prop := ∃ p, e = .returned (.tuple #[.pointer (some ⟨p, 0, none⟩), .int .i64 0]) ∧ DiskAt w' w.heap.size p (SD.new n) ∧ Below w.heap.size w w' ∧ w.heap.size ≤ p

set_option maxHeartbeats 800000 in
theorem new_yes {w : World} {n : Int} (n1 : 1 ≤ n) (n2 : n ≤ 4096) : Calls Try.prog 9 #[.int .i64 n] w (NewPost2 w n) := by
  have HB : Hid (Calls Try.prog 24 #[.int .i64 n, .map (some w.heap.size)] (w.alloc (.map #[] 0)) (NewPost (w.alloc (.map #[] 0)) w.heap.size (SD.new n))) :=
    Lib.hid (begin_any (MapIs.new (heap_alloc_new w _)) (Nat.le_refl _) (fun k => .inl ⟨rfl, rfl⟩) n1 n2 (fun k => zeros_length 512))
  have hmm := @run_makeMap Try.prog
  go_enter Try.func9, Try.ntmps9
  go_wp2_with fail
  refine HB.out.mono ?_; rintro e w1 ⟨p, rfl, hd, hb, hp⟩
  have HD := Lib.hid hd
  have HB1 := Lib.hid ((sbox1 w _).trans (hb.mono (sbox1 w _).size))
  have HP := Lib.hid hp
  clear hd hb hp
  go_wp2
  go_ret2
  exact ⟨p, rfl, HD.out, HB1.out, by have := HP.out; simp at this; omega⟩

set_option maxHeartbeats 400000 in
theorem new_no {w : World} {n : Int} (hn : n < 1 ∨ 4096 < n) : Calls Try.prog 9 #[.int .i64 n] w fun e w' => e = .returned (.tuple #[.pointer none, .int .i64 2]) ∧ Below w.heap.size w w' := by
  by_cases h1 : n < 1
  · have d1 : decide (n < 1) = true := decide_eq_true h1
    clear hn
    go_enter Try.func9, Try.ntmps9
    go_wp2
    go_ret2
    exact ⟨rfl, Below.refl _ _⟩
  · have h2 : 4096 < n := by omega
    have d1 : decide (n < 1) = false := decide_eq_false h1
    have d2 : decide (4096 < n) = true := decide_eq_true h2
    clear hn
    go_enter Try.func9, Try.ntmps9
    go_wp2
    go_ret2
    exact ⟨rfl, Below.refl _ _⟩

end Go.Proofs.Ytholgkmlfgmhfaa
