/-
  The document's disk: done, New, Read.
-/
import Derived.Test.YtholgkmlfgmhfaaSRef
import Derived.LoopTactic
set_option linter.unusedVariables false
set_option maxRecDepth 100000
namespace Go.Proofs.Ytholgkmlfgmhfaa
open Go.RowKit

theorem ref_step {w w' : World} {B b : Nat} (hg : w.grownBy w' (some b)) {o : Obj} (hb : w.heap[b]? = some o) (ho : ofRef o = true) (hB : B ≤ b) (hBw : B ≤ w.heap.size) : Below B w w' ∧ Keeps ofRef w w' :=
  ⟨(Below.refl B w).grown hg hBw fun k hk => by cases hk; exact hB, Keeps.grown hg fun i o' hi h => by cases hi; rw [hb] at h; cases h; exact ho⟩

theorem RefIs.count {w w' : World} {B p : Nat} {lv wv : Value} {Ls : List Bl} {ms : List (Int × Bl)} {S : SD} (h : RefIs w B p lv wv Ls ms S) (hg : w.grownBy w' (some p)) {l o : Int}
    (hb : w'.heap[p]? = some (.cells #[lv, wv, .int .i64 l, .int .i64 o] 42 (0, 0))) (ho : S.ops ≤ o) : RefIs w' B p lv wv Ls ms { S with left := l, ops := o } := by
  obtain ⟨h1, h2, h3, h4, h5, h6, h7, h8, h9, h10⟩ := h
  have hk : Keeps ofRef w w' := Keeps.grown hg fun i o' hi h => by cases hi; rw [h1] at h; cases h; exact ofRef_own _ _
  obtain ⟨k1, k2, k3, k4, k5, k6⟩ := h10
  exact ⟨hb, h2, h3, row_on h4 fun g c hg' _ => grown_at hg hg' (obj_ne hg' h1 (by intro e; simp at e)), row_on h5 fun g c hg' _ => grown_at hg hg' (obj_ne hg' h1 (by intro e; simp at e)), fun x hx => ⟨(h6 x hx).1.keeps hk ofRef_u8, (h6 x hx).2⟩, fun x hx => ⟨(h7 x hx).1.keeps hk ofRef_u8, (h7 x hx).2⟩, h8, h9,
    ⟨k1, k2, k3, k4, by show ((S.waits.length : Nat) : Int) ≤ o; omega, by show 0 ≤ o; omega⟩⟩

set_option maxHeartbeats 800000 in
theorem rdone_cut {w : World} {B p : Nat} {S : SD} (h : RefAt w B p S) (h0 : S.left = 0) :
    Calls Try.prog 30 #[.pointer (some ⟨p, 0, none⟩)] w fun e w' => e = .returned (.bool false) ∧ w = w' := by
  obtain ⟨lv, wv, Ls, ms, h⟩ := h
  have c2 : w.cell? ⟨p, 2, none⟩ = some (.int .i64 0) := by rw [Joins.cell_of_block h.blk, ← h0]; rfl
  clear h h0
  go_enter Try.func30, Try.ntmps30
  go_wp2
  go_ret
  exact ⟨rfl, rfl⟩

set_option maxHeartbeats 1600000 in
theorem rdone_any {w : World} {B p : Nat} {S : SD} (h : RefAt w B p S) (h0 : S.left ≠ 0) (hl : -1 ≤ S.left) (hu : S.left ≤ 9223372036854775807) (ho : S.ops ≤ 1000000000) :
    Calls Try.prog 30 #[.pointer (some ⟨p, 0, none⟩)] w fun e w' => e = .returned (.bool true) ∧ RefStep w w' B p S.tick := by
  have hBw := h.base
  obtain ⟨lv, wv, Ls, ms, h⟩ := h
  have o0 := h.ok.o1
  have c2 : w.cell? ⟨p, 2, none⟩ = some (.int .i64 S.left) := by rw [Joins.cell_of_block h.blk]; rfl
  have c3 : w.cell? ⟨p, 3, none⟩ = some (.int .i64 S.ops) := by rw [Joins.cell_of_block h.blk]; rfl
  have u4 : ∀ i, w.frozen? ⟨p, i, none⟩ = false := fun i => Joins.unfrozen_of_block h.blk i
  have d0 : decide (S.left = 0) = false := decide_eq_false h0
  by_cases hp : 0 < S.left
  · have hd : decide (0 < S.left) = true := decide_eq_true hp
    have hfin : ∀ w1, w1 = ((w.setCell ⟨p, 2, none⟩ (.int .i64 (S.left - 1))).setCell ⟨p, 3, none⟩ (.int .i64 (S.ops + 1))) → RefStep w w1 B p S.tick := by
      rintro w1 rfl
      obtain ⟨b1, g1⟩ := cell_set (i := 2) (v := .int .i64 (S.left - 1)) h.blk
      obtain ⟨b2, g2⟩ := cell_set (i := 3) (v := .int .i64 (S.ops + 1)) b1
      have g := g1.trans g2
      obtain ⟨q1, q2⟩ := ref_step g h.blk (ofRef_own _ _) h.hp hBw
      have := h.count g (l := S.left - 1) (o := S.ops + 1) (by simpa using b2) (by omega)
      have e : S.tick = { S with left := S.left - 1, ops := S.ops + 1 } := by simp [SD.tick, hp]
      rw [e]
      exact ⟨⟨lv, wv, Ls, ms, this⟩, q1, q2⟩
    have HF := Lib.hid hfin
    clear hfin h
    generalize S.left = l at *
    generalize S.ops = o at *
    go_enter Try.func30, Try.ntmps30
    go_wp2
    go_ret
    exact ⟨rfl, HF.out _ rfl⟩
  · have hd : decide (0 < S.left) = false := decide_eq_false hp
    have hfin : ∀ w1, w1 = (w.setCell ⟨p, 3, none⟩ (.int .i64 (S.ops + 1))) → RefStep w w1 B p S.tick := by
      rintro w1 rfl
      obtain ⟨b2, g⟩ := cell_set (i := 3) (v := .int .i64 (S.ops + 1)) h.blk
      obtain ⟨q1, q2⟩ := ref_step g h.blk (ofRef_own _ _) h.hp hBw
      have := h.count g (l := S.left) (o := S.ops + 1) (by simpa using b2) (by omega)
      have e : S.tick = { S with left := S.left, ops := S.ops + 1 } := by simp [SD.tick, hp]
      rw [e]
      exact ⟨⟨lv, wv, Ls, ms, this⟩, q1, q2⟩
    have HF := Lib.hid hfin
    clear hfin h
    generalize S.left = l at *
    generalize S.ops = o at *
    go_enter Try.func30, Try.ntmps30
    go_wp2
    go_ret
    exact ⟨rfl, HF.out _ rfl⟩

theorem info_bytes : (Try.prog.info? 30).map (fun i => (i.zero, i.size, i.bytes)) = some (some (.slice none 0 0), 1, 24) := by kernel_rfl

def RNewPost (w : World) (n : Int) (e : Ending) (w' : World) : Prop := ∃ p, e = .returned (.tuple #[.pointer (some ⟨p, 0, none⟩), .int .i64 0]) ∧ RefAt w' w.heap.size p (SD.new n) ∧ Below w.heap.size w w' ∧ w.heap.size ≤ p

theorem made_lists (n : Nat) : madeCells #[Value.slice none 0 0] n = ((List.replicate n (⟨none, 0, []⟩ : Bl)).map blv).toArray := by
  apply Array.ext
  · simp [madeCells]
  · intro i h1 h2
    simp [madeCells, blv, Nat.mod_one]

set_option maxHeartbeats 800000 in
theorem rnew_yes {w : World} {N : Nat} (n1 : 1 ≤ N) (n2 : N ≤ 4096) : Calls Try.prog 10 #[.int .i64 (N : Int)] w (RNewPost w N) := by
  obtain ⟨i, hi, hz0, hz1, hz2⟩ := info_parts info_bytes
  have d1 : decide ((N : Int) < 1) = false := decide_eq_false (by omega)
  have d2 : decide ((4096 : Int) < (N : Int)) = false := decide_eq_false (by omega)
  have hfin : ∀ w', w' = ((w.alloc (.cells (madeCells #[.slice none 0 0] N) 30)).alloc (.cells #[.slice (some ⟨w.heap.size, 0, none⟩) N N, .slice none 0 0, .int .i64 (-1), .int .i64 0] 42)) → RefAt w' w.heap.size (w.heap.size + 1) (SD.new N) ∧ Below w.heap.size w w' := by
    rintro w' rfl
    have e1 : (w.alloc (.cells (madeCells #[.slice none 0 0] N) 30)).heap.size = w.heap.size + 1 := by simp
    refine ⟨⟨.slice (some ⟨w.heap.size, 0, none⟩) N N, .slice none 0 0, List.replicate N ⟨none, 0, []⟩, [], ?_, by omega, by simp; rfl, ?_, World.ownsRow_nil _ _ _ _, ?_, by simp, rfl, ?_, ⟨by show (1 : Int) ≤ N; omega, by show (N : Int) ≤ 4096; omega, (fun k => zeros_length 512), (fun x hx => by cases hx), (by show (0 : Int) ≤ 0; decide), (by show (0 : Int) ≤ 0; decide)⟩⟩, sbox2 _ _ _⟩
    · have := heap_alloc_new (w.alloc (.cells (madeCells #[.slice none 0 0] N) 30)) (.cells #[.slice (some ⟨w.heap.size, 0, none⟩) N N, .slice none 0 0, .int .i64 (-1), .int .i64 0] 42)
      rw [e1] at this
      exact this
    · have hb : ((w.alloc (.cells (madeCells #[.slice none 0 0] N) 30)).alloc (.cells #[.slice (some ⟨w.heap.size, 0, none⟩) N N, .slice none 0 0, .int .i64 (-1), .int .i64 0] 42)).heap[w.heap.size]? = some (.cells (madeCells #[.slice none 0 0] N) 30 (0, 0)) := by
        rw [Below.heap_alloc _ _ _ (by omega)]
        exact heap_alloc_new w _
      rw [made_lists] at hb
      rw [List.length_replicate]
      refine ⟨by simp, .inr ⟨w.heap.size, N, ((List.replicate N (⟨none, 0, []⟩ : Bl)).map blv).toArray, rfl, Nat.le_refl _, ?_, Nat.le_refl _, by unfold maxLen; omega, ?_, ?_⟩⟩
      · rw [made_lists]; exact hb
      · simp
      · simp
    · intro x hx
      obtain ⟨_, rfl⟩ := List.mem_replicate.1 hx
      exact ⟨U.nil _ _, by simp, by simp, by simp⟩
    · intro k x hx
      obtain ⟨_, rfl⟩ := List.mem_replicate.1 (List.mem_of_getElem? hx)
      rfl
  have HF := Lib.hid hfin
  clear hfin
  go_enter Try.func10, Try.ntmps10
  go_wp2_with (at_make; refine wpList_make_row _ rfl _ _ 39 rfl 30 i (.slice none 0 0) Try.underlying39 hi hz0 hz1 rfl .i64 .i64 N rfl rfl (by rw [hz2]; omega) (by omega) ?_)
  go_ret2
  exact ⟨_, rfl, (HF.out _ rfl).1, (HF.out _ rfl).2, by simp⟩

set_option maxHeartbeats 400000 in
theorem rnew_no {w : World} {n : Int} (hn : n < 1 ∨ 4096 < n) : Calls Try.prog 10 #[.int .i64 n] w fun e w' => e = .returned (.tuple #[.pointer none, .int .i64 2]) ∧ Below w.heap.size w w' := by
  by_cases h1 : n < 1
  · have d1 : decide (n < 1) = true := decide_eq_true h1
    clear hn
    go_enter Try.func10, Try.ntmps10
    go_wp2
    go_ret2
    exact ⟨rfl, Below.refl _ _⟩
  · have h2 : 4096 < n := by omega
    have d1 : decide (n < 1) = false := decide_eq_false h1
    have d2 : decide (4096 < n) = true := decide_eq_true h2
    clear hn
    go_enter Try.func10, Try.ntmps10
    go_wp2
    go_ret2
    exact ⟨rfl, Below.refl _ _⟩

end Go.Proofs.Ytholgkmlfgmhfaa
