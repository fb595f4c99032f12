/-
  value.Read: its contract.
-/
import Derived.Test.YtckmajcophpddaaDoorVRdD
set_option linter.unusedVariables false
set_option linter.unusedSimpArgs false
set_option maxRecDepth 100000
namespace Go.Proofs.YtckmajcophpddaaDoor
open Go.RowKit

/-- What Read tells. -/
def RdOut (w : World) (n : Nat) (e : Ending) (w' : World) : Except Int ((At × List At) × List UInt8) → Prop
  | .ok ((a, ls), m) => (∃ v, e = .returned (.tuple #[.agg #[.int .i64 a.k, .int .i64 a.n, .float .f64 a.f, .string a.s, v], .int .i64 ((n : Int) - (m.length : Int)), .int .i64 0]) ∧ AOwn w' w.heap.size v ls) ∧ Below w.heap.size w w'
  | .error x => e = .returned (.tuple #[.agg #[.int .i64 0, .int .i64 0, .float .f64 0, .string ⟨#[]⟩, .slice none 0 0], .int .i64 0, .int .i64 x]) ∧ Below w.heap.size w w'

theorem listR_len : ∀ (k : Nat) (acc : List At) (l : List UInt8) {ls : List At} {m : List UInt8}, listR k acc l = .ok (ls, m) → m.length ≤ l.length
  | 0, _, _, _, _, h => by cases h
  | k + 1, acc, l, ls, m, h => by
    rcases ha : atomR l with x | ⟨a, n⟩
    · rw [listR_bad _ _ ha] at h; cases h
    · have h1 := atomR_len ha
      cases h2 : Lib.hasPrefix n [93]
      · cases h3 : Lib.hasPrefix n [44, 32]
        · rw [listR_form _ _ ha h2 h3] at h; cases h
        · rw [listR_next _ _ ha h2 h3] at h
          exact Nat.le_trans (listR_len k _ _ h) (Nat.le_trans (Lib.trimPrefix_le _ _) h1)
      · rw [listR_end _ _ ha h2] at h
        cases h
        exact Nat.le_trans (Lib.trimPrefix_le _ _) h1
theorem listsR_len {l m : List UInt8} {ls : List At} (h : listsR l = .ok (ls, m)) : m.length ≤ l.length := by
  unfold listsR at h
  split at h
  · cases h; exact Lib.trimPrefix_le _ _
  · exact listR_len _ _ _ h
theorem valueR_len {l m : List UInt8} {p : At × List At} (h : valueR l = .ok (p, m)) : m.length ≤ l.length := by
  unfold valueR at h
  split at h
  · refine map_len ?_ ?_ h
    · intro p; rfl
    · intro b k hk; exact Nat.le_trans (listsR_len hk) (Lib.trimPrefix_le _ _)
  · refine map_len ?_ ?_ h
    · intro p; rfl
    · intro b k hk; exact atomR_len hk

def Box1 (w : World) (A : Nat) (t : TypeId) : Prop := w.heap[A]? = some (.cells #[.int .i64 0] t (0, 0))
theorem Box1.kept {w w' : World} {A b : Nat} {t : TypeId} (h : Box1 w A t) (hg : w.grownBy w' (some b)) (hne : A ≠ b) : Box1 w' A t :=
  (hg.block A (Array.getElem?_eq_some_iff.1 h).1 (fun e => hne (Option.some.inj e))).trans h
theorem Box1.cells {w : World} {A : Nat} {t : TypeId} (h : Box1 w A t) : w.cell? ⟨A, 0, none⟩ = some (.int .i64 0) ∧ w.frozen? ⟨A, 0, none⟩ = false := ⟨Joins.cell_of_block h 0, Joins.unfrozen_of_block h 0⟩

set_option maxHeartbeats 4000000 in
theorem read_any {w : World} (hW : RW w) (s : ByteArray) (hl : s.size ≤ 281474976710656) :
    Calls Tryd.prog 5 #[.string s] w fun e w' => RdOut w s.size e w' (valueR s.data.toList) := by
  have hst := store_flt
  have hmf : ∀ (fn : Fn) (first cap : Array Value) (w : World), (Instr.makeFunc fn first cap).run Tryd.prog w = .ok (.func fn first cap) w := fun _ _ _ _ => rfl
  have HW := Lib.hid hW
  have HL := Lib.hid hl
  obtain ⟨W, hW0⟩ : ∃ W, W = (((w.alloc (.cells #[.int .i64 0, .int .i64 0, .float .f64 0, .string ⟨#[]⟩, .slice none 0 0] 27)).alloc (.cells #[.int .i64 0] 3)).alloc (.cells #[.int .i64 0] 28)).alloc (.cells #[.string s] 38) := ⟨_, rfl⟩
  have HSZ : Hid (W.heap.size = w.heap.size + 4) := Lib.hid (by rw [hW0]; simp)
  have HBW : Hid (Below w.heap.size w W) := Lib.hid (by rw [hW0]; exact ((((Below.refl _ _).alloc (Nat.le_refl _) _).alloc (by simp) _).alloc (by simp; omega) _).alloc (by simp; omega) _)
  have HA0 : Hid (VBx W w.heap.size) := Lib.hid (by
    rw [hW0]; unfold VBx
    rw [Below.heap_alloc _ _ _ (by first | (simp; done) | (simp; omega)), Below.heap_alloc _ _ _ (by first | (simp; done) | (simp; omega)), Below.heap_alloc _ _ _ (by first | (simp; done) | (simp; omega))]
    exact heap_alloc_new w _)
  have HB0 : Hid (Box1 W (w.heap.size + 1) 3) := Lib.hid (by
    rw [hW0]; unfold Box1
    rw [Below.heap_alloc _ _ _ (by first | (simp; done) | (simp; omega)), Below.heap_alloc _ _ _ (by first | (simp; done) | (simp; omega))]
    have := heap_alloc_new (w.alloc (.cells #[.int .i64 0, .int .i64 0, .float .f64 0, .string ⟨#[]⟩, .slice none 0 0] 27)) (.cells #[.int .i64 0] 3)
    simpa using this)
  have HC0 : Hid (Box1 W (w.heap.size + 1 + 1) 28) := Lib.hid (by
    rw [hW0]; unfold Box1
    rw [Below.heap_alloc _ _ _ (by simp)]
    have := heap_alloc_new ((w.alloc (.cells #[.int .i64 0, .int .i64 0, .float .f64 0, .string ⟨#[]⟩, .slice none 0 0] 27)).alloc (.cells #[.int .i64 0] 3)) (.cells #[.int .i64 0] 28)
    simpa using this)
  have HD0 : Hid (Rd W (w.heap.size + 1 + 1 + 1) s.data.toList) := Lib.hid (by
    rw [hW0]; unfold Rd
    have := heap_alloc_new (((w.alloc (.cells #[.int .i64 0, .int .i64 0, .float .f64 0, .string ⟨#[]⟩, .slice none 0 0] 27)).alloc (.cells #[.int .i64 0] 3)).alloc (.cells #[.int .i64 0] 28)) (.cells #[.string s] 38)
    simpa using this)
  have HW0 : Hid (RW W) := Lib.hid (hW.below HBW.out)
  have HG5 : Hid (5 < w.heap.size + 1 + 1 + 1) := Lib.hid (by have := hW.lt; omega)
  have C := Lib.hid (value_any HW0.out HG5.out HD0.out hl)
  clear hW hl
  go_enter_defers Tryd.func5, Tryd.ntmps5
  go_wp2_with fail
  rw [← hW0]
  replace hW0 := Lib.hid hW0
  rcases hv : valueR s.data.toList with x | ⟨⟨⟨k0, n0, f0, s0⟩, ls⟩, m⟩
  · rw [hv] at C
    have HV := Lib.hid hv
    clear hv
    refine C.out.mono ?_
    rintro e w2 ⟨rfl, hg2⟩
    have HG2 := Lib.hid hg2
    obtain ⟨⟨g0, f0'⟩, ⟨g1, f1'⟩, ⟨g2, f2'⟩, ⟨g3, f3'⟩, ⟨g4, f4'⟩⟩ := (HA0.out.kept hg2 (by omega)).cells
    obtain ⟨gb, fb⟩ := (HB0.out.kept hg2 (by omega)).cells
    obtain ⟨gc, fc⟩ := (HC0.out.kept hg2 (by omega)).cells
    have HB2 := Lib.hid (HBW.out.grown hg2 HBW.out.size (fun k hk => by cases hk; omega))
    clear hg2
    go_wp2
    refine leaves_cons (f := 10) (args := #[.pointer (some ⟨w.heap.size, 0, none⟩), .pointer (some ⟨w.heap.size + 1, 0, none⟩), .pointer (some ⟨w.heap.size + 1 + 1, 0, none⟩)]) (by simp) (by simp [go_sem]) ?_
    refine (catch_panicking x [] w2 (by omega) (by omega) (by omega) g0 g1 g2 g3 g4 f0' f1' f2' f3' f4' gb fb gc fc).mono ?_
    rintro e u' w3 ⟨rfl, rfl, rfl⟩
    simp [Leaves, settle, results, Tryd.results5, go_sem, g0, g1, g2, g3, g4, gb, gc]
    rw [HV.out]
    exact ⟨rfl, (((five_below HB2.out (Nat.le_refl _) _ _ _ _ _).setCell (p := ⟨w.heap.size + 1, 0, none⟩) (Nat.le_succ _) _).setCell (p := ⟨w.heap.size + 1 + 1, 0, none⟩) (by show w.heap.size ≤ w.heap.size + 1 + 1; omega) _).drew⟩
  · rw [hv] at C
    have HV := Lib.hid hv
    clear hv
    refine C.out.mono ?_
    rintro e w2 ⟨⟨v, rfl, ho⟩, hr2, hg2⟩
    obtain ⟨n, hn⟩ : ∃ n, n = ls.length := ⟨_, rfl⟩
    obtain ⟨p, c, rfl, _, _, _⟩ := ho.form hn
    have HO := Lib.hid ho
    have HG2 := Lib.hid hg2
    have HB2 := Lib.hid (HBW.out.grown hg2 HBW.out.size (fun k hk => by cases hk; omega))
    obtain ⟨⟨g0, f0'⟩, ⟨g1, f1'⟩, ⟨g2, f2'⟩, ⟨g3, f3'⟩, ⟨g4, f4'⟩⟩ := (HA0.out.kept hg2 (by omega)).cells
    obtain ⟨gb, fb⟩ := (HB0.out.kept hg2 (by omega)).cells
    obtain ⟨gc, fc⟩ := (HC0.out.kept hg2 (by omega)).cells
    have gd := hr2.cell
    have hmz : (⟨m.toArray⟩ : ByteArray).size = m.length := ba_size m
    obtain ⟨t, ht⟩ : ∃ t, t = (⟨m.toArray⟩ : ByteArray) := ⟨_, rfl⟩
    rw [← ht] at gd hmz
    clear hg2 ho hn hr2 ht
    have hwr : wrap64 ((s.size : Int) - (m.length : Int)) = (s.size : Int) - (m.length : Int) := by
      have h1 := valueR_len HV.out
      have h2 := HL.out
      have h3 : s.data.toList.length = s.size := rfl
      unfold wrap64
      omega
    obtain ⟨w3, hw3⟩ : ∃ x, x = ((((w2.setCell ⟨w.heap.size, 0, none⟩ (.int .i64 k0)).setCell ⟨w.heap.size, 1, none⟩ (.int .i64 n0)).setCell ⟨w.heap.size, 2, none⟩ (.float .f64 f0)).setCell ⟨w.heap.size, 3, none⟩ (.string s0)).setCell ⟨w.heap.size, 4, none⟩ (.slice p n c) := ⟨_, rfl⟩
    have HF : Hid ((w3.cell? ⟨w.heap.size, 0, none⟩ = some (.int .i64 k0) ∧ w3.cell? ⟨w.heap.size, 1, none⟩ = some (.int .i64 n0) ∧ w3.cell? ⟨w.heap.size, 2, none⟩ = some (.float .f64 f0) ∧ w3.cell? ⟨w.heap.size, 3, none⟩ = some (.string s0) ∧ w3.cell? ⟨w.heap.size, 4, none⟩ = some (.slice p n c)) ∧
      (w3.frozen? ⟨w.heap.size, 0, none⟩ = false ∧ w3.frozen? ⟨w.heap.size, 1, none⟩ = false ∧ w3.frozen? ⟨w.heap.size, 2, none⟩ = false ∧ w3.frozen? ⟨w.heap.size, 3, none⟩ = false ∧ w3.frozen? ⟨w.heap.size, 4, none⟩ = false) ∧
      (w3.cell? ⟨w.heap.size + 1, 0, none⟩ = some (.int .i64 0) ∧ w3.frozen? ⟨w.heap.size + 1, 0, none⟩ = false) ∧ (w3.cell? ⟨w.heap.size + 1 + 1, 0, none⟩ = some (.int .i64 0) ∧ w3.frozen? ⟨w.heap.size + 1 + 1, 0, none⟩ = false) ∧ w3.cell? ⟨w.heap.size + 1 + 1 + 1, 0, none⟩ = some (.string t)) := Lib.hid (by
        subst hw3
        simp [go_sem, g0, g1, g2, g3, g4, f0', f1', f2', f3', f4', gb, fb, gc, fc, gd])
    have HB3 : Hid (Below w.heap.size w w3) := Lib.hid (by rw [hw3]; exact five_below HB2.out (Nat.le_refl _) _ _ _ _ _)
    have h1 : w.heap.size < W.heap.size := by have := HSZ.out; omega
    have h2 : w.heap.size + 1 < W.heap.size := by have := HSZ.out; omega
    have h3 : w.heap.size + 1 + 1 < W.heap.size := by have := HSZ.out; omega
    have HO3 : Hid (AOwn w3 W.heap.size (.slice p n c) ls) := Lib.hid (by
      rw [hw3]
      exact ((((HO.out.far (p := ⟨w.heap.size, 0, none⟩) h1 _).far (p := ⟨w.heap.size, 1, none⟩) h1 _).far (p := ⟨w.heap.size, 2, none⟩) h1 _).far (p := ⟨w.heap.size, 3, none⟩) h1 _).far (p := ⟨w.heap.size, 4, none⟩) h1 _)
    have HX : Hid (w.heap.size < W.heap.size ∧ w.heap.size + 1 < W.heap.size ∧ w.heap.size + 1 + 1 < W.heap.size) := Lib.hid ⟨h1, h2, h3⟩
    replace hw3 := Lib.hid hw3
    clear h1 h2 h3
    go_wp2_with fail
    rw [← hw3.out]
    clear g0 g1 g2 g3 g4 f0' f1' f2' f3' f4' gb fb gc fc gd
    obtain ⟨⟨g0, g1, g2, g3, g4⟩, ⟨f0', f1', f2', f3', f4'⟩, ⟨gb, fb⟩, ⟨gc, fc⟩, gd⟩ := HF.out
    go_region
    go_wp2
    refine leaves_cons (f := 10) (args := #[.pointer (some ⟨w.heap.size, 0, none⟩), .pointer (some ⟨w.heap.size + 1, 0, none⟩), .pointer (some ⟨w.heap.size + 1 + 1, 0, none⟩)]) (by simp) (by simp [go_sem]) ?_
    refine (catch_idle _ _ _ _).mono ?_
    rintro e u' w4 ⟨rfl, rfl, rfl⟩
    simp [Leaves, settle, results, Tryd.results5, go_sem, g0, g1, g2, g3, g4, gb, gc]
    rw [HV.out]
    refine ⟨⟨_, rfl, ?_⟩, (((five_below HB3.out (Nat.le_refl _) _ _ _ _ _).setCell (p := ⟨w.heap.size + 1, 0, none⟩) (Nat.le_succ _) _).setCell (p := ⟨w.heap.size + 1 + 1, 0, none⟩) (by show w.heap.size ≤ w.heap.size + 1 + 1; omega) _).drew⟩
    obtain ⟨h1, h2, h3⟩ := HX.out
    have h := ((((((HO3.out.far (p := ⟨w.heap.size, 0, none⟩) h1 (.int .i64 k0)).far (p := ⟨w.heap.size, 1, none⟩) h1 (.int .i64 n0)).far (p := ⟨w.heap.size, 2, none⟩) h1 (.float .f64 f0)).far (p := ⟨w.heap.size, 3, none⟩) h1 (.string s0)).far (p := ⟨w.heap.size, 4, none⟩) h1 (.slice p n c)).far (p := ⟨w.heap.size + 1, 0, none⟩) h2 (.int .i64 ((s.size : Int) - (m.length : Int)))).far (p := ⟨w.heap.size + 1 + 1, 0, none⟩) h3 (.int .i64 0)
    have k := h.below (Below.drew (Below.refl _ _))
    exact k.le (Nat.le_of_lt h1)

end Go.Proofs.YtckmajcophpddaaDoor
