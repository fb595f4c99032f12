/-
  The reference's Read of any kind; what both sides' answers say.
-/
import Derived.Test.YtigmibmebockhaaNdRefReadL
import Derived.Test.YtigmibmebockhaaNdRefReadB
import Derived.Test.YtigmibmebockhaaNdLawP
set_option linter.unusedVariables false
set_option linter.unusedSimpArgs false
set_option maxRecDepth 100000
namespace Go.Proofs.Ytigmibmebockhaa
open Go.RowKit

theorem readS_no {k : Nat} (h2 : k ≠ 2) (h3 : k ≠ 3) (b : List UInt8) : ∀ s, ¬ readS k b s := fun s h => by
  rcases (readS_kind h).1 with ⟨h, _⟩ | ⟨h, _⟩
  · exact h2 h
  · exact h3 h

set_option maxHeartbeats 1600000 in
theorem rread_any {w : World} (k : Nat) {p : Option Addr} {l : List UInt8} (hl : Bs w p l) {n c : Nat} (hn : n = l.length) (hnc : n ≤ c) (hc : c ≤ 9223372036854775807) (hz : p = none → c = 0) (h600 : n ≤ 600) :
    Calls Try.prog 10 #[.int .u8 (k : Int), .slice p n c] w (ReadPost w k l) := by
  by_cases h2 : k = 2
  · subst h2
    exact rread_leaf hl hn hnc hc hz h600
  · by_cases h3 : k = 3
    · subst h3
      exact rread_branch hl hn hnc hc hz h600
    · have HNO := Lib.hid (readS_no h2 h3 l)
      have e2 : ((k : Int) == 2) = false := by rw [beq_eq_false_iff_ne]; omega
      have e3 : ((k : Int) == 3) = false := by rw [beq_eq_false_iff_ne]; omega
      have e2' : (k == 2) = false := by rw [beq_eq_false_iff_ne]; omega
      have e3' : (k == 3) = false := by rw [beq_eq_false_iff_ne]; omega
      have hres := heap_alloc_new w (.cells #[.bool false, .slice none 0 0, .slice none 0 0, .slice none 0 0] 33)
      obtain ⟨W, hW⟩ : ∃ W, W = w.alloc (.cells #[.bool false, .slice none 0 0, .slice none 0 0, .slice none 0 0] 33) := ⟨_, rfl⟩
      have HBW : Hid (Below w.heap.size w W) := Lib.hid (by rw [hW]; exact (Below.refl _ _).alloc (Nat.le_refl _) _)
      rw [← hW] at hres
      have q0 := Joins.cell_of_block hres 0
      have q1 := Joins.cell_of_block hres 1
      have q2 := Joins.cell_of_block hres 2
      have q3 := Joins.cell_of_block hres 3
      have u0 := Joins.unfrozen_of_block hres 0
      have u1 := Joins.unfrozen_of_block hres 1
      have u2 := Joins.unfrozen_of_block hres 2
      have u3 := Joins.unfrozen_of_block hres 3
      have hRl := (Array.getElem?_eq_some_iff.1 hres).1
      have HRES := Lib.hid hres
      simp at q0 q1 q2 q3
      have i2 : ((k : Int) != 2) = true := by simp; omega
      have i3 : ((k : Int) != 3) = true := by simp; omega
      clear hl hn hz hres
      go_enter Try.func10, Try.ntmps10
      go_wp2_with fail
      rw [← hW]
      replace hW := Lib.hid hW
      go_wp2
      refine bodyPost_ret (results_cell_tmp rfl _ _ w.heap.size 33 _ (0, 0) (by kernel_rfl) (show W.heap[w.heap.size]? = _ from HRES.out) Try.underlying33 (by kernel_rfl)) rfl ?_
      exact .inr ⟨rfl, HNO.out, HBW.out⟩

/-- What was read, or the zero node. -/
def readO (k : Nat) (b : List UInt8) (s : NdS) (e : Int) : Prop := (e = 0 ∧ readS k b s) ∨ (e = 11 ∧ s = Nd.zero.s ∧ ∀ t, ¬ readS k b t)
theorem readO_one {k : Nat} {b : List UInt8} {s t : NdS} {e f : Int} (h : readO k b s e) (h' : readO k b t f) : s = t ∧ e = f := by
  rcases h with ⟨rfl, h1⟩ | ⟨rfl, rfl, h1⟩
  · rcases h' with ⟨rfl, h2⟩ | ⟨_, _, h2⟩
    · exact ⟨readS_one h1 h2, rfl⟩
    · exact absurd h1 (h2 _)
  · rcases h' with ⟨_, h2⟩ | ⟨rfl, rfl, _⟩
    · exact absurd h2 (h1 _)
    · exact ⟨rfl, rfl⟩
theorem readO_count {k : Nat} {b : List UInt8} {s : NdS} {e : Int} (h : readO k b s e) : s.count ≤ 100000 := by
  rcases h with ⟨_, h⟩ | ⟨_, rfl, _⟩
  · exact readS_count h
  · decide
theorem ReadPost.o {w w' : World} {k : Nat} {b : List UInt8} {e : Ending} (h : ReadPost w k b e w') : ∃ (n : Nd) (ec : Int), e = .returned (.tuple #[n.cell, .int .i64 ec]) ∧ n.Ok w' ∧ readO k b n.s ec ∧ Below w.heap.size w w' := by
  rcases h with ⟨n, rfl, hs, ho, hb⟩ | ⟨rfl, hs, hb⟩
  · exact ⟨n, 0, rfl, ho, .inl ⟨rfl, hs⟩, hb⟩
  · exact ⟨Nd.zero, 11, rfl, Nd.zero_ok _, .inr ⟨rfl, rfl, hs⟩, hb⟩

/-- A branch of no key and one child. -/
def oneS : NdS := ⟨false, [], [], [7]⟩
theorem oneS_right : oneS.Right := ⟨by decide, fun i k h => by simp [oneS] at h, fun h => (by cases h), fun _ => ⟨rfl, rfl, fun i hi => by obtain rfl := List.mem_singleton.1 hi; exact ⟨by decide, by decide⟩⟩, by decide⟩
theorem oneS_read : readS 3 [0, 7, 0] oneS := readS_put oneS_right
theorem readOne_any {w : World} {p : Option Addr} (hl : Bs w p [0, 7, 0]) (hz : p = none → 3 = 0) :
    Calls Try.prog 9 #[.int .u8 3, .slice p 3 3] w fun e w' => ∃ (n : Nd), e = .returned (.tuple #[n.cell, .int .i64 0]) ∧ n.Ok w' ∧ n.is = [7] ∧ Below w.heap.size w w' := by
  refine (read_any (n := 3) (c := 3) 3 hl rfl (Nat.le_refl _) (by omega) hz).mono ?_
  rintro e w' (⟨n, rfl, hs, ho, hb⟩ | ⟨_, hs, _⟩)
  · have h1 := readS_one hs oneS_read
    exact ⟨n, rfl, ho, congrArg NdS.is h1, hb⟩
  · exact absurd oneS_read (hs _)

end Go.Proofs.Ytigmibmebockhaa
