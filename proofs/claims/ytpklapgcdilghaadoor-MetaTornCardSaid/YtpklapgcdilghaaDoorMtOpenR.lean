/-
  The reference's Open of layer 8: contracts for the walks.
-/
import Derived.Test.YtpklapgcdilghaaDoorMtOpen
set_option linter.unusedVariables false
set_option maxRecDepth 100000
namespace Go.Proofs.YtpklapgcdilghaaDoor
open Go.RowKit

def numI (v : Nat) : Int := if v ≤ 1152921504606846976 then (v : Int) else -1
theorem numI_low {v : Nat} (h : v ≤ 1152921504606846976) : numI v = v := if_pos h
theorem numI_next (v : Nat) : MNext (numI v) ↔ MNext v := by
  unfold numI MNext
  split <;> omega
theorem numI_root (v : Nat) : MRoot (numI v) ↔ MRoot v := by
  unfold numI MRoot
  split <;> omega
theorem numI_right (g : Int) (r n d : Nat) : MRight g (numI r) (numI n) (numI d) ↔ MRight g r n d := by
  unfold MRight
  rw [numI_next, numI_next, numI_root]

set_option maxHeartbeats 800000 in
theorem numb_any {w : World} {p : Option Addr} {l : List UInt8} (hl : Bs w p l) {c : Nat} (hn : 8 = l.length) :
    Calls Tryd.prog 23 #[.slice p 8 c] w fun e w' => e = .returned (.int .i64 (numI (leV l))) ∧ w = w' := by
  have HN := Lib.hid hn
  have HL := Lib.hid hl
  clear hl hn
  go_enter Tryd.func23, Tryd.ntmps23
  go_wp2
  go_loop [3, 4] (fun s i => ∃ j : Nat, i = .int .i64 ((j : Int) - 1) ∧ j ≤ 8 ∧ s = .int .u64 (leV (l.drop j) : Nat)) (fun _ i => (intOf i + 1).toNat)
  case atStart => exact ⟨8, rfl, by omega, by rw [List.drop_eq_nil_of_le (by have := HN.out; omega)]; rfl⟩
  case round =>
    obtain ⟨j, rfl, hj, rfl⟩ := hrel
    by_cases hjn : 0 < j
    · obtain ⟨i, rfl⟩ : ∃ i, j = i + 1 := ⟨j - 1, by omega⟩
      have hjl : i < l.length := by have := HN.out; omega
      obtain ⟨b, o, rfl, _, hcells⟩ := HL.out.at (by omega)
      have hx := hcells i hjl
      have HR := Lib.hid (leV_front hjl)
      have hcl : l[i].toNat < 256 := l[i].toNat_lt
      have hlt := leV_lt (l.drop (i + 1))
      have hb : leV (l.drop (i + 1)) < 72057594037927936 := by
        have h1 : (256 : Nat) ^ (l.drop (i + 1)).length ≤ 256 ^ 7 := Nat.pow_le_pow_right (by decide) (by rw [List.length_drop]; have := HN.out; omega)
        have h2 : (256 : Nat) ^ 7 = 72057594037927936 := by decide
        omega
      clear hcells hlt
      generalize leV (l.drop (i + 1)) = s at *
      generalize l[i].toNat = d at *
      have hi : (((i + 1 : Nat) : Int) - 1) = (i : Int) := by omega
      rw [hi]
      clear hi
      go_wp2
      go_round
      case rel => exact ⟨i, by go_num, by omega, by rw [HR.out]; go_num⟩
      case measure => simp [intOf]
    · have HJ : Hid (j = 0) := Lib.hid (by omega)
      have HR : Hid (leV (l.drop j) = leV l) := Lib.hid (by rw [HJ.out, List.drop_zero])
      have hlt := leV_lt (l.drop j)
      have hlt2 : leV (l.drop j) < 18446744073709551616 := by
        have h1 : (256 : Nat) ^ (l.drop j).length ≤ 256 ^ 8 := Nat.pow_le_pow_right (by decide) (by rw [List.length_drop]; have := HN.out; omega)
        have h2 : (256 : Nat) ^ 8 = 18446744073709551616 := by decide
        omega
      clear hlt
      by_cases hm : leV (l.drop j) ≤ 1152921504606846976
      · have HM : Hid (numI (leV l) = (leV (l.drop j) : Nat)) := Lib.hid (by rw [← HR.out]; exact numI_low hm)
        clear HR
        generalize leV (l.drop j) = s at *
        go_wp2
        go_ret
        refine ⟨ret_int ?_, rfl⟩
        rw [HM.out]
      · have HM : Hid (numI (leV l) = -1) := Lib.hid (by rw [← HR.out]; exact if_neg hm)
        clear HR
        generalize leV (l.drop j) = s at *
        go_wp2
        go_ret
        refine ⟨ret_int ?_, rfl⟩
        rw [HM.out]

set_option maxHeartbeats 1600000 in
theorem mopenR_err {w : World} {p : Option Addr} {l : List UInt8} (hl : Bs w p l) {n c : Nat} (hn : n = l.length) (hnc : n ≤ c) (hc : c ≤ 9223372036854775807) (no : Int) (h1 : -9223372036854775808 ≤ no) (h2 : no ≤ 9223372036854775807) (h : openE l no ≠ 0) :
    Calls Tryd.prog 10 #[.slice p n c, .int .i64 no] w (MOpPost w 0 0 0 0 (openE l no)) := by
  obtain ⟨W0, hW0⟩ : ∃ W0, W0 = w.alloc (.cells #[.int .i64 0, .int .i64 0, .int .i64 0, .int .i64 0] 30) := ⟨_, rfl⟩
  have HZ : Hid (Below w.heap.size w W0) := Lib.hid (by rw [hW0]; exact (Below.refl _ _).alloc (Nat.le_refl _) _)
  have HR : Hid (∀ w', Below W0.heap.size W0 w' → ∀ i, w'.cell? ⟨w.heap.size, i, none⟩ = (#[.int .i64 0, .int .i64 0, .int .i64 0, .int .i64 0] : Array Value)[i]? ∧ w'.frozen? ⟨w.heap.size, i, none⟩ = false) := Lib.hid fun w' hb i => by rw [hW0] at hb; exact mres_cell hb i
  have HC := Lib.hid (pOpenR_any (hl.below HZ.out) hn hnc hc no h1 h2)
  obtain ⟨x, hx⟩ : ∃ x, x = openE l no := ⟨_, rfl⟩
  have hx0 : x ≠ 0 := by rw [hx]; exact h
  have HP : Hid (∀ e w', OpenPost W0 l no e w' → e = .returned (.tuple #[.int .u8 0, .int .i64 0, .slice none 0 0, .int .i64 (x : Int)]) ∧ Below W0.heap.size W0 w') := Lib.hid fun e w' hp => by
    rcases hp with ⟨h1, h2, h3⟩ | ⟨h1, _⟩
    · rw [hx]; exact ⟨h2, h3⟩
    · exact absurd h1 h
  rw [← hx]
  clear hl hn hnc hc h hx
  have hx1 : ((x : Int) == 0) = false := by rw [beq_eq_false_iff_ne]; omega
  have hx2 : ((x : Int) != 0) = true := by rw [bne_iff_ne]; omega
  have hx3 : ¬ (x : Int) = 0 := by omega
  go_enter Tryd.func10, Tryd.ntmps10
  go_wp2_with fail
  rw [← hW0]
  clear hW0
  with_reducible refine HC.out.mono ?_
  intro e w1 hp
  obtain ⟨rfl, hb1⟩ := HP.out _ _ hp
  have HB1 := Lib.hid hb1
  obtain ⟨c0, z0⟩ := HR.out _ hb1 0
  obtain ⟨c1, z1⟩ := HR.out _ hb1 1
  obtain ⟨c2, z2⟩ := HR.out _ hb1 2
  obtain ⟨c3, z3⟩ := HR.out _ hb1 3
  clear hb1 hp HC HP HR
  replace c0 : w1.cell? ⟨w.heap.size, 0, none⟩ = some (.int .i64 0) := c0
  replace c1 : w1.cell? ⟨w.heap.size, 1, none⟩ = some (.int .i64 0) := c1
  replace c2 : w1.cell? ⟨w.heap.size, 2, none⟩ = some (.int .i64 0) := c2
  replace c3 : w1.cell? ⟨w.heap.size, 3, none⟩ = some (.int .i64 0) := c3
  go_wp2_with fail
  refine bodyPost_ret (v := .tuple #[.agg #[.int .i64 0, .int .i64 0, .int .i64 0, .int .i64 0], .int .i64 (x : Int)]) (by simp [results, Tryd.results10, go_sem, c0, c1, c2, c3]) rfl ⟨rfl, ?_⟩
  exact ((((HZ.out.trans (HB1.out.mono HZ.out.size)).setCell (Nat.le_refl _) _).setCell (Nat.le_refl _) _).setCell (Nat.le_refl _) _).setCell (Nat.le_refl _) _

end Go.Proofs.YtpklapgcdilghaaDoor
