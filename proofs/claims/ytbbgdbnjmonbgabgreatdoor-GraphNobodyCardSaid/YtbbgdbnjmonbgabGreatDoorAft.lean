/-
  order.After and the reference's After tell what is above all that begin so: contracts for the walks.
-/
import Derived.Test.YtbbgdbnjmonbgabGreatDoorBytes
import Derived.Test.YtbbgdbnjmonbgabGreatDoorOrd
import Derived.Deep.QuietTactic
import Derived.BigQuiet
import Derived.StillTailTactics
set_option linter.unusedVariables false
set_option maxRecDepth 100000
namespace Go.Proofs.YtbbgdbnjmonbgabGreatDoor
open Go.RowKit

def AftPost (w : World) (l : List UInt8) (e : Ending) (w' : World) : Prop :=
  ∃ v, e = .returned (.tuple #[v, .bool (aftOk l)]) ∧ Own w' w.heap.size v (aft l) ∧ Below w.heap.size w w'

theorem aft_no {w w' : World} {l : List UInt8} (h : aft l = [] ∧ aftOk l = false) (hb : Below w.heap.size w w') : AftPost w l (.returned (.tuple #[.slice none 0 0, .bool false])) w' :=
  ⟨_, by rw [h.2], by rw [h.1]; exact Own.nil _ _, hb⟩
theorem aft_yes {w w' : World} {l m : List UInt8} {v : Value} (h : aft l = m ∧ aftOk l = true) (ho : Own w' w.heap.size v m) (hb : Below w.heap.size w w') : AftPost w l (.returned (.tuple #[v, .bool true])) w' :=
  ⟨_, by rw [h.2], by rw [h.1]; exact ho, hb⟩

set_option maxHeartbeats 800000 in
theorem after_any {w : World} {p : Option Addr} {l : List UInt8} (hl : Bs w p l) (n c : Nat) (hn : n = l.length) (hnc : n ≤ c) (hc : c ≤ 9223372036854775807) (hlen : l.length ≤ 100000) :
    Calls Tryz.prog 106 #[.slice p n c] w (AftPost w l) := by
  obtain rfl := hn
  go_enter Tryz.func106, Tryz.ntmps106
  go_wp2
  go_loop [4] (fun i => ∃ k : Nat, i = .int .i64 k ∧ k ≤ l.length ∧ cutN l l.length = cutN l k) (fun i => (intOf i).toNat)
  case atStart => exact ⟨l.length, rfl, by omega, rfl⟩
  case round =>
    obtain ⟨k, rfl, hk, hcut⟩ := hrel
    cases k with
    | zero =>
      have HZ := Lib.hid (aft_zero (l := l) hcut)
      clear hcut
      go_wp2
      go_ret2
      exact aft_no HZ.out (Below.refl _ _)
    | succ j =>
      have hlj : j < l.length := by omega
      obtain ⟨b, o, rfl, hb, hc1⟩ := hl.at (by omega)
      have hx := hc1 j hlj
      have hgd : l.getD j 0 = l[j] := by simp [List.getD, hlj]
      by_cases hff : l[j].toNat = 255
      · have hff' : ((l[j].toNat : Int) == 255) = true := by simp [hff]
        have hcut2 : cutN l (j + 1) = cutN l j := cutN_yes (by rw [hgd, ← UInt8.toNat_inj]; exact hff)
        have HC := Lib.hid (hcut.trans hcut2)
        clear hcut hcut2 hff hgd hc1
        go_wp2
        go_round
        case rel => exact ⟨j, by go_num, by omega, HC.out⟩
        case measure => simp [intOf]
      · have hff' : ((l[j].toNat : Int) == 255) = false := by rw [beq_eq_false_iff_ne]; omega
        have hcut2 : cutN l (j + 1) = j + 1 := cutN_no (by rw [hgd, ne_eq, ← UInt8.toNat_inj]; exact hff)
        have h255 := l[j].toNat_lt
        have HA := aft_succ (hcut.trans hcut2)
        rw [hgd] at HA
        have HA := Lib.hid HA
        have hsum : ((l[j] + 1).toNat : Int) = (l[j].toNat : Int) + 1 := by
          rw [UInt8.toNat_add]
          have h1 : (1 : UInt8).toNat = 1 := rfl
          rw [h1]
          omega
        have HS := Lib.hid hsum
        have HG := Lib.hid hgd
        have hlt : (l[j].toNat : Int) < 255 := by omega
        have hsrc : Bs w (some ⟨b, o, none⟩) (l.take (j + 1)) := hl.take _
        have hlen2 : (l.take (j + 1)).length = j + 1 := by simp; omega
        have HL := Lib.hid hlen2
        have hz : ((j : Int) + 1 == 0) = false := by rw [beq_eq_false_iff_ne]; omega
        clear hcut hcut2 hff hgd hc1 hsum h255 hlen2
        have q1 : 0 ≤ (j : Int) + 1 := by omega
        have q2 : ((j : Int) + 1).toNat = j + 1 := by omega
        have q3 : (j : Int) + 1 ≤ (c : Int) := by omega
        have q4 : j + 1 ≤ c := by omega
        go_wp2
        go_still_tail 5, (by kernel_rfl)
        change wpList _ _ _ _ _ w.drew
        refine app_full rfl _ _ rfl (l := []) (m := l.take (j + 1)) (q := some ⟨b, o, none⟩) (k := 0) (k' := 0) rfl rfl rfl (Bs.nil _ _) HL.out.symm rfl hsrc.drew (by rw [HL.out]; omega) (by rw [HL.out]; simp; omega) ?_
        intro v' w1 hown hgrow
        try simp only [List.nil_append] at hown
        have hbel : Below w.heap.size w w1 := (Below.drew (Below.refl w.heap.size w)).trans hgrow
        obtain ⟨g, c', rfl, hc1', hc', hg1, hg2, hcells, hfz⟩ := hown.some HL.out.symm (by omega)
        have hcj := hcells j (by rw [HL.out]; omega)
        simp only [List.getElem_take] at hcj
        have hfj := hfz j
        have HB := Lib.hid hbel
        have HO := Lib.hid hown
        clear hbel hown hgrow hcells hfz hsrc
        go_wp2
        go_ret2
        exact aft_yes HA.out ((HO.out.stored HL.out.symm j (l[j] + 1) HS.out.symm).le (Nat.le_refl _)) (HB.out.setCell (p := ⟨g, j, none⟩) hg1 _)

end Go.Proofs.YtbbgdbnjmonbgabGreatDoor
