/-
  floats.Hex and the reference's: contracts for the walks.
-/
import Derived.Test.YtckmajcophpddaaDoorFTab
import Derived.RegionTactic
import Derived.StillTailTactics
import Derived.Lib.SmallJoins
set_option linter.unusedVariables false
set_option maxRecDepth 100000
namespace Go.Proofs.YtckmajcophpddaaDoor
open Go.RowKit

/-- The text of sixteen digits. -/
def hexS (c : Nat) : ByteArray := ⟨(hexK 16 c).toArray⟩

/-- The cells behind j rounds. -/
def hexC (c j : Nat) : Array Value := ((List.range 16).map fun i => Value.int .u8 (if i < j then ((dgt (c / 16 ^ (15 - i) % 16)).toNat : Int) else 0)).toArray
theorem hexC_size (c j : Nat) : (hexC c j).size = 16 := by simp [hexC]
theorem hexC_zero (c : Nat) : hexC c 0 = hexC 0 0 := by simp [hexC]
theorem hexC_set (c : Nat) {j : Nat} (hj : j < 16) : (hexC c j).setIfInBounds j (.int .u8 ((dgt (c / 16 ^ (15 - j) % 16)).toNat : Int)) = hexC c (j + 1) := by
  apply Array.ext
  · simp [hexC]
  · intro i h1 h2
    have h16 : i < 16 := by simpa [hexC_size] using h1
    rw [Array.getElem_setIfInBounds (by rw [hexC_size]; exact h16)]
    by_cases hij : j = i
    · subst hij
      simp [hexC]
    · rw [if_neg hij]
      have : (i < j + 1) = (i < j) := by rw [eq_iff_iff]; omega
      simp [hexC, this]

theorem hex_str {w : World} {g v : Nat} (h : w.heap[g]? = some (.cells (hexC v 16) 5 (0, 0))) :
    (convert 65 9 (.slice (some ⟨g, 0, none⟩) 16 16)).run Tryd.prog w = .ok (.string (hexS v)) w := by
  have hl := hexK_length 16 v
  have h1 := run_convert_bytes_back (P := Tryd.prog) w 65 9 5 ⟨g, 0, none⟩ 16 (hexK 16 v) Tryd.underlying65 Tryd.underlying5 Tryd.underlying9 (fun j hj => by
    rw [Addr.add_lit, cell_of_row w g _ _ _ _ h]
    have hj' : j < 16 := by omega
    have ha := hexK_at 16 v j hj'
    rw [List.getElem?_eq_getElem hj, Option.some.injEq] at ha
    rw [ha]
    simp [hexC, hj'])
  rw [hl] at h1
  exact h1

set_option maxHeartbeats 800000 in
theorem hex_any {w : World} (hT : Tab w) (u : Nat) (hu : u < 18446744073709551616) :
    Calls Tryd.prog 29 #[.float .f64 u] w fun e w' => e = .returned (.string (hexS (canonB u))) ∧ Below w.heap.size w w' := by
  have hmk : ∀ w, (Instr.makeSlice 65 (.int .i64 16) (.int .i64 16)).run Tryd.prog w = .ok (.slice (some ⟨w.heap.size, 0, none⟩) 16 16) (w.alloc (.cells (hexC 0 0) 5)) := fun _ => by kernel_rfl
  have HC := Lib.hid (canonBits_any (w := w) u hu)
  have HV := Lib.hid (canonB_lt hu)
  have HT := Lib.hid hT
  clear hT hu
  generalize canonB u = v at *
  go_enter Tryd.func29, Tryd.ntmps29
  go_wp2_with fail
  refine HC.out.mono ?_; rintro e w' ⟨rfl, rfl⟩
  go_wp2
  have HB := Lib.hid (hexC_zero v)
  go_loopw [12] (fun i wr => ∃ j : Nat, i = .int .i64 j ∧ j ≤ 16 ∧ wr.heap[w.heap.size]? = some (.cells (hexC v j) 5 (0, 0)) ∧ Below w.heap.size w wr) (fun i _ => 16 - (intOf i).toNat)
  case atStart => exact ⟨0, rfl, by omega, by rw [HB.out]; exact heap_alloc_new w _, (Below.refl _ _).alloc (Nat.le_refl _) _⟩
  case round =>
    obtain ⟨j, rfl, hj, hh, hb⟩ := hrel
    by_cases hlt : j < 16
    · have hd : bits BinOp.and IntKind.u64 ((v : Int) / 2 ^ ((15 - j) * 4)) 15 = ((v / 16 ^ (15 - j) % 16 : Nat) : Int) := by
        have e1 : ((v : Int) / 2 ^ ((15 - j) * 4)) = ((v / 16 ^ (15 - j) : Nat) : Int) := by
          have e2 : (16 : Nat) ^ (15 - j) = 2 ^ ((15 - j) * 4) := by
            rw [Nat.mul_comm, Nat.pow_mul]
          rw [e2, Int.natCast_ediv, Int.natCast_pow]
          rfl
        rw [e1]
        exact and15_walk (Nat.lt_of_le_of_lt (Nat.div_le_self _ _) HV.out)
      have hset := Lib.hid (hexC_set v hlt)
      have hdl : v / 16 ^ (15 - j) % 16 < 16 := Nat.mod_lt _ (by omega)
      generalize v / 16 ^ (15 - j) % 16 = d at *
      have hcell := (HT.out.below hb).cell hdl
      have hcellj : wr.cell? ⟨w.heap.size, j, none⟩ = some ((hexC v j)[j]'(by rw [hexC_size]; exact hlt)) := by
        rw [cell_of_row _ _ _ _ _ _ hh]
        exact Array.getElem?_eq_getElem _
      have hfr : wr.frozen? ⟨w.heap.size, j, none⟩ = false := by simp [World.frozen?, hh]
      have hne : (1 : Nat) < w.heap.size := HT.out.lt
      have HH := Lib.hid hh
      have HB2 := Lib.hid hb
      have q1 : (d : Int) < 16 := by omega
      generalize (hexC v j)[j]'(by rw [hexC_size]; exact hlt) = old at *
      generalize (dgt d).toNat = x at *
      clear hh hb
      go_wp2
      go_roundw
      case rel => exact ⟨j + 1, by go_num, by omega, by rw [← hset.out]; exact Joins.block_setCell HH.out _, HB2.out.setCell (Nat.le_refl _) _⟩
      case measure => simp [intOf]; omega
    · obtain rfl : j = 16 := by omega
      have HH := Lib.hid hh
      have HB2 := Lib.hid hb
      have hs := hex_str hh
      clear hh hb
      go_wp2
      go_ret
      exact ⟨rfl, HB2.out⟩

end Go.Proofs.YtckmajcophpddaaDoor
