/-
  The reference's reader: begins, hex: contracts for the walks.
-/
import Derived.Test.YtckmajcophpddaaDoorVBkP
set_option linter.unusedVariables false
set_option linter.unusedSimpArgs false
set_option maxRecDepth 100000
namespace Go.Proofs.YtckmajcophpddaaDoor
open Go.RowKit

theorem extract_take (s : ByteArray) (k : Nat) : (s.extract 0 k).data.toList = s.data.toList.take k := by
  rw [ByteArray.data_extract, Array.toList_extract]
  simp [List.extract]
theorem pre_extract {s p : ByteArray} (h : p.size ≤ s.size) : ((s.extract 0 p.size).toList == p.toList) = Lib.hasPrefix s.data.toList p.data.toList := by
  have e1 : (s.extract 0 p.size).data.toList = s.data.toList.take p.data.toList.length := extract_take s p.size
  rw [ByteArray.toList_eq, ByteArray.toList_eq, e1]
  cases hp : Lib.hasPrefix s.data.toList p.data.toList
  · rw [beq_eq_false_iff_ne]
    intro e
    have : Lib.hasPrefix s.data.toList p.data.toList = true := by
      unfold Lib.hasPrefix
      rw [List.isPrefixOf_iff_prefix, ← e]
      rw [e]
      exact e ▸ List.take_prefix _ _
    rw [this] at hp
    cases hp
  · rw [beq_iff_eq]
    have h2 := pre_split hp
    rw [h2]
    simp

theorem pre_short {s p : ByteArray} (h : s.size < p.size) : Lib.hasPrefix s.data.toList p.data.toList = false := by
  cases hp : Lib.hasPrefix s.data.toList p.data.toList
  · rfl
  · have h2 := congrArg List.length (pre_split hp)
    rw [List.length_append] at h2
    have e1 : s.data.toList.length = s.size := rfl
    have e2 : p.data.toList.length = p.size := rfl
    omega

set_option maxHeartbeats 400000 in
theorem begins_any {w : World} (s p : ByteArray) (hs : s.size ≤ 9223372036854775807) :
    Calls Tryd.prog 12 #[.string s, .string p] w fun e w' => e = .returned (.bool (Lib.hasPrefix s.data.toList p.data.toList)) ∧ w = w' := by
  by_cases h : p.size ≤ s.size
  · have HE := Lib.hid (pre_extract h)
    have d : (p.size : Int) ≤ (s.size : Int) := by omega
    go_enter Tryd.func12, Tryd.ntmps12
    go_wp2
    go_ret
    exact ⟨by rw [← HE.out]; rfl, rfl⟩
  · have HE := Lib.hid (pre_short (show s.size < p.size by omega))
    have d : ¬ (p.size : Int) ≤ (s.size : Int) := by omega
    go_enter Tryd.func12, Tryd.ntmps12
    go_wp2
    go_ret
    exact ⟨by rw [HE.out]; rfl, rfl⟩

theorem idx_low_all : ∀ n : Fin 256, Lib.indexByte hexE (UInt8.ofNat n.val) = if 48 ≤ n.val ∧ n.val ≤ 57 then (n.val : Int) - 48 else if 97 ≤ n.val ∧ n.val ≤ 102 then (n.val : Int) - 87 else -1 := by decide +kernel
theorem idx_low (c : UInt8) : Lib.indexByte hexE c = if 48 ≤ c.toNat ∧ c.toNat ≤ 57 then (c.toNat : Int) - 48 else if 97 ≤ c.toNat ∧ c.toNat ≤ 102 then (c.toNat : Int) - 87 else -1 := by
  have h := idx_low_all ⟨c.toNat, c.toNat_lt⟩
  simpa only [UInt8.ofNat_toNat] using h

set_option maxHeartbeats 800000 in
theorem hex_one {w : World} (c : UInt8) :
    Calls Tryd.prog 42 #[.int .u8 (c.toNat : Int)] w fun e w' => e = .returned (.int .i64 (Lib.indexByte hexE c)) ∧ w' = w := by
  have hx := idx_low c
  have hc := c.toNat_lt
  rw [hx]
  clear hx
  generalize c.toNat = x at *
  by_cases h1 : 48 ≤ x ∧ x ≤ 57
  · rw [if_pos h1]
    obtain ⟨a, b⟩ := h1
    have a1 : (48 : Int) ≤ (x : Int) := by omega
    have b1 : (x : Int) ≤ 57 := by omega
    go_enter Tryd.func42, Tryd.ntmps42
    go_wp2
    go_ret
    exact ⟨rfl, rfl⟩
  · rw [if_neg h1]
    by_cases h2 : 97 ≤ x ∧ x ≤ 102
    · rw [if_pos h2]
      obtain ⟨a, b⟩ := h2
      have a1 : (97 : Int) ≤ (x : Int) := by omega
      have b1 : (x : Int) ≤ 102 := by omega
      have a2 : ¬ (x : Int) ≤ 57 := by omega
      clear h1
      go_enter Tryd.func42, Tryd.ntmps42
      go_wp2
      go_ret
      exact ⟨ret_int (by show (x : Int) - 97 + 10 = x - 87; omega), rfl⟩
    · rw [if_neg h2]
      go_enter Tryd.func42, Tryd.ntmps42
      go_wp2
      all_goals first
        | (exfalso; omega)
        | (go_ret; exact ⟨rfl, rfl⟩)

end Go.Proofs.YtckmajcophpddaaDoor
