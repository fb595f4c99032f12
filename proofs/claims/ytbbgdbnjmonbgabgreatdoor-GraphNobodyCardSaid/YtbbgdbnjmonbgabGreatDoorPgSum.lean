/-
  page.Sum, over the table of what four bits do, and the reference's Sum: contracts for the walks.
-/
import Derived.Test.YtbbgdbnjmonbgabGreatDoorPgSpec
import Derived.Test.YtbbgdbnjmonbgabGreatDoorBytes
import Derived.Laws.Rows
import Derived.Laws.BitsAllLaws
import Derived.Below
set_option linter.unusedVariables false
set_option maxRecDepth 100000
namespace Go.Proofs.YtbbgdbnjmonbgabGreatDoor
open Go.RowKit

/-- The table's cells. -/
def turnC : Array Value := #[.int .u32 0, .int .u32 498536548, .int .u32 997073096, .int .u32 651767980, .int .u32 1994146192, .int .u32 1802195444, .int .u32 1303535960, .int .u32 1342533948, .int .u32 3988292384, .int .u32 4027552580, .int .u32 3604390888, .int .u32 3412177804, .int .u32 2607071920, .int .u32 2262029012, .int .u32 2685067896, .int .u32 3183342108]
/-- The table lies in its variable. -/
def Tab (w : World) : Prop := ∃ t fr, w.heap[2]? = some (.cells turnC t fr)
theorem Tab.lt {w : World} (h : Tab w) : 2 < w.heap.size := by
  obtain ⟨t, fr, h⟩ := h
  rcases Nat.lt_or_ge 2 w.heap.size with h1 | h1
  · exact h1
  · rw [Array.getElem?_eq_none h1] at h
    cases h
theorem Tab.below {w w' : World} (h : Tab w) {B : Nat} (hB : 2 < B) (hb : Below B w w') : Tab w' := by
  obtain ⟨t, fr, h⟩ := h
  exact ⟨t, fr, (hb.block 2 hB).trans h⟩
theorem turnC_at {j : Nat} (h : j < 16) : turnC[j]? = some (.int .u32 (crcI 4 j : Nat)) := by
  have h16 : ∀ j : Fin 16, (match turnC[j.val]? with | some (.int .u32 x) => decide (x = (crcI 4 j.val : Nat)) | _ => false) = true := by decide +kernel
  have := h16 ⟨j, h⟩
  simp only at this
  split at this
  · rename_i x hx
    rw [hx, of_decide_eq_true this]
  · cases this
theorem Tab.cell {w : World} (h : Tab w) {j : Nat} (hj : j < 16) : w.cell? ⟨2, j, none⟩ = some (.int .u32 (crcI 4 j : Nat)) := by
  obtain ⟨t, fr, h⟩ := h
  rw [cell_of_row w 2 j turnC t fr h]
  exact turnC_at hj

theorem xor32 {a b c : Nat} (ha : a < 4294967296) (hb : b < 4294967296) (h : a ^^^ b = c) : bits .xor .u32 (a : Int) (b : Int) = (c : Int) := by rw [u32_xor_nat a b ha hb, h]
theorem quo32 {a b c : Nat} (ha : a < 4294967296) (hb : b < 4294967296) (h : a / 16 ^^^ b = c) : bits .xor .u32 ((a : Int) / 16) (b : Int) = (c : Int) := by
  have h1 : (a : Int) / 16 = ((a / 16 : Nat) : Int) := by omega
  rw [h1, u32_xor_nat (a / 16) b (by omega) hb, h]
theorem pand15 {a : Nat} (ha : a < 4294967296) : bits .and .u32 (a : Int) 15 = ((a % 16 : Nat) : Int) := by
  have h := u32_and_nat a 15 ha (by omega)
  have h2 := Nat.and_two_pow_sub_one_eq_mod a 4
  have h3 : (2 : Nat) ^ 4 - 1 = 15 := by decide
  rw [h3] at h2
  rw [h2] at h
  exact h
theorem not32 {a : Nat} (ha : a < 4294967296) : bits .xor .u32 IntKind.u32.max (a : Int) = ((a ^^^ allOn : Nat) : Int) := by
  have h0 : IntKind.u32.max = ((allOn : Nat) : Int) := rfl
  rw [h0, u32_xor_nat allOn a (by decide) ha, Nat.xor_comm]
theorem crcI_eight (x : Nat) : crcI 8 x = crcI 4 (crcI 4 x) := crcI_add 4 4 x
theorem crcS_snoc (s : Nat) {l : List UInt8} {j : Nat} (hj : j < l.length) : crcS s (l.take (j + 1)) = crcI 8 (crcS s (l.take j) ^^^ l[j].toNat) := by
  rw [List.take_add_one, List.getElem?_eq_getElem hj, crcS_append]
  rfl

set_option maxHeartbeats 800000 in
theorem sum_any {w : World} (hT : Tab w) {p : Option Addr} {l : List UInt8} (hl : Bs w p l) {n c : Nat} (hn : n = l.length) (hc : n ≤ 9223372036854775807) :
    Calls Tryz.prog 276 #[.slice p n c] w fun e w' => e = .returned (.int .u32 (sumV l : Nat)) ∧ w = w' := by
  have HN := Lib.hid hn
  have HL := Lib.hid hl
  have HT := Lib.hid hT
  clear hl hn hT
  go_enter Tryz.func276, Tryz.ntmps276
  go_wp2
  go_loop [3, 8] (fun s i => ∃ j : Nat, i = .int .i64 j ∧ j ≤ n ∧ s = .int .u32 (crcS allOn (l.take j) : Nat)) (fun _ i => n - (intOf i).toNat)
  case atStart => exact ⟨0, rfl, by omega, rfl⟩
  case round =>
    obtain ⟨j, rfl, hj, rfl⟩ := hrel
    have hs := crcS_lt (s := allOn) (by decide) (l.take j)
    by_cases hjn : j < n
    · have hjl : j < l.length := by have := HN.out; omega
      obtain ⟨b, o, rfl, _, hcells⟩ := HL.out.at (by omega)
      have hx := hcells j hjl
      have HR := Lib.hid (crcS_snoc allOn hjl)
      have hcl : l[j].toNat < 256 := l[j].toNat_lt
      clear hcells
      generalize crcS allOn (l.take j) = s at *
      generalize l[j].toNat = d at *
      have h1 : s ^^^ d < 4294967296 := Nat.xor_lt_two_pow (n := 32) hs (by omega)
      have e1 := xor32 (b := d) hs (by omega) rfl
      generalize s ^^^ d = s1 at *
      have a1 := pand15 h1
      have t1 := HT.out.cell (j := s1 % 16) (by omega)
      have q1 := quo32 (b := crcI 4 (s1 % 16)) h1 (crcI_lt 4 (by omega)) (crcI_four s1).symm
      have h2 := crcI_lt 4 h1
      rw [crcI_eight] at HR
      generalize crcI 4 (s1 % 16) = x1 at *
      have hm1 : s1 % 16 < 16 := by omega
      generalize crcI 4 s1 = s2 at *
      have a2 := pand15 h2
      have t2 := HT.out.cell (j := s2 % 16) (by omega)
      have q2 := quo32 (b := crcI 4 (s2 % 16)) h2 (crcI_lt 4 (by omega)) (crcI_four s2).symm
      generalize crcI 4 (s2 % 16) = x2 at *
      have hm2 : s2 % 16 < 16 := by omega
      generalize crcI 4 s2 = s3 at *
      generalize s1 % 16 = j1 at *
      generalize s2 % 16 = j2 at *
      go_wp2
      go_round
      case rel => exact ⟨j + 1, by go_num, by omega, by rw [HR.out]⟩
      case measure => simp [intOf]; omega
    · have HJ : Hid (j = l.length) := Lib.hid (by have := HN.out; omega)
      have HR : Hid (crcS allOn (l.take j) = crcS allOn l) := Lib.hid (by rw [HJ.out, List.take_length])
      have e1 := not32 hs
      have HS : Hid (crcS allOn (l.take j) ^^^ allOn = sumV l) := Lib.hid (by rw [HR.out]; rfl)
      clear HR
      generalize crcS allOn (l.take j) = s at *
      generalize s ^^^ allOn = x at *
      go_wp2
      go_ret
      refine ⟨ret_int ?_, rfl⟩
      rw [HS.out]

end Go.Proofs.YtbbgdbnjmonbgabGreatDoor
