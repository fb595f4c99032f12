/-
  page.get, page.put, and the reference's number and little: contracts for the walks.
-/
import Derived.Test.YtpmiakcngjihnaaDoorPgPage
import Derived.Test.YtpmiakcngjihnaaDoorPgSec
import Derived.Laws.Bits64b
import Derived.Laws.BitsAllLaws
import Derived.Below
set_option linter.unusedVariables false
set_option maxRecDepth 100000
namespace Go.Proofs.YtpmiakcngjihnaaDoor
open Go.RowKit

theorem leV_snoc {l : List UInt8} {j : Nat} (hj : j < l.length) : leV (l.take (j + 1)) = leV (l.take j) + 256 ^ j * l[j].toNat := by
  rw [List.take_add_one, List.getElem?_eq_getElem hj, leV_append, List.length_take, Nat.min_eq_left (by omega)]
  simp [leV]
theorem pow8 (j : Nat) : (256 : Nat) ^ j = 2 ^ (8 * j) := by rw [Nat.pow_mul]
theorem or_low {s d j : Nat} (hs : s < 256 ^ j) (hd : d < 256) (hj : j < 8) : bits .or .u64 (s : Int) (IntKind.u64.wrap ((d : Int) * 2 ^ (8 * j))) = ((s + 256 ^ j * d : Nat) : Int) := by
  have h0 : (256 : Nat) ^ j ≤ 256 ^ 7 := Nat.pow_le_pow_right (by decide) (by omega)
  have h1 : (256 : Nat) ^ 7 = 72057594037927936 := by decide
  have h2 : 256 ^ j * d ≤ 256 ^ 7 * 255 := Nat.mul_le_mul h0 (by omega)
  have h3 : ((d : Int) * 2 ^ (8 * j)) = ((256 ^ j * d : Nat) : Int) := by
    rw [pow8, Int.natCast_mul, Int.natCast_pow, Int.mul_comm]
    rfl
  have h4 := Nat.two_pow_add_eq_or_of_lt (i := 8 * j) (b := s) (by rw [← pow8]; exact hs) d
  rw [h3, IntKind.wrap_u64, Int.emod_eq_of_lt (by omega) (by omega), bits_or_u64_nat s (256 ^ j * d) (by omega) (by omega), Nat.or_comm, pow8, ← h4, Nat.add_comm]

set_option maxHeartbeats 800000 in
theorem get_any {w : World} {p : Option Addr} {l : List UInt8} (hl : Bs w p l) {n c : Nat} (hn : n = l.length) (h8 : n ≤ 8) :
    Calls Tryd.prog 76 #[.slice p n c] w fun e w' => e = .returned (.int .u64 (leV l : Nat)) ∧ w = w' := by
  have HN := Lib.hid hn
  have HL := Lib.hid hl
  clear hl hn
  go_enter Tryd.func76, Tryd.ntmps76
  go_wp2
  go_loop [3, 8] (fun s i => ∃ j : Nat, i = .int .i64 j ∧ j ≤ n ∧ s = .int .u64 (leV (l.take j) : Nat)) (fun _ i => n - (intOf i).toNat)
  case atStart => exact ⟨0, rfl, by omega, rfl⟩
  case round =>
    obtain ⟨j, rfl, hj, rfl⟩ := hrel
    by_cases hjn : j < n
    · have hjl : j < l.length := by have := HN.out; omega
      obtain ⟨b, o, rfl, _, hcells⟩ := HL.out.at (by omega)
      have hx := hcells j hjl
      have HR := Lib.hid (leV_snoc hjl)
      have hcl : l[j].toNat < 256 := l[j].toNat_lt
      have hlt := leV_lt (l.take j)
      rw [List.length_take, Nat.min_eq_left (by omega)] at hlt
      have HQ := Lib.hid (or_low hlt hcl (by omega))
      clear hcells hlt
      generalize leV (l.take j) = s at *
      generalize l[j].toNat = d at *
      go_wp2
      go_round
      case rel => exact ⟨j + 1, by go_num, by omega, by rw [HR.out, HQ.out]⟩
      case measure => simp [intOf]; omega
    · have HJ : Hid (j = l.length) := Lib.hid (by have := HN.out; omega)
      have HR : Hid (leV (l.take j) = leV l) := Lib.hid (by rw [HJ.out, List.take_length])
      generalize leV (l.take j) = s at *
      go_wp2
      go_ret
      refine ⟨ret_int ?_, rfl⟩
      rw [HR.out]

theorem leB_snoc (j x : Nat) : leB (j + 1) x = leB j x ++ [UInt8.ofNat (x / 256 ^ j)] := by
  induction j generalizing x with
  | zero => simp [leB]
  | succ j ih => rw [leB, ih, leB, List.cons_append, Nat.div_div_eq_div_mul, Nat.pow_succ, Nat.mul_comm 256]

theorem put_cells {x : Nat} (hx : x < 18446744073709551616) : #[Value.int .u8 ((x : Int) % 256), .int .u8 ((x : Int) / 256 % 256), .int .u8 ((x : Int) / 65536 % 256), .int .u8 ((x : Int) / 16777216 % 256), .int .u8 ((x : Int) / 4294967296 % 256), .int .u8 ((x : Int) / 1099511627776 % 256), .int .u8 ((x : Int) / 281474976710656 % 256), .int .u8 ((x : Int) / 72057594037927936)] = (u8s (leB 8 x)).toArray := by
  simp only [leB, u8s, List.map_cons, List.map_nil, u8_ofNat, Nat.div_div_eq_div_mul]
  congr 9
  all_goals congr 1
  all_goals first | omega | (congr 1; omega)

def PutPost (w : World) (g B : Nat) (l : List UInt8) (e : Ending) (w' : World) : Prop := e = .returned (.tuple #[]) ∧ PSec w' g l ∧ Below B w w'

set_option maxHeartbeats 800000 in
theorem put_any {w : World} {g o n c B : Nat} {l : List UInt8} (hS : PSec w g l) (hB : B ≤ g) (hn : o + n ≤ l.length) (hn8 : n ≤ 8) (hnc : n ≤ c) (hc : c ≤ 9223372036854775807) {x : Nat} (hx : x < 18446744073709551616) :
    Calls Tryd.prog 84 #[.slice (some ⟨g, o, none⟩) n c, .int .u64 (x : Int)] w (PutPost w g B (splL l o (leB n x))) := by
  have HS := Lib.hid hS
  have HN := Lib.hid hn
  clear hS hn
  have HC : Hid (#[Value.int .u8 ((x : Int) % 256), .int .u8 ((x : Int) / 256 % 256), .int .u8 ((x : Int) / 65536 % 256), .int .u8 ((x : Int) / 16777216 % 256), .int .u8 ((x : Int) / 4294967296 % 256), .int .u8 ((x : Int) / 1099511627776 % 256), .int .u8 ((x : Int) / 281474976710656 % 256), .int .u8 ((x : Int) / 72057594037927936)] = (u8s (leB 8 x)).toArray) := Lib.hid (put_cells hx)
  have HT : Hid ((leB 8 x).take n = leB n x) := Lib.hid (leB_take hn8)
  have HM : Hid ((leB n x).length = min 8 n) := Lib.hid (by rw [leB_length]; omega)
  go_enter Tryd.func84, Tryd.ntmps84
  go_wp2_with (refine pcopy_u8 rfl (.tmp 29) (.tmp 30) rfl rfl (HS.out.below HS.out.lt ((Below.refl _ _).alloc (Nat.le_refl _) _)) HN.out rfl (by rw [← HT.out]; exact (Bs.new _ _ _ _ rfl HC.out).take n) HM.out ((Below.refl _ _).alloc (Nat.le_trans hB (Nat.le_of_lt HS.out.lt)) _) hB ?_; intro w2 h2 hb2; have H2 := Lib.hid h2; have HB2 := Lib.hid hb2; clear h2 hb2)
  exact bodyPost_ret (v := .tuple #[]) (by simp [results, Tryd.results84, go_sem]) rfl ⟨rfl, H2.out, HB2.out⟩

end Go.Proofs.YtpmiakcngjihnaaDoor
