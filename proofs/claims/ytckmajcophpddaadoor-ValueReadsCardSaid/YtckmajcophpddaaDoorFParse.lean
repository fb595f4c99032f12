/-
  floats.Parse and the reference's: contracts for the walks.
-/
import Derived.Test.YtckmajcophpddaaDoorFTab
set_option linter.unusedVariables false
set_option maxRecDepth 100000
namespace Go.Proofs.YtckmajcophpddaaDoor
open Go.RowKit

theorem ret2_fi {k : IntKind} {a b : Nat} {x y : Int} (h : a = b) (h2 : x = y) : Ending.returned (.tuple #[.float .f64 a, .int k x]) = .returned (.tuple #[.float .f64 b, .int k y]) := by rw [h, h2]
theorem ret2_ii {k m : IntKind} {a b x y : Int} (h : a = b) (h2 : x = y) : Ending.returned (.tuple #[.int k a, .int m x]) = .returned (.tuple #[.int k b, .int m y]) := by rw [h, h2]
theorem bytes_length (s : ByteArray) : s.data.toList.length = s.size := rfl
theorem bytes_at (s : ByteArray) {k : Nat} (h : k < s.size) : s.data.toList[k]'h = s[k] := rfl
/-- The digits so far are digits. -/
def Digs (l : List UInt8) (j : Nat) : Prop := ∀ x ∈ l.take j, digV x.toNat < 16
theorem Digs.zero (l : List UInt8) : Digs l 0 := by intro x hx; simp at hx
theorem Digs.succ {l : List UInt8} {j : Nat} (h : Digs l j) (hj : j < l.length) (hd : digV l[j].toNat < 16) : Digs l (j + 1) := by
  intro x hx
  rw [List.take_succ_eq_append_getElem hj] at hx
  rcases List.mem_append.1 hx with h1 | h1
  · exact h x h1
  · rw [List.mem_singleton.1 h1]
    exact hd
theorem parB_len {l : List UInt8} (h : l.length ≠ 16) : parB l = (0, 11) := by unfold parB; rw [if_neg (fun hh => h hh.1)]
theorem parB_dig {l : List UInt8} {j : Nat} (hj : j < l.length) (hd : ¬ digV l[j].toNat < 16) : parB l = (0, 11) := by
  unfold parB
  rw [if_neg (fun hh => hd (hh.2.1 _ (List.getElem_mem hj)))]
theorem parB_yes {l : List UInt8} (h : l.length = 16) (hd : Digs l 16) (hc : canonB (hexN l) = hexN l) : parB l = (hexN l, 0) := by
  unfold parB
  rw [if_pos ⟨h, fun x hx => hd x (by rw [List.take_of_length_le (by omega)]; exact hx), hc⟩]
theorem parB_no {l : List UInt8} (hc : canonB (hexN l) ≠ hexN l) : parB l = (0, 11) := by
  unfold parB
  rw [if_neg (fun hh => hc hh.2.2)]

set_option maxHeartbeats 800000 in
theorem parse_any {w : World} (hT : Tab w) (s : ByteArray) :
    Calls Tryd.prog 52 #[.string s] w fun e w' => e = .returned (.tuple #[.float .f64 (parB s.data.toList).1, .int .i64 (parB s.data.toList).2]) ∧ w = w' := by
  by_cases h16 : s.size = 16
  · have hsz : ((s.size : Int) != 16) = false := by rw [h16]; rfl
    have HT := Lib.hid hT
    have H16 := Lib.hid h16
    clear hT h16
    go_enter Tryd.func52, Tryd.ntmps52
    go_wp2
    go_loop [4, 12] (fun u i => ∃ j : Nat, i = .int .i64 j ∧ j ≤ 16 ∧ Digs s.data.toList j ∧ u = .int .u64 (hexN (s.data.toList.take j) : Nat)) (fun _ i => 16 - (intOf i).toNat)
    case atStart => exact ⟨0, rfl, by omega, Digs.zero _, rfl⟩
    case round =>
      obtain ⟨j, rfl, hj, hd, rfl⟩ := hrel
      have HD := Lib.hid hd
      clear hd
      by_cases hlt : j < 16
      · have hjs : j < s.size := by have := H16.out; omega
        by_cases hx : digV s[j].toNat < 16
        · have hN := or16_walk (hexN_lt15 HD.out (by simp; omega)) hx
          have HN := Lib.hid hN
          have HS := Lib.hid (HD.out.succ (by rw [bytes_length]; exact hjs) (by rw [bytes_at s hjs]; exact hx))
          have HT2 := Lib.hid (hexN_take (l := s.data.toList) (j := j) (by rw [bytes_length]; exact hjs))
          have HC := Lib.hid (digit_any (w := w) HT.out s[j].toNat s[j].toNat_lt)
          have HX := Lib.hid hx
          clear hN hx
          generalize hexN (s.data.toList.take j) = u at *
          go_wp2_with fail
          (with_reducible refine HC.out.mono ?_); rintro e w' ⟨rfl, rfl⟩
          rw [if_pos HX.out, decide_eq_true HX.out]
          go_wp2
          go_round
          case rel => exact ⟨j + 1, by go_num, by omega, HS.out, by rw [HT2.out, bytes_at s hjs, ← HN.out]⟩
          case measure => simp [intOf]; omega
        · have HB := Lib.hid (parB_dig (l := s.data.toList) (j := j) (by rw [bytes_length]; exact hjs) (by rw [bytes_at s hjs]; exact hx))
          have HC := Lib.hid (digit_any (w := w) HT.out s[j].toNat s[j].toNat_lt)
          have HX := Lib.hid hx
          clear hx
          go_wp2_with fail
          (with_reducible refine HC.out.mono ?_); rintro e w' ⟨rfl, rfl⟩
          rw [if_neg HX.out, decide_eq_false HX.out]
          go_wp2
          go_ret2
          rw [HB.out]
          exact ⟨rfl, rfl⟩
      · obtain rfl : j = 16 := by omega
        have hall : s.data.toList.take 16 = s.data.toList := List.take_of_length_le (by rw [bytes_length]; have := H16.out; omega)
        have hu := hexN_lt16 HD.out (by simp; omega)
        rw [hall] at hu ⊢
        have hx := run_frombits (hexN s.data.toList) w
        have HC := Lib.hid (canonBits_any (w := w) (hexN s.data.toList) hu)
        by_cases hc : canonB (hexN s.data.toList) = hexN s.data.toList
        · have HP := Lib.hid (parB_yes (by rw [bytes_length]; exact H16.out) HD.out hc)
          have hne : ((canonB (hexN s.data.toList) : Int) != (hexN s.data.toList : Int)) = false := by rw [hc]; simp
          clear hall hu hc HD
          generalize canonB (hexN s.data.toList) = v at *
          generalize hexN s.data.toList = u at *
          go_wp2_with fail
          (with_reducible refine HC.out.mono ?_); rintro e w' ⟨rfl, rfl⟩
          go_wp2
          go_ret2
          rw [HP.out]
          exact ⟨rfl, rfl⟩
        · have HP := Lib.hid (parB_no hc)
          have hne : ((canonB (hexN s.data.toList) : Int) != (hexN s.data.toList : Int)) = true := by simp; omega
          clear hall hu hc HD
          generalize canonB (hexN s.data.toList) = v at *
          generalize hexN s.data.toList = u at *
          go_wp2_with fail
          (with_reducible refine HC.out.mono ?_); rintro e w' ⟨rfl, rfl⟩
          go_wp2
          go_ret2
          rw [HP.out]
          exact ⟨rfl, rfl⟩
  · have hsz : ((s.size : Int) != 16) = true := by simp; omega
    rw [parB_len (by rw [bytes_length]; exact h16)]
    clear h16 hT
    go_enter Tryd.func52, Tryd.ntmps52
    go_wp2
    go_ret2
    exact ⟨rfl, rfl⟩

end Go.Proofs.YtckmajcophpddaaDoor
