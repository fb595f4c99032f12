/-
  The reference's digits: a number in ten digits.
-/
import Derived.Test.YtinbdneajbommaaDoorBytes
import Derived.Lib.ItoaNum
set_option linter.unusedVariables false
set_option maxRecDepth 100000
namespace Go.Proofs.YtinbdneajbommaaDoor
open Go.RowKit

theorem decD_big {u : Nat} (h : ¬ u < 10) : Lib.decDigits u = Lib.decDigits (u / 10) ++ [UInt8.ofNat (48 + u % 10)] := by
  conv => lhs; rw [Lib.decDigits]
  rw [dif_neg h]
theorem decD_small {u : Nat} (h : u < 10) : Lib.decDigits u = [UInt8.ofNat (48 + u)] := by
  rw [Lib.decDigits, dif_pos h]
theorem dig10 : ∀ d : Fin 10, (⟨#[48, 49, 50, 51, 52, 53, 54, 55, 56, 57]⟩ : ByteArray).extract d.val (d.val + 1) = ⟨#[UInt8.ofNat (48 + d.val)]⟩ := by decide +kernel
theorem dig10_at {d : Nat} (h : d < 10) : (⟨#[48, 49, 50, 51, 52, 53, 54, 55, 56, 57]⟩ : ByteArray).extract d (d + 1) = ⟨#[UInt8.ofNat (48 + d)]⟩ := dig10 ⟨d, h⟩
theorem bytes_app (a b : ByteArray) : (a ++ b).data.toList = a.data.toList ++ b.data.toList := by simp

theorem decD_len : ∀ (k u : Nat), u < 10 ^ (k + 1) → (Lib.decDigits u).length ≤ k + 1
  | 0, u, h => by rw [decD_small (by simpa using h)]; exact Nat.le_refl _
  | k + 1, u, h => by
    by_cases h1 : u < 10
    · rw [decD_small h1]; simp
    · rw [decD_big h1, List.length_append]
      have h2 := decD_len k (u / 10) (by rw [Nat.pow_succ] at h; omega)
      simp
      omega
theorem decD_len64 {u : Nat} (h : u < 18446744073709551616) : (Lib.decDigits u).length ≤ 20 := decD_len 19 u (by have : (10 : Nat) ^ 20 = 100000000000000000000 := by decide
                                                                                                                 omega)

set_option maxHeartbeats 800000 in
theorem digits_any {w : World} (u : Nat) (hu : u < 18446744073709551616) :
    Calls Tryd.prog 69 #[.int .u64 (u : Int)] w fun e w' => (∃ t : ByteArray, e = .returned (.string t) ∧ t.data.toList = Lib.decDigits u) ∧ w = w' := by
  go_enter Tryd.func69, Tryd.ntmps69
  go_wp2
  go_loop [0, 3] (fun x s => ∃ (v : Nat) (t : ByteArray), x = .int .u64 v ∧ s = .string t ∧ v ≤ u ∧ Lib.decDigits v ++ t.data.toList = Lib.decDigits u) (fun x _ => (intOf x).toNat)
  case atStart => exact ⟨u, ⟨#[]⟩, rfl, rfl, Nat.le_refl _, by simp⟩
  case round =>
    obtain ⟨v, t, rfl, rfl, hv, he⟩ := hrel
    have HE := Lib.hid he
    have hv2 : v < 18446744073709551616 := by omega
    have ht : t.size ≤ 20 := by
      have h1 := congrArg List.length he
      have h2 := decD_len64 hu
      rw [List.length_append] at h1
      have h3 : t.data.toList.length = t.size := rfl
      omega
    clear he
    by_cases h : 10 ≤ v
    · have HD := Lib.hid (decD_big (u := v) (by omega))
      obtain ⟨d, hd⟩ : ∃ d, d = v % 10 := ⟨_, rfl⟩
      have hd10 : d < 10 := by omega
      have q1 : (v : Int) % 10 = (d : Int) := by omega
      have HX := Lib.hid (dig10_at hd10)
      rw [← hd] at HD
      clear hd
      go_wp2
      rw [HX.out]
      go_round
      case rel => exact ⟨v / 10, _, by go_num, rfl, by omega, by rw [bytes_app, ← HE.out, HD.out]; simp⟩
      case measure => simp [intOf]; omega
    · have HD := Lib.hid (decD_small (u := v) (by omega))
      have HX := Lib.hid (dig10_at (d := v) (by omega))
      go_wp2
      rw [HX.out]
      go_ret
      exact ⟨⟨_, rfl, by rw [bytes_app, ← HE.out, HD.out]⟩, rfl⟩

end Go.Proofs.YtinbdneajbommaaDoor
