/-
  FloatsHex: digits are read as the float that they were told of, and each float has one text alone. Conditions: none but that the table of digits lies as the text lays it.
-/
import Derived.Test.YtjjebmgcbgeehaaDoorFParse
import Derived.Test.YtjjebmgcbgeehaaDoorFHex
set_option linter.unusedVariables false
namespace Go.Proofs.YtjjebmgcbgeehaaDoor
open Go.RowKit

theorem dgt_digit {j : Nat} (hj : j < 16) : digV (dgt j).toNat < 16 := by rw [digV_dgt hj]; exact hj
theorem hexK_digs (k : Nat) : ∀ c, ∀ x ∈ hexK k c, digV x.toNat < 16 := by
  induction k with
  | zero => intro c x hx; simp [hexK] at hx
  | succ k ih =>
    intro c x hx
    rw [hexK] at hx
    rcases List.mem_append.1 hx with h | h
    · exact ih _ x h
    · rw [List.mem_singleton.1 h]
      exact dgt_digit (Nat.mod_lt _ (by omega))
theorem hexS_list (c : Nat) : (hexS c).data.toList = hexK 16 c := rfl
theorem hexS_size (c : Nat) : (hexS c).size = 16 := by
  show (hexK 16 c).length = 16
  exact hexK_length 16 c
theorem parB_hex {c : Nat} (hc : c < 18446744073709551616) (h : canonB c = c) : parB (hexK 16 c) = (c, 0) := by
  have hn := hexN_hexK 16 c hc
  rw [parB_yes (hexK_length 16 c) (fun x hx => hexK_digs 16 c x (List.take_subset _ _ hx)) (by rw [hn]; exact h), hn]
/-- What is read is a float's digits. -/
theorem parB_cases (s : ByteArray) : (parB s.data.toList = (0, 11)) ∨ ∃ c, c < 18446744073709551616 ∧ canonB c = c ∧ parB s.data.toList = (c, 0) ∧ hexS c = s := by
  by_cases h : s.data.toList.length = 16 ∧ (∀ x ∈ s.data.toList, digV x.toNat < 16) ∧ canonB (hexN s.data.toList) = hexN s.data.toList
  · right
    refine ⟨hexN s.data.toList, hexN_lt16 h.2.1 (by omega), h.2.2, by unfold parB; rw [if_pos h], ?_⟩
    unfold hexS
    rw [hexK_hexN 16 _ h.1 h.2.1]
  · left
    unfold parB
    rw [if_neg h]

set_option maxHeartbeats 1600000 in
theorem lawHex_any {w : World} (hT : Tab w) (u : Nat) (hu : u < 18446744073709551616) (s : ByteArray) :
    Calls Tryd.prog 5 #[.float .f64 u, .string s] w fun e w' => e = .returned (.bool true) ∧ Below w.heap.size w w' := by
  have HX := Lib.hid (hex_any hT u hu)
  have hP : ∀ w', Tab w' → Calls Tryd.prog 20 #[.string (hexS (canonB u))] w' fun e w1 => e = .returned (.tuple #[.float .f64 (canonB u), .int .i64 0]) ∧ w' = w1 := by
    intro w' h'
    have := parse_any h' (hexS (canonB u))
    rw [hexS_list, parB_hex (canonB_lt hu) (canonB_idem u)] at this
    exact this
  have HP := Lib.hid hP
  have hC : ∀ w', Calls Tryd.prog 14 #[.float .f64 u, .float .f64 (canonB u)] w' fun e w1 => e = .returned (.int .i64 0) ∧ w' = w1 := by
    intro w'
    have := compare_any (w := w') u (canonB u) hu (canonB_lt hu)
    rw [keyB_canon, cmpI_zero rfl] at this
    exact this
  have HC := Lib.hid hC
  have HT := Lib.hid hT
  have hsz : (hexS (canonB u)).size = 16 := hexS_size _
  have hlen : (((hexS (canonB u)).size : Int) != 16) = false := by rw [hsz]; rfl
  clear hP hC hT hu
  generalize hexS (canonB u) = t at *
  generalize canonB u = c at *
  rcases parB_cases s with hs | ⟨d, hd, hdc, hs, he⟩
  · have hP2 : ∀ w', Tab w' → Calls Tryd.prog 20 #[.string s] w' fun e w1 => e = .returned (.tuple #[.float .f64 0, .int .i64 11]) ∧ w' = w1 := by
      intro w' h'
      have := parse_any h' s
      rw [hs] at this
      exact this
    have HP2 := Lib.hid hP2
    have hz : (FloatKind.f64.format.order 0 0 == some Ordering.eq) = true := by decide +kernel
    clear hP2 hs
    go_enter Tryd.func5, Tryd.ntmps5
    go_wp2_with fail
    (with_reducible refine HX.out.mono ?_); rintro e w1 ⟨rfl, hb⟩
    have HT1 := Lib.hid (HT.out.below hb)
    have HB := Lib.hid hb
    clear hb
    go_wp2_with fail
    (with_reducible refine (HP.out w1 HT1.out).mono ?_); rintro e w' ⟨rfl, rfl⟩
    go_wp2_with fail
    (with_reducible refine (HC.out w1).mono ?_); rintro e w' ⟨rfl, rfl⟩
    go_wp2_with fail
    (with_reducible refine (HP2.out w1 HT1.out).mono ?_); rintro e w' ⟨rfl, rfl⟩
    go_wp2
    go_ret
    exact ⟨rfl, HB.out⟩
  · subst he
    have hP2 : ∀ w', Tab w' → Calls Tryd.prog 20 #[.string (hexS d)] w' fun e w1 => e = .returned (.tuple #[.float .f64 d, .int .i64 0]) ∧ w' = w1 := by
      intro w' h'
      have := parse_any h' (hexS d)
      rw [hs] at this
      exact this
    have HP2 := Lib.hid hP2
    have hX2 : ∀ w', Tab w' → Calls Tryd.prog 16 #[.float .f64 d] w' fun e w1 => e = .returned (.string (hexS d)) ∧ Below w'.heap.size w' w1 := by
      intro w' h'
      have := hex_any h' d hd
      rw [hdc] at this
      exact this
    have HX2 := Lib.hid hX2
    clear hP2 hX2 hs hd hdc
    generalize hexS d = s at *
    go_enter Tryd.func5, Tryd.ntmps5
    go_wp2_with fail
    (with_reducible refine HX.out.mono ?_); rintro e w1 ⟨rfl, hb⟩
    have HT1 := Lib.hid (HT.out.below hb)
    have HB := Lib.hid hb
    clear hb
    go_wp2_with fail
    (with_reducible refine (HP.out w1 HT1.out).mono ?_); rintro e w' ⟨rfl, rfl⟩
    go_wp2_with fail
    (with_reducible refine (HC.out w1).mono ?_); rintro e w' ⟨rfl, rfl⟩
    go_wp2_with fail
    (with_reducible refine (HP2.out w1 HT1.out).mono ?_); rintro e w' ⟨rfl, rfl⟩
    go_wp2_with fail
    (with_reducible refine (HX2.out w1 HT1.out).mono ?_); rintro e w2 ⟨rfl, hb⟩
    have HB2 := Lib.hid (HB.out.trans (hb.mono HB.out.size))
    clear hb
    go_wp2
    go_ret
    exact ⟨rfl, HB2.out⟩

end Go.Proofs.YtjjebmgcbgeehaaDoor
