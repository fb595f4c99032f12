/-
  record.Name and the reference's Name: contracts for the walks.
-/
import Derived.Test.YtbbgdbnjmonbgabGreatDoorNmSpec
import Derived.Test.YtbbgdbnjmonbgabGreatDoorBytes
import Derived.Outline
set_option linter.unusedVariables false
set_option maxRecDepth 100000
namespace Go.Proofs.YtbbgdbnjmonbgabGreatDoor
open Go.RowKit

set_option maxHeartbeats 800000 in
theorem isDigit_any {w : World} (c : UInt8) : Calls Tryz.prog 49 #[.int .u8 (c.toNat : Int)] w fun e w' => e = .returned (.bool (isD c)) ∧ w = w' := by
  unfold isD
  obtain ⟨x, hx⟩ : ∃ x, decide (48 ≤ (c.toNat : Int)) = x := ⟨_, rfl⟩
  obtain ⟨y, hy⟩ : ∃ x, decide ((c.toNat : Int) ≤ 57) = x := ⟨_, rfl⟩
  rw [hx, hy]
  cases x <;> cases y
  all_goals
    go_enter Tryz.func49, Tryz.ntmps49
    go_wp2
    go_ret
    exact ⟨rfl, rfl⟩

set_option maxHeartbeats 1600000 in
theorem isLetter_any {w : World} (c : UInt8) : Calls Tryz.prog 50 #[.int .u8 (c.toNat : Int)] w fun e w' => e = .returned (.bool (isL c)) ∧ w = w' := by
  unfold isL
  obtain ⟨x, hx⟩ : ∃ x, decide (97 ≤ (c.toNat : Int)) = x := ⟨_, rfl⟩
  obtain ⟨y, hy⟩ : ∃ x, decide ((c.toNat : Int) ≤ 122) = x := ⟨_, rfl⟩
  obtain ⟨z, hz⟩ : ∃ x, decide (65 ≤ (c.toNat : Int)) = x := ⟨_, rfl⟩
  obtain ⟨u, hu⟩ : ∃ x, decide ((c.toNat : Int) ≤ 90) = x := ⟨_, rfl⟩
  rw [hx, hy, hz, hu]
  cases x <;> cases y <;> cases z <;> cases u
  all_goals
    go_enter Tryz.func50, Tryz.ntmps50
    go_wp2
    go_ret
    exact ⟨rfl, rfl⟩

theorem nameL_eq {l : List UInt8} {c : UInt8} {t : List UInt8} (h : l = c :: t) : nameL l = (decide (l.length ≤ 16) && (!isD c && l.all okC)) := by subst h; rfl
theorem all_take {α : Type} {p : α → Bool} {l : List α} {j : Nat} (hj : j < l.length) : (l.take (j + 1)).all p = ((l.take j).all p && p l[j]) := by
  rw [List.take_succ_eq_append_getElem hj, List.all_append]
  simp
theorem all_false {α : Type} {p : α → Bool} {l : List α} {j : Nat} (hj : j < l.length) (h : p l[j] = false) : l.all p = false := by
  rw [List.all_eq_false]
  exact ⟨l[j], List.getElem_mem hj, by rw [h]; decide⟩

set_option maxHeartbeats 1600000 in
theorem name_any {w : World} (s : ByteArray) (hs : s.size ≤ 9223372036854775807) :
    Calls Tryz.prog 22 #[.string s] w fun e w' => e = .returned (.bool (nameOk s)) ∧ w = w' := by
  have hl : s.data.toList.length = s.size := rfl
  have HLL := Lib.hid hl
  have HD := Lib.hid (fun c w => isDigit_any (w := w) c)
  have HLT := Lib.hid (fun c w => isLetter_any (w := w) c)
  clear hl
  by_cases h0 : s.size = 0
  · have hn : nameOk s = false := by
      have h : s.data.toList = [] := List.eq_nil_of_length_eq_zero (by rw [HLL.out]; exact h0)
      unfold nameOk
      rw [h]
      rfl
    rw [hn]
    have h0' : ((s.size : Int) == 0) = true := by rw [h0]; rfl
    go_enter Tryz.func22, Tryz.ntmps22
    go_wp2
    go_ret
    exact ⟨rfl, rfl⟩
  have h0' : ((s.size : Int) == 0) = false := by rw [beq_eq_false_iff_ne]; omega
  obtain ⟨c, t, hct⟩ : ∃ c t, s.data.toList = c :: t := by
    cases h : s.data.toList with
    | nil => rw [h] at HLL; exact absurd HLL.out.symm h0
    | cons c t => exact ⟨c, t, rfl⟩
  have hpos : 0 < s.size := by omega
  have hc0 : s[0] = c := by
    have : s.data.toList[0]'(by rw [HLL.out]; exact hpos) = c := by simp only [hct]; rfl
    exact this
  have hn := nameL_eq hct
  rw [HLL.out] at hn
  have HN : Hid (nameOk s = _) := Lib.hid hn
  have HC0 := Lib.hid hc0
  clear hn hc0 hct h0
  by_cases h16 : 16 < s.size
  · have HX : Hid (nameOk s = false) := Lib.hid (by rw [HN.out, decide_eq_false (by omega)]; rfl)
    clear HN
    generalize nameOk s = r at *
    go_enter Tryz.func22, Tryz.ntmps22
    go_wp2
    go_ret
    exact ⟨ret_bool HX.out.symm, rfl⟩
  cases hd : isD c
  · have HX : Hid (nameOk s = s.data.toList.all okC) := Lib.hid (by rw [HN.out, hd, decide_eq_true (by omega)]; rfl)
    clear HN
    generalize nameOk s = r at *
    have HDC := Lib.hid hd
    clear hd
    have hD : ∀ w, Calls Tryz.prog 49 #[.int .u8 (s[0].toNat : Int)] w fun e w' => e = .returned (.bool false) ∧ w = w' := by
      intro w
      have := HD.out c w
      rw [HDC.out] at this
      rw [HC0.out]
      exact this
    have HD0 := Lib.hid hD
    clear hD
    go_enter Tryz.func22, Tryz.ntmps22
    go_wp2_with fail
    refine (HD0.out _).mono ?_; rintro e w' ⟨rfl, rfl⟩
    go_wp2
    go_loop [19] (fun i => ∃ j : Nat, i = .int .i64 j ∧ j ≤ s.size ∧ (s.data.toList.take j).all okC = true) (fun i => s.size - (intOf i).toNat)
    case atStart => exact ⟨0, rfl, by omega, rfl⟩
    case round =>
      obtain ⟨j, rfl, hj, hall⟩ := hrel
      have HA := Lib.hid hall
      clear hall
      by_cases hlt : j < s.size
      · have hjl : j < s.data.toList.length := by rw [HLL.out]; exact hlt
        have HT : Hid ((s.data.toList.take (j + 1)).all okC = ((s.data.toList.take j).all okC && okC s[j])) := Lib.hid (all_take hjl)
        have HF : Hid (okC s[j] = false → s.data.toList.all okC = false) := Lib.hid (fun h => all_false hjl h)
        have HO : Hid (okC s[j] = (isL s[j] || (isD s[j] || ((s[j].toNat : Int) == 95)))) := Lib.hid rfl
        have hcd := HD.out s[j]
        have hcl := HLT.out s[j]
        have h255 := s[j].toNat_lt
        obtain ⟨x, hx⟩ : ∃ x, ((s[j].toNat : Int) == 95) = x := ⟨_, rfl⟩
        have hx' : ((s[j].toNat : Int) != 95) = !x := by rw [← hx]; rfl
        rw [hx] at HO
        generalize okC s[j] = ok at *
        generalize isL s[j] = l1 at *
        generalize isD s[j] = d1 at *
        have HCD := Lib.hid hcd
        have HCL := Lib.hid hcl
        clear hcd hcl hx
        cases l1
        · cases d1
          · cases x
            · go_wp2_with (first
                | (go_at_call 50; refine (HCL.out _).mono ?_; rintro e w' ⟨rfl, rfl⟩)
                | (go_at_call 49; refine (HCD.out _).mono ?_; rintro e w' ⟨rfl, rfl⟩))
              go_ret
              exact ⟨ret_bool (by rw [HX.out, HF.out (by rw [HO.out]; rfl)]), rfl⟩
            · go_wp2_with (first
                | (go_at_call 50; refine (HCL.out _).mono ?_; rintro e w' ⟨rfl, rfl⟩)
                | (go_at_call 49; refine (HCD.out _).mono ?_; rintro e w' ⟨rfl, rfl⟩))
              go_round
              case rel => exact ⟨j + 1, by go_num, by omega, by rw [HT.out, HA.out, HO.out]; rfl⟩
              case measure => simp [intOf]; omega
          · go_wp2_with (first
              | (go_at_call 50; refine (HCL.out _).mono ?_; rintro e w' ⟨rfl, rfl⟩)
              | (go_at_call 49; refine (HCD.out _).mono ?_; rintro e w' ⟨rfl, rfl⟩))
            go_round
            case rel => exact ⟨j + 1, by go_num, by omega, by rw [HT.out, HA.out, HO.out]; rfl⟩
            case measure => simp [intOf]; omega
        · go_wp2_with (go_at_call 50; refine (HCL.out _).mono ?_; rintro e w' ⟨rfl, rfl⟩)
          go_round
          case rel => exact ⟨j + 1, by go_num, by omega, by rw [HT.out, HA.out, HO.out]; rfl⟩
          case measure => simp [intOf]; omega
      · have h := HA.out
        rw [List.take_of_length_le (by rw [HLL.out]; omega)] at h
        have HH := Lib.hid h
        clear h
        go_wp2
        go_ret
        exact ⟨ret_bool (by rw [HX.out, HH.out]), rfl⟩
  · have HX : Hid (nameOk s = false) := Lib.hid (by rw [HN.out, hd]; simp)
    clear HN
    generalize nameOk s = r at *
    have HDC := Lib.hid hd
    clear hd
    have hD : ∀ w, Calls Tryz.prog 49 #[.int .u8 (s[0].toNat : Int)] w fun e w' => e = .returned (.bool true) ∧ w = w' := by
      intro w
      have := HD.out c w
      rw [HDC.out] at this
      rw [HC0.out]
      exact this
    have HD0 := Lib.hid hD
    clear hD
    go_enter Tryz.func22, Tryz.ntmps22
    go_wp2_with fail
    refine (HD0.out _).mono ?_; rintro e w' ⟨rfl, rfl⟩
    go_wp2
    go_ret
    exact ⟨ret_bool HX.out.symm, rfl⟩

end Go.Proofs.YtbbgdbnjmonbgabGreatDoor
