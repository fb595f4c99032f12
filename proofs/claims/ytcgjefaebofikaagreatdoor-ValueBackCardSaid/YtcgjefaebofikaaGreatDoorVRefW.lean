/-
  The reference's Valid and Same: contracts for the walks.
-/
import Derived.Test.YtcgjefaebofikaaGreatDoorVAt
import Derived.Test.YtcgjefaebofikaaGreatDoorVRefV
set_option linter.unusedVariables false
set_option maxRecDepth 100000
namespace Go.Proofs.YtcgjefaebofikaaGreatDoor
open Go.RowKit

set_option maxHeartbeats 1600000 in
theorem refValid_one {w : World} (k n : Int) (f : Nat) (s : ByteArray) (hf : f < 18446744073709551616) (hk : k ≠ 6) {q : Option Addr} {m c : Nat} {l : List At} (hn : m = l.length) :
    Calls Tryz.prog 6 #[.agg #[.int .i64 k, .int .i64 n, .float .f64 f, .string s, .slice q m c]] w fun e w' => e = .returned (.bool (validV ⟨k, n, f, s⟩ l)) ∧ Below w.heap.size w w' := by
  have e : validV ⟨k, n, f, s⟩ l = (((m : Int) == 0) && validA k n f s) := by rw [hn]; unfold validV; rw [if_neg hk]; rfl
  have HV := Lib.hid (fun w => refAtom_any (w := w) k n f s hf)
  have g6 : (k != 6) = true := by simpa using hk
  rw [e]
  clear hn hk e hf
  generalize validA k n f s = r at *
  go_enter Tryz.func6, Tryz.ntmps6
  go_wp2_with fail
  refine (HV.out _).mono ?_; rintro e w1 ⟨rfl, hb1⟩
  have c4 := box_cell hb1 4
  cases r
  · go_wp2
    go_ret
    exact ⟨ret_bool (by simp), box_below hb1⟩
  · go_wp2
    go_ret
    exact ⟨ret_bool (by simp), box_below hb1⟩

/-- The head of a list's value. -/
def headOk (n : Int) (f : Nat) (s : ByteArray) (m : Nat) : Prop := n = 0 ∧ f = 0 ∧ s.toList = [] ∧ (m : Int) ≤ 16

set_option maxHeartbeats 1600000 in
theorem refValid_head {w : World} (n : Int) (f : Nat) (s : ByteArray) {q : Option Addr} {m c : Nat} {l : List At} (hn : m = l.length) (hh : ¬ headOk n f s m) :
    Calls Tryz.prog 6 #[.agg #[.int .i64 6, .int .i64 n, .float .f64 f, .string s, .slice q m c]] w fun e w' => e = .returned (.bool (validV ⟨6, n, f, s⟩ l)) ∧ Below w.heap.size w w' := by
  have e : validV ⟨6, n, f, s⟩ l = false := by
    have e : validV ⟨6, n, f, s⟩ l = ((n == 0 && (f : Int) == 0 && s.toList.isEmpty) && (decide ((m : Int) ≤ 16) && !l.any fun a => !a.valid)) := by rw [hn]; rfl
    rw [e]
    unfold headOk at hh
    rw [Bool.eq_false_iff]
    intro h
    simp only [Bool.and_eq_true, beq_iff_eq, List.isEmpty_iff, decide_eq_true_eq] at h
    exact hh ⟨h.1.1.1, by omega, h.1.2, h.2.1⟩
  have HX := Lib.hid (fun (w : World) (f : Nat) => vBits_any (w := w) f)
  have HH := Lib.hid hh
  rw [e]
  clear e hn hh
  go_enter Tryz.func6, Tryz.ntmps6
  go_wp2_with (go_at_call 13; refine (HX.out _ _).mono ?_; rintro e w' ⟨rfl, rfl⟩)
  all_goals
    first
      | (go_ret
         exact ⟨rfl, (Below.refl _ _).alloc (Nat.le_refl _) _⟩)
      | (exfalso
         exact HH.out ⟨by first | assumption | rfl, by first | assumption | rfl, by first | assumption | rfl, by first | assumption | rfl⟩)

set_option maxHeartbeats 1600000 in
theorem refValid_list {w : World} (s : ByteArray) {q : Option Addr} {m c : Nat} {l : List At} (hn : m = l.length) (h1 : m ≤ c) (h2 : c ≤ 9223372036854775807) (hl : As w q l) (hok : ∀ a ∈ l, a.Ok) (hs : s.toList = []) (h16 : (m : Int) ≤ 16) :
    Calls Tryz.prog 6 #[.agg #[.int .i64 6, .int .i64 0, .float .f64 0, .string s, .slice q m c]] w fun e w' => e = .returned (.bool (validV ⟨6, 0, 0, s⟩ l)) ∧ Below w.heap.size w w' := by
  have e : validV ⟨6, 0, 0, s⟩ l = !l.any fun a => !a.valid := by
    have e : validV ⟨6, 0, 0, s⟩ l = (s.toList.isEmpty && (decide ((m : Int) ≤ 16) && !l.any fun a => !a.valid)) := by rw [hn]; rfl
    rw [e, hs, decide_eq_true h16]
    simp
  have HX := Lib.hid (fun (w : World) (f : Nat) => vBits_any (w := w) f)
  have HV : ∀ a ∈ l, ∀ w1, Calls Tryz.prog 12 #[a.cell] w1 fun e w' => e = .returned (.bool a.valid) ∧ Below w1.heap.size w1 w' :=
    fun a ha w1 => refAtom_any a.k a.n a.f a.s (hok a ha).f1
  replace HV := Lib.hid HV
  have HL := Lib.hid hl
  have HN := Lib.hid hn
  have hx0 := run_bits 0 w
  rw [e]
  clear e hl hok hn
  go_enter Tryz.func6, Tryz.ntmps6
  go_wp2_with (go_at_call 13; refine (HX.out _ 0).mono ?_; rintro e w' ⟨rfl, rfl⟩)
  go_loopw [3] (fun i wr => ∃ j : Nat, i = .int .i64 j ∧ j ≤ m ∧ Below (w.alloc (.cells #[.int .i64 6, .int .i64 0, .float .f64 0, .string s, .slice q m c] 27)).heap.size (w.alloc (.cells #[.int .i64 6, .int .i64 0, .float .f64 0, .string s, .slice q m c] 27)) wr ∧ (l.take j).any (fun a => !a.valid) = false) (fun i _ => m - (intOf i).toNat)
  case atStart => exact ⟨0, rfl, by omega, Below.refl _ _, rfl⟩
  case round =>
    obtain ⟨j, rfl, hj, hb, hany⟩ := hrel
    have c4 := box_cell hb 4
    have HB := Lib.hid hb
    have HA := Lib.hid hany
    clear hb hany
    by_cases hlt : j < m
    · have hjl : j < l.length := by have := HN.out; omega
      obtain ⟨a, ha⟩ : ∃ a, l[j]? = some a := ⟨_, List.getElem?_eq_getElem hjl⟩
      obtain ⟨b, o, rfl, hc⟩ := HL.out.at ha
      obtain ⟨c1, c2, c3, c5⟩ := hc.below (box_below HB.out)
      have hk := List.mem_of_getElem? ha
      have HT : Hid ((l.take (j + 1)).any (fun a => !a.valid) = ((l.take j).any (fun a => !a.valid) || !a.valid)) := Lib.hid (by
        rw [List.take_add_one, ha]
        simp)
      have HS : Hid (a.valid = false → l.any (fun a => !a.valid) = true) := Lib.hid (fun h => List.any_eq_true.2 ⟨a, hk, by rw [h]; rfl⟩)
      have HM := Lib.hid (HV.out a hk)
      clear hc hk ha hjl
      generalize a.valid = x at *
      go_wp2_with fail
      refine (HM.out _).mono ?_; rintro e w1 ⟨rfl, hb1⟩
      have HB1 := Lib.hid (HB.out.trans (hb1.mono HB.out.size))
      clear hb1
      cases x
      · go_wp2
        go_ret
        exact ⟨ret_bool (by rw [HS.out trivial]; rfl), box_below HB1.out⟩
      · go_wp2
        go_roundw
        case rel => exact ⟨j + 1, by go_num, by omega, HB1.out, by rw [HT.out, HA.out]; rfl⟩
        case measure => simp [intOf]; omega
    · go_wp2
      go_ret
      refine ⟨ret_bool ?_, box_below HB.out⟩
      have h3 := HA.out
      rw [List.take_of_length_le (by have := HN.out; omega)] at h3
      rw [h3]
      rfl
theorem refValid_any {w : World} {k n : Int} {f : Nat} {s : ByteArray} {q : Option Addr} {m c : Nat} {l : List At} (h : VaOk w ⟨k, n, f, s⟩ q m c l) :
    Calls Tryz.prog 6 #[.agg #[.int .i64 k, .int .i64 n, .float .f64 f, .string s, .slice q m c]] w fun e w' => e = .returned (.bool (validV ⟨k, n, f, s⟩ l)) ∧ Below w.heap.size w w' := by
  by_cases h6 : k = 6
  · subst h6
    by_cases hh : headOk n f s m
    · obtain ⟨rfl, rfl, hs, h16⟩ := hh
      exact refValid_list s h.hn h.h1 h.h2 h.hl h.hok hs h16
    · exact refValid_head n f s h.hn hh
  · exact refValid_one k n f s h.ok.f1 h6 h.hn
end Go.Proofs.YtcgjefaebofikaaGreatDoor
