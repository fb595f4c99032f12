/-
  The reference's Valid and Same, and what they call: contracts for the walks.
  The reference's Valid and Same: contracts for the walks.
  The reference's Same: its contract.
-/
import Derived.Test.YtocplkiomlocpaaV1
import Derived.Test.YtocplkiomlocpaaR1
import Derived.StillTailTactics
set_option linter.unusedVariables false
set_option maxRecDepth 100000
namespace Go.Proofs.Ytocplkiomlocpaa
open Go.RowKit

set_option maxHeartbeats 400000 in
theorem vBits_any {w : World} (f : Nat) :
    Calls Try.prog 61 #[.float .f64 f] w fun e w' => e = .returned (.int .u64 (f : Int)) ∧ w' = w := by
  have hx := run_bits f w
  go_enter Try.func61, Try.ntmps61
  go_wp2
  go_ret
  exact ⟨rfl, rfl⟩

theorem size_empty {s : ByteArray} (h : s.toList.isEmpty = true) : s.size ≤ 256 := by
  have h1 : s.toList = [] := by simpa using h
  have h2 : s.data.toList = [] := by rw [← ByteArray.toList_eq] at *; exact h1
  have h3 : s.size = s.data.toList.length := rfl
  rw [h3, h2]
  decide

set_option maxHeartbeats 1600000 in
theorem refAtom_lit {w : World} (k n : Int) (f : Nat) (s : ByteArray) (hk : k = 0 ∨ k = 2 ∨ k = 4 ∨ k = 5) :
    Calls Try.prog 60 #[.agg #[.int .i64 k, .int .i64 n, .float .f64 f, .string s]] w fun e w' => e = .returned (.bool (validA k n f s)) ∧ Below w.heap.size w w' := by
  have HX := Lib.hid (fun (w : World) (f : Nat) => vBits_any (w := w) f)
  have HS := Lib.hid (fun h : s.toList = [] => size_empty (s := s) (by simp [h]))
  rcases hk with rfl | rfl | rfl | rfl
  all_goals
    go_enter Try.func60, Try.ntmps60
    go_wp2_with (go_at_call 61; refine (HX.out _ _).mono ?_; rintro e w' ⟨rfl, rfl⟩)
    all_goals
      first
        | (go_ret
           refine ⟨ret_bool ?_, (Below.refl _ _).alloc (Nat.le_refl _) _⟩
           simp_all [validA])
        | (go_quiet (fail)
           go_wp2
           go_ret
           refine ⟨ret_bool ?_, belowN ((Below.refl _ _).alloc (Nat.le_refl _) _) _⟩
           first | (simp_all [validA]; done) | (have h2 := HS.out (by first | assumption | simp_all); simp_all [validA]; omega) | (simp_all [validA]; omega))

set_option maxHeartbeats 1600000 in
theorem refAtom_bool {w : World} (n : Int) (f : Nat) (s : ByteArray) :
    Calls Try.prog 60 #[.agg #[.int .i64 1, .int .i64 n, .float .f64 f, .string s]] w fun e w' => e = .returned (.bool (validA 1 n f s)) ∧ Below w.heap.size w w' := by
  have HX := Lib.hid (fun (w : World) (f : Nat) => vBits_any (w := w) f)
  have HS := Lib.hid (fun h : s.toList = [] => size_empty (s := s) (by simp [h]))
  have h3 : n = 0 ∨ n = 1 ∨ (n ≠ 0 ∧ n ≠ 1) := by omega
  rcases h3 with rfl | rfl | ⟨h0, h1⟩
  all_goals
    try have g0 : (n != 0) = true := by simpa using h0
    try have g1 : (n != 1) = true := by simpa using h1
    try have G0 := Lib.hid h0
    try have G1 := Lib.hid h1
    try clear h0 h1
    go_enter Try.func60, Try.ntmps60
    go_wp2_with (go_at_call 61; refine (HX.out _ _).mono ?_; rintro e w' ⟨rfl, rfl⟩)
    all_goals
      first
        | (go_ret
           refine ⟨ret_bool ?_, (Below.refl _ _).alloc (Nat.le_refl _) _⟩
           simp_all [validA])
        | (go_quiet (fail)
           go_wp2
           go_ret
           refine ⟨ret_bool ?_, belowN ((Below.refl _ _).alloc (Nat.le_refl _) _) _⟩
           first | (simp_all [validA]; done) | (have h2 := HS.out (by first | assumption | simp_all); simp_all [validA]; omega) | (simp_all [validA]; omega))

set_option maxHeartbeats 1600000 in
theorem refAtom_real {w : World} (n : Int) (f : Nat) (s : ByteArray) (hf : f < 18446744073709551616) :
    Calls Try.prog 60 #[.agg #[.int .i64 3, .int .i64 n, .float .f64 f, .string s]] w fun e w' => e = .returned (.bool (validA 3 n f s)) ∧ Below w.heap.size w w' := by
  have HX := Lib.hid (fun (w : World) (f : Nat) => vBits_any (w := w) f)
  have HC := Lib.hid (fun w => refCanon_any (w := w) f hf)
  have HS := Lib.hid (fun h : s.toList = [] => size_empty (s := s) (by simp [h]))
  clear hf
  have e : validA 3 n f s = (n == 0 && canonT f && s.toList.isEmpty) := rfl
  rw [e]
  unfold canonT
  generalize canonB f = g at *
  obtain ⟨y, hy⟩ : ∃ y, (((g : Int) == (f : Int))) = y := ⟨_, rfl⟩
  have hy' : (((g : Int) != (f : Int))) = !y := by rw [← hy]; rfl
  cases y
  all_goals
    go_enter Try.func60, Try.ntmps60
    go_wp2_with (go_at_call 61; refine (HX.out _ _).mono ?_; rintro e w' ⟨rfl, rfl⟩)
    all_goals
      first
        | (go_ret
           refine ⟨ret_bool ?_, (Below.refl _ _).alloc (Nat.le_refl _) _⟩
           simp_all)
        | (go_quiet ((first | (go_at_call 61; exact Calls.quiet_of_same (HX.out _ _)) | (go_at_call 83; exact Calls.quiet_of_same ((HC.out _).mono fun e w' h => ⟨h.1, h.2.symm⟩))))
           go_wp2
           go_ret
           refine ⟨ret_bool ?_, belowN ((Below.refl _ _).alloc (Nat.le_refl _) _) _⟩
           first | (simp_all; done) | (have h2 := HS.out (by first | assumption | simp_all); simp_all; omega) | (simp_all; omega))

set_option maxHeartbeats 1600000 in
theorem refAtom_no {w : World} (k n : Int) (f : Nat) (s : ByteArray) (h : k < 0 ∨ 5 < k) :
    Calls Try.prog 60 #[.agg #[.int .i64 k, .int .i64 n, .float .f64 f, .string s]] w fun e w' => e = .returned (.bool (validA k n f s)) ∧ Below w.heap.size w w' := by
  have e : validA k n f s = false := by
    unfold validA
    rw [if_neg (by omega), if_neg (by omega), if_neg (by omega), if_neg (by omega), if_neg (by omega)]
  rw [e]
  clear e
  rcases h with h | h
  · go_enter Try.func60, Try.ntmps60
    go_wp2
    go_ret
    exact ⟨rfl, (Below.refl _ _).alloc (Nat.le_refl _) _⟩
  · have h' : ¬ k < 0 := by omega
    go_enter Try.func60, Try.ntmps60
    go_wp2
    go_ret
    exact ⟨rfl, (Below.refl _ _).alloc (Nat.le_refl _) _⟩

theorem refAtom_any {w : World} (k n : Int) (f : Nat) (s : ByteArray) (hf : f < 18446744073709551616) :
    Calls Try.prog 60 #[.agg #[.int .i64 k, .int .i64 n, .float .f64 f, .string s]] w fun e w' => e = .returned (.bool (validA k n f s)) ∧ Below w.heap.size w w' := by
  by_cases h : k < 0 ∨ 5 < k
  · exact refAtom_no k n f s h
  by_cases h1 : k = 1
  · subst h1; exact refAtom_bool n f s
  by_cases h3 : k = 3
  · subst h3; exact refAtom_real n f s hf
  · exact refAtom_lit k n f s (by omega)

end Go.Proofs.Ytocplkiomlocpaa

set_option linter.unusedVariables false
set_option maxRecDepth 100000
namespace Go.Proofs.Ytocplkiomlocpaa
open Go.RowKit

set_option maxHeartbeats 1600000 in
theorem refValid_one {w : World} (k n : Int) (f : Nat) (s : ByteArray) (hf : f < 18446744073709551616) (hk : k ≠ 6) {q : Option Addr} {m c : Nat} {l : List At} (hn : m = l.length) :
    Calls Try.prog 31 #[.agg #[.int .i64 k, .int .i64 n, .float .f64 f, .string s, .slice q m c]] w fun e w' => e = .returned (.bool (validV ⟨k, n, f, s⟩ l)) ∧ Below w.heap.size w w' := by
  have e : validV ⟨k, n, f, s⟩ l = (((m : Int) == 0) && validA k n f s) := by rw [hn]; unfold validV; rw [if_neg hk]; rfl
  have HV := Lib.hid (fun w => refAtom_any (w := w) k n f s hf)
  have g6 : (k != 6) = true := by simpa using hk
  rw [e]
  clear hn hk e hf
  generalize validA k n f s = r at *
  go_enter Try.func31, Try.ntmps31
  go_wp2_with fail
  refine (HV.out _).mono ?_; rintro e w1 ⟨rfl, hb1⟩
  have c4 := box_cell hb1 4
  cases r
  · go_wp2
    go_ret
    exact ⟨ret_bool (by simp), box_below hb1⟩
  · go_wp2
    go_ret
    exact ⟨ret_bool (by simp), box_below hb1⟩

/-- The head of a list's value. -/
def headOk (n : Int) (f : Nat) (s : ByteArray) (m : Nat) : Prop := n = 0 ∧ f = 0 ∧ s.toList = [] ∧ (m : Int) ≤ 16

set_option maxHeartbeats 1600000 in
theorem refValid_head {w : World} (n : Int) (f : Nat) (s : ByteArray) {q : Option Addr} {m c : Nat} {l : List At} (hn : m = l.length) (hh : ¬ headOk n f s m) :
    Calls Try.prog 31 #[.agg #[.int .i64 6, .int .i64 n, .float .f64 f, .string s, .slice q m c]] w fun e w' => e = .returned (.bool (validV ⟨6, n, f, s⟩ l)) ∧ Below w.heap.size w w' := by
  have e : validV ⟨6, n, f, s⟩ l = false := by
    have e : validV ⟨6, n, f, s⟩ l = ((n == 0 && (f : Int) == 0 && s.toList.isEmpty) && (decide ((m : Int) ≤ 16) && !l.any fun a => !a.valid)) := by rw [hn]; rfl
    rw [e]
    unfold headOk at hh
    rw [Bool.eq_false_iff]
    intro h
    simp only [Bool.and_eq_true, beq_iff_eq, List.isEmpty_iff, decide_eq_true_eq] at h
    exact hh ⟨h.1.1.1, by omega, h.1.2, h.2.1⟩
  have HX := Lib.hid (fun (w : World) (f : Nat) => vBits_any (w := w) f)
  have HH := Lib.hid hh
  rw [e]
  clear e hn hh
  go_enter Try.func31, Try.ntmps31
  go_wp2_with (go_at_call 61; refine (HX.out _ _).mono ?_; rintro e w' ⟨rfl, rfl⟩)
  all_goals
    first
      | (go_ret
         exact ⟨rfl, (Below.refl _ _).alloc (Nat.le_refl _) _⟩)
      | (exfalso
         exact HH.out ⟨by first | assumption | rfl, by first | assumption | rfl, by first | assumption | rfl, by first | assumption | rfl⟩)

set_option maxHeartbeats 1600000 in
theorem refValid_list {w : World} (s : ByteArray) {q : Option Addr} {m c : Nat} {l : List At} (hn : m = l.length) (h1 : m ≤ c) (h2 : c ≤ 9223372036854775807) (hl : As w q l) (hok : ∀ a ∈ l, a.Ok) (hs : s.toList = []) (h16 : (m : Int) ≤ 16) :
    Calls Try.prog 31 #[.agg #[.int .i64 6, .int .i64 0, .float .f64 0, .string s, .slice q m c]] w fun e w' => e = .returned (.bool (validV ⟨6, 0, 0, s⟩ l)) ∧ Below w.heap.size w w' := by
  have e : validV ⟨6, 0, 0, s⟩ l = !l.any fun a => !a.valid := by
    have e : validV ⟨6, 0, 0, s⟩ l = (s.toList.isEmpty && (decide ((m : Int) ≤ 16) && !l.any fun a => !a.valid)) := by rw [hn]; rfl
    rw [e, hs, decide_eq_true h16]
    simp
  have HX := Lib.hid (fun (w : World) (f : Nat) => vBits_any (w := w) f)
  have HV : ∀ a ∈ l, ∀ w1, Calls Try.prog 60 #[a.cell] w1 fun e w' => e = .returned (.bool a.valid) ∧ Below w1.heap.size w1 w' :=
    fun a ha w1 => refAtom_any a.k a.n a.f a.s (hok a ha).f1
  replace HV := Lib.hid HV
  have HL := Lib.hid hl
  have HN := Lib.hid hn
  have hx0 := run_bits 0 w
  rw [e]
  clear e hl hok hn
  go_enter Try.func31, Try.ntmps31
  go_wp2_with (go_at_call 61; refine (HX.out _ 0).mono ?_; rintro e w' ⟨rfl, rfl⟩)
  go_loopw [3] (fun i wr => ∃ j : Nat, i = .int .i64 j ∧ j ≤ m ∧ Below (w.alloc (.cells #[.int .i64 6, .int .i64 0, .float .f64 0, .string s, .slice q m c] 45)).heap.size (w.alloc (.cells #[.int .i64 6, .int .i64 0, .float .f64 0, .string s, .slice q m c] 45)) wr ∧ (l.take j).any (fun a => !a.valid) = false) (fun i _ => m - (intOf i).toNat)
  case atStart => exact ⟨0, rfl, by omega, Below.refl _ _, rfl⟩
  case round =>
    obtain ⟨j, rfl, hj, hb, hany⟩ := hrel
    have c4 := box_cell hb 4
    have HB := Lib.hid hb
    have HA := Lib.hid hany
    clear hb hany
    by_cases hlt : j < m
    · have hjl : j < l.length := by have := HN.out; omega
      obtain ⟨a, ha⟩ : ∃ a, l[j]? = some a := ⟨_, List.getElem?_eq_getElem hjl⟩
      obtain ⟨b, o, rfl, hc⟩ := HL.out.at ha
      obtain ⟨c1, c2, c3, c5⟩ := hc.below (box_below HB.out)
      have hk := List.mem_of_getElem? ha
      have HT : Hid ((l.take (j + 1)).any (fun a => !a.valid) = ((l.take j).any (fun a => !a.valid) || !a.valid)) := Lib.hid (by
        rw [List.take_add_one, ha]
        simp)
      have HS : Hid (a.valid = false → l.any (fun a => !a.valid) = true) := Lib.hid (fun h => List.any_eq_true.2 ⟨a, hk, by rw [h]; rfl⟩)
      have HM := Lib.hid (HV.out a hk)
      clear hc hk ha hjl
      generalize a.valid = x at *
      go_wp2_with fail
      refine (HM.out _).mono ?_; rintro e w1 ⟨rfl, hb1⟩
      have HB1 := Lib.hid (HB.out.trans (hb1.mono HB.out.size))
      clear hb1
      cases x
      · go_wp2
        go_ret
        exact ⟨ret_bool (by rw [HS.out trivial]; rfl), box_below HB1.out⟩
      · go_wp2
        go_roundw
        case rel => exact ⟨j + 1, by go_num, by omega, HB1.out, by rw [HT.out, HA.out]; rfl⟩
        case measure => simp [intOf]; omega
    · go_wp2
      go_ret
      refine ⟨ret_bool ?_, box_below HB.out⟩
      have h3 := HA.out
      rw [List.take_of_length_le (by have := HN.out; omega)] at h3
      rw [h3]
      rfl
theorem refValid_any {w : World} {k n : Int} {f : Nat} {s : ByteArray} {q : Option Addr} {m c : Nat} {l : List At} (h : VaOk w ⟨k, n, f, s⟩ q m c l) :
    Calls Try.prog 31 #[.agg #[.int .i64 k, .int .i64 n, .float .f64 f, .string s, .slice q m c]] w fun e w' => e = .returned (.bool (validV ⟨k, n, f, s⟩ l)) ∧ Below w.heap.size w w' := by
  by_cases h6 : k = 6
  · subst h6
    by_cases hh : headOk n f s m
    · obtain ⟨rfl, rfl, hs, h16⟩ := hh
      exact refValid_list s h.hn h.h1 h.h2 h.hl h.hok hs h16
    · exact refValid_head n f s h.hn hh
  · exact refValid_one k n f s h.ok.f1 h6 h.hn
end Go.Proofs.Ytocplkiomlocpaa

set_option linter.unusedVariables false
set_option maxRecDepth 100000
namespace Go.Proofs.Ytocplkiomlocpaa
open Go.RowKit

set_option maxHeartbeats 1600000 in
theorem sameAtom_any {w : World} (k n : Int) (f : Nat) (s : ByteArray) (k' n' : Int) (g : Nat) (t : ByteArray) :
    Calls Try.prog 77 #[.agg #[.int .i64 k, .int .i64 n, .float .f64 f, .string s], .agg #[.int .i64 k', .int .i64 n', .float .f64 g, .string t]] w fun e w' => e = .returned (.bool (sameA ⟨k, n, f, s⟩ ⟨k', n', g, t⟩)) ∧ Below w.heap.size w w' := by
  have HX := Lib.hid (fun (w : World) (f : Nat) => vBits_any (w := w) f)
  have e : sameA ⟨k, n, f, s⟩ ⟨k', n', g, t⟩ = ((k == k') && ((n == n') && ((f : Int) == (g : Int) && s.toList == t.toList))) := rfl
  obtain ⟨x, hk⟩ : ∃ x, (k == k') = x := ⟨_, rfl⟩
  obtain ⟨y, hn⟩ : ∃ x, (n == n') = x := ⟨_, rfl⟩
  obtain ⟨z, hf⟩ : ∃ x, ((f : Int) == (g : Int)) = x := ⟨_, rfl⟩
  rw [e, hk, hn, hf]
  clear e
  cases x
  · go_enter Try.func77, Try.ntmps77
    go_wp2
    go_quiet (fail)
    go_wp2
    go_ret
    exact ⟨rfl, belowN (box2_below (Below.refl _ _)) _⟩
  cases y
  · go_enter Try.func77, Try.ntmps77
    go_wp2
    go_quiet (fail)
    go_wp2
    go_ret
    exact ⟨rfl, belowN (box2_below (Below.refl _ _)) _⟩
  cases z
  · go_enter Try.func77, Try.ntmps77
    go_wp2
    go_quiet ((go_at_call 61; exact Calls.quiet_of_same (HX.out _ _)))
    go_wp2
    go_ret
    exact ⟨rfl, belowN (box2_below (Below.refl _ _)) _⟩
  · go_enter Try.func77, Try.ntmps77
    go_wp2
    go_quiet ((go_at_call 61; exact Calls.quiet_of_same (HX.out _ _)))
    go_wp2
    go_ret
    exact ⟨ret_bool (by simp), belowN (box2_below (Below.refl _ _)) _⟩

set_option maxHeartbeats 3200000 in
theorem same_any {w : World} {k n : Int} {f : Nat} {s : ByteArray} {q : Option Addr} {m c : Nat} {l : List At} (h : VaOk w ⟨k, n, f, s⟩ q m c l)
    {k' n' : Int} {g : Nat} {t : ByteArray} {q' : Option Addr} {m' c' : Nat} {r : List At} (h' : VaOk w ⟨k', n', g, t⟩ q' m' c' r) :
    Calls Try.prog 52 #[.agg #[.int .i64 k, .int .i64 n, .float .f64 f, .string s, .slice q m c], .agg #[.int .i64 k', .int .i64 n', .float .f64 g, .string t, .slice q' m' c']] w fun e w' => e = .returned (.bool (sameV ⟨k, n, f, s⟩ l ⟨k', n', g, t⟩ r)) ∧ Below w.heap.size w w' := by
  have HA := Lib.hid (fun w => sameAtom_any (w := w) k n f s k' n' g t)
  have HB : ∀ (a b : At) (w1 : World), Calls Try.prog 77 #[a.cell, b.cell] w1 fun e w' => e = .returned (.bool (sameA a b)) ∧ Below w1.heap.size w1 w' :=
    fun a b w1 => sameAtom_any a.k a.n a.f a.s b.k b.n b.f b.s
  replace HB := Lib.hid HB
  obtain ⟨_, hn, h1, h2, hl, _⟩ := h
  obtain ⟨_, hn', h1', h2', hr, _⟩ := h'
  have e : sameV ⟨k, n, f, s⟩ l ⟨k', n', g, t⟩ r = (sameA ⟨k, n, f, s⟩ ⟨k', n', g, t⟩ && (decide (m = m') && ((l.zip r).all fun p => sameA p.1 p.2))) := by rw [hn, hn']; rfl
  rw [e]
  clear e
  generalize sameA ⟨k, n, f, s⟩ ⟨k', n', g, t⟩ = x at *
  have HL := Lib.hid hl
  have HR := Lib.hid hr
  have HN := Lib.hid hn
  have HN' := Lib.hid hn'
  clear hl hr hn hn'
  cases x
  · go_enter Try.func52, Try.ntmps52
    go_wp2_with fail
    refine (HA.out _).mono ?_; rintro e w1 ⟨rfl, hb1⟩
    go_wp2
    go_ret
    exact ⟨rfl, box2_below hb1⟩
  by_cases hm : m = m'
  · subst hm
    have hm1 : ((m : Int) != (m : Int)) = false := by simp
    go_enter Try.func52, Try.ntmps52
    go_wp2_with fail
    refine (HA.out _).mono ?_; rintro e w1 ⟨rfl, hb1⟩
    obtain ⟨c4, d4⟩ := box2_cell hb1 4
    have HB1 := Lib.hid hb1
    clear hb1
    go_wp2
    go_loopw [5] (fun i wr => ∃ j : Nat, i = .int .i64 j ∧ j ≤ m ∧ Below ((w.alloc (.cells #[.int .i64 k, .int .i64 n, .float .f64 f, .string s, .slice q m c] 45)).alloc (.cells #[.int .i64 k', .int .i64 n', .float .f64 g, .string t, .slice q' m c'] 45)).heap.size ((w.alloc (.cells #[.int .i64 k, .int .i64 n, .float .f64 f, .string s, .slice q m c] 45)).alloc (.cells #[.int .i64 k', .int .i64 n', .float .f64 g, .string t, .slice q' m c'] 45)) wr ∧ ((l.zip r).take j).all (fun p => sameA p.1 p.2) = true) (fun i _ => m - (intOf i).toNat)
    case atStart => exact ⟨0, rfl, by omega, HB1.out, rfl⟩
    case round =>
      clear c4 d4 HB1
      obtain ⟨j, rfl, hj, hb, hany⟩ := hrel
      obtain ⟨c4, d4⟩ := box2_cell hb 4
      have HBW := Lib.hid hb
      have HAN := Lib.hid hany
      clear hb hany
      by_cases hlt : j < m
      · have hjl : j < l.length := by have := HN.out; omega
        have hjr : j < r.length := by have := HN'.out; omega
        obtain ⟨a, ha⟩ : ∃ a, l[j]? = some a := ⟨_, List.getElem?_eq_getElem hjl⟩
        obtain ⟨b, hb⟩ : ∃ a, r[j]? = some a := ⟨_, List.getElem?_eq_getElem hjr⟩
        obtain ⟨b1, o1, rfl, hc⟩ := HL.out.at ha
        obtain ⟨b2, o2, rfl, hd⟩ := HR.out.at hb
        obtain ⟨c0, c1, c2, c3⟩ := hc.below (box2_below HBW.out)
        obtain ⟨d0, d1, d2, d3⟩ := hd.below (box2_below HBW.out)
        have HT := Lib.hid (all_zip_take (p := fun p => sameA p.1 p.2) ha hb)
        have HF := Lib.hid (fun h => all_zip_false (p := fun p => sameA p.1 p.2) ha hb h)
        have HM := Lib.hid (HB.out a b)
        clear hc hd ha hb hjl hjr
        simp only at HT HF
        generalize sameA a b = x at *
        have hj0 : (0 : Int) ≤ j := by omega
        have hj1 : (j : Int) < m := by omega
        go_wp2
        go_still_tail 10, (by kernel_rfl)
        change wpList _ _ _ _ _ wr.drew
        have HBD : Hid (Below _ _ wr.drew) := Lib.hid (HBW.out.trans ⟨rfl, rfl, rfl, Nat.le_refl _, fun _ _ => rfl⟩)
        generalize wr.drew = w2 at *
        go_wp2_with fail
        refine (HM.out _).mono ?_; rintro e w3 ⟨rfl, hb3⟩
        have HB3 := Lib.hid (HBD.out.trans (hb3.mono HBD.out.size))
        clear hb3
        cases x
        · go_wp2
          go_ret
          exact ⟨ret_bool (by rw [HF.out trivial]; simp), box2_below HB3.out⟩
        · go_wp2
          go_roundw
          case rel => exact ⟨j + 1, by go_num, by omega, HB3.out, by rw [HT.out, HAN.out]; rfl⟩
          case measure => simp [intOf]; omega
      · go_wp2
        go_ret
        refine ⟨ret_bool ?_, box2_below HBW.out⟩
        have h3 := HAN.out
        rw [List.take_of_length_le (by rw [List.length_zip]; have := HN.out; omega)] at h3
        rw [h3]
        simp
  · have hm1 : ((m : Int) != (m' : Int)) = true := by simp; omega
    go_enter Try.func52, Try.ntmps52
    go_wp2_with fail
    refine (HA.out _).mono ?_; rintro e w1 ⟨rfl, hb1⟩
    obtain ⟨c4, d4⟩ := box2_cell hb1 4
    have HB1 := Lib.hid hb1
    clear hb1
    go_wp2
    go_ret
    exact ⟨ret_bool (by simp [hm]), box2_below HB1.out⟩

end Go.Proofs.Ytocplkiomlocpaa

