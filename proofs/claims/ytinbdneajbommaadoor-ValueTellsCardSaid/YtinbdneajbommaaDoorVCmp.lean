/-
  value.rank, weighNumbers, cmp.Or, strings.Compare: contracts for the walks.
  value.weigh, compareAtoms: contracts for the walks.
-/
import Derived.Test.YtinbdneajbommaaDoorVAt
import Derived.Test.YtinbdneajbommaaDoorVCmpS
import Derived.Deep.RegionHeld3
set_option linter.unusedVariables false
set_option maxRecDepth 100000
namespace Go.Proofs.YtinbdneajbommaaDoor
open Go.RowKit

set_option maxHeartbeats 400000 in
theorem isNumber_any {w : World} (k n : Int) (f : Nat) (s : ByteArray) :
    Calls Tryd.prog 55 #[.agg #[.int .i64 k, .int .i64 n, .float .f64 f, .string s]] w fun e w' => e = .returned (.bool (isNum2 k)) ∧ Below w.heap.size w w' := by
  unfold isNum2
  obtain ⟨x, hx⟩ : ∃ x, (k == 2) = x := ⟨_, rfl⟩
  rw [hx]
  cases x
  all_goals
    go_enter Tryd.func55, Tryd.ntmps55
    go_wp2
    go_ret
    exact ⟨rfl, box_below (Below.refl _ _)⟩

set_option maxHeartbeats 400000 in
theorem rank_any {w : World} (k n : Int) (f : Nat) (s : ByteArray) :
    Calls Tryd.prog 35 #[.agg #[.int .i64 k, .int .i64 n, .float .f64 f, .string s]] w fun e w' => e = .returned (.int .i64 (rankA k)) ∧ Below w.heap.size w w' := by
  have HN := Lib.hid (fun w => isNumber_any (w := w) k n f s)
  have e : rankA k = if isNum2 k = true then 2 else k := rfl
  rw [e]
  clear e
  generalize isNum2 k = x at *
  cases x
  all_goals
    go_enter Tryd.func35, Tryd.ntmps35
    go_wp2_with fail
    refine (HN.out _).mono ?_; rintro e w1 ⟨rfl, hb1⟩
    have c0 := box_cell hb1 0
    have HB1 := Lib.hid hb1
    clear hb1
    go_wp2
    go_ret
    exact ⟨rfl, box_below HB1.out⟩

set_option maxHeartbeats 400000 in
theorem cmpStr_any {w : World} (s t : ByteArray) :
    Calls Tryd.prog 57 #[.string s, .string t] w fun e w' => e = .returned (.int .i64 (cmpS s t)) ∧ w = w' := by
  have hx : ∀ w, (callFunc 101 #[.string s, .string t]).run Tryd.prog w = .ok (.value (.int .i64 (cmpS s t))) w := by
    intro w
    rw [run_callFunc_extern Tryd.func101 (by kernel_rfl) (by kernel_rfl) (by kernel_rfl) (e := Extern.BytealgCompare.compare) (by kernel_rfl), Lib.run_compareString]
    rfl
  generalize cmpS s t = r at *
  have HC : ∀ w, Calls Tryd.prog 83 #[.string s, .string t] w fun e w' => e = .returned (.int .i64 r) ∧ w = w' := by
    intro w
    go_enter Tryd.func83, Tryd.ntmps83
    go_wp2
    go_ret
    exact ⟨rfl, rfl⟩
  replace HC := Lib.hid HC
  clear hx
  go_enter Tryd.func57, Tryd.ntmps57
  go_wp2_with fail
  refine (HC.out _).mono ?_; rintro e w' ⟨rfl, rfl⟩
  go_wp2
  go_ret
  exact ⟨rfl, rfl⟩

set_option maxHeartbeats 800000 in
theorem or_any {w : World} (b o : Nat) (x y : Int) (h0 : w.cell? ⟨b, o, none⟩ = some (.int .i64 x)) (h1 : w.cell? ⟨b, o + 1, none⟩ = some (.int .i64 y)) :
    Calls Tryd.prog 53 #[.slice (some ⟨b, o, none⟩) 2 2] w fun e w' => e = .returned (.int .i64 (orI x y)) ∧ w = w' := by
  have HE : Hid (orI x y = if x = 0 then y else x) := Lib.hid rfl
  generalize orI x y = r at *
  by_cases hx : x = 0
  · have hx' : (x != 0) = false := by simpa using hx
    have HX := Lib.hid hx
    clear hx
    by_cases hy : y = 0
    · have hy' : (y != 0) = false := by simpa using hy
      have HY := Lib.hid hy
      clear hy
      go_enter Tryd.func53, Tryd.ntmps53
      go_wp2
      go_loop [8] (fun i => i = .int .i64 0 ∨ i = .int .i64 1 ∨ i = .int .i64 2) (fun i => 2 - (intOf i).toNat)
      case atStart => exact .inl rfl
      case round =>
        rcases hrel with rfl | rfl | rfl
        · go_wp2
          go_round
          case rel => exact .inr (.inl rfl)
          case measure => simp [intOf]
        · go_wp2
          go_round
          case rel => exact .inr (.inr rfl)
          case measure => simp [intOf]
        · go_wp2
          go_ret
          refine ⟨ret_int ?_, rfl⟩
          have h2 := HE.out
          rw [if_pos HX.out, HY.out] at h2
          exact h2.symm
    · have hy' : (y != 0) = true := by simpa using hy
      go_enter Tryd.func53, Tryd.ntmps53
      go_wp2
      go_loop [8] (fun i => i = .int .i64 0 ∨ i = .int .i64 1) (fun i => 2 - (intOf i).toNat)
      case atStart => exact .inl rfl
      case round =>
        rcases hrel with rfl | rfl
        · go_wp2
          go_round
          case rel => exact .inr rfl
          case measure => simp [intOf]
        · go_wp2
          go_ret
          refine ⟨ret_int ?_, rfl⟩
          have h2 := HE.out
          rw [if_pos HX.out] at h2
          exact h2.symm
  · have hx' : (x != 0) = true := by simpa using hx
    have HX := Lib.hid hx
    clear hx
    go_enter Tryd.func53, Tryd.ntmps53
    go_wp2
    go_loop [8] (fun i => i = .int .i64 0) (fun i => 2 - (intOf i).toNat)
    case atStart => rfl
    case round =>
      subst hrel
      go_wp2
      go_ret
      refine ⟨ret_int ?_, rfl⟩
      have h2 := HE.out
      rw [if_neg HX.out] at h2
      exact h2.symm

set_option maxHeartbeats 1600000 in
theorem weighNumbers_any {w : World} (k n : Int) (f : Nat) (s : ByteArray) (k' n' : Int) (g : Nat) (t : ByteArray) (hn1 : -9223372036854775808 ≤ n) (hn2 : n ≤ 9223372036854775807) (hf : f < 18446744073709551616)
    (hn1' : -9223372036854775808 ≤ n') (hn2' : n' ≤ 9223372036854775807) (hg : g < 18446744073709551616) :
    Calls Tryd.prog 56 #[.agg #[.int .i64 k, .int .i64 n, .float .f64 f, .string s], .agg #[.int .i64 k', .int .i64 n', .float .f64 g, .string t]] w fun e w' => e = .returned (.int .i64 (weighN k n f k' n' g)) ∧ Below w.heap.size w w' := by
  have H1 := Lib.hid (fun w => compare_any (w := w) f g hf hg)
  have H2 := Lib.hid (fun w => compareInt_any (w := w) n' hn1' hn2' f hf)
  have H3 := Lib.hid (fun w => compareInt_any (w := w) n hn1 hn2 g hg)
  have H4 := Lib.hid (fun w => cmpInt_any (w := w) n n')
  have hb : -1 ≤ cmpN n' f ∧ cmpN n' f ≤ 1 := by
    unfold cmpN cmpI
    repeat' split
    all_goals omega
  have HE : Hid (weighN k n f k' n' g = if k = 3 then (if k' = 3 then cmpI (keyB f) (keyB g) else -cmpN n' f) else if k' = 3 then cmpN n g else cmpI n n') := Lib.hid rfl
  clear hn1 hn2 hf hn1' hn2' hg
  generalize weighN k n f k' n' g = r at *
  generalize cmpI (keyB f) (keyB g) = a1 at *
  generalize cmpN n' f = a2 at *
  generalize cmpN n g = a3 at *
  generalize cmpI n n' = a4 at *
  by_cases h : k = 3
  · have h' : (k == 3) = true := by simpa using h
    have HK := Lib.hid h
    clear h
    by_cases h : k' = 3
    · have h'' : (k' == 3) = true := by simpa using h
      have HK' := Lib.hid h
      clear h
      go_enter Tryd.func56, Tryd.ntmps56
      go_wp2_with fail
      refine (H1.out _).mono ?_; rintro e w1 ⟨rfl, rfl⟩
      go_wp2
      go_ret
      exact ⟨ret_int (by rw [HE.out, if_pos HK.out, if_pos HK'.out]), box2_below (Below.refl _ _)⟩
    · have h'' : (k' == 3) = false := by simpa using h
      have HK' := Lib.hid h
      clear h
      go_enter Tryd.func56, Tryd.ntmps56
      go_wp2_with fail
      refine (H2.out _).mono ?_; rintro e w1 ⟨rfl, rfl⟩
      go_wp2
      go_ret
      refine ⟨ret_int ?_, box2_below (Below.refl _ _)⟩
      rw [HE.out, if_pos HK.out, if_neg HK'.out]
      try (unfold wrap64; omega)
  · have h' : (k == 3) = false := by simpa using h
    have HK := Lib.hid h
    clear h
    by_cases h : k' = 3
    · have h'' : (k' == 3) = true := by simpa using h
      have HK' := Lib.hid h
      clear h
      go_enter Tryd.func56, Tryd.ntmps56
      go_wp2_with fail
      refine (H3.out _).mono ?_; rintro e w1 ⟨rfl, rfl⟩
      go_wp2
      go_ret
      exact ⟨ret_int (by rw [HE.out, if_neg HK.out, if_pos HK'.out]), box2_below (Below.refl _ _)⟩
    · have h'' : (k' == 3) = false := by simpa using h
      have HK' := Lib.hid h
      clear h
      go_enter Tryd.func56, Tryd.ntmps56
      go_wp2_with fail
      refine (H4.out _).mono ?_; rintro e w1 ⟨rfl, rfl⟩
      go_wp2
      go_ret
      exact ⟨ret_int (by rw [HE.out, if_neg HK.out, if_neg HK'.out]), box2_below (Below.refl _ _)⟩

end Go.Proofs.YtinbdneajbommaaDoor

set_option linter.unusedVariables false
set_option maxRecDepth 100000
namespace Go.Proofs.YtinbdneajbommaaDoor
open Go.RowKit

theorem box2_cells {W : World} {a b : Array Value} {t t' : TypeId} (w' : World) (hb : Below ((W.alloc (.cells a t)).alloc (.cells b t')).heap.size ((W.alloc (.cells a t)).alloc (.cells b t')) w') :
    (∀ i, w'.cell? ⟨W.heap.size, i, none⟩ = a[i]?) ∧ (∀ i, w'.cell? ⟨W.heap.size + 1, i, none⟩ = b[i]?) := ⟨fun i => (box2_cell hb i).1, fun i => (box2_cell hb i).2⟩

set_option maxHeartbeats 1600000 in
theorem weigh_ne {w : World} (k n : Int) (f : Nat) (s : ByteArray) (k' n' : Int) (g : Nat) (t : ByteArray) (hne : cmpI (rankA k) (rankA k') ≠ 0) :
    Calls Tryd.prog 29 #[.agg #[.int .i64 k, .int .i64 n, .float .f64 f, .string s], .agg #[.int .i64 k', .int .i64 n', .float .f64 g, .string t]] w fun e w' => e = .returned (.int .i64 (weighA ⟨k, n, f, s⟩ ⟨k', n', g, t⟩)) ∧ Below w.heap.size w w' := by
  have HR := Lib.hid (fun w => rank_any (w := w) k n f s)
  have HS := Lib.hid (fun w => rank_any (w := w) k' n' g t)
  have HC := Lib.hid (fun w => cmpInt_any (w := w) (rankA k) (rankA k'))
  have e : weighA ⟨k, n, f, s⟩ ⟨k', n', g, t⟩ = cmpI (rankA k) (rankA k') := by unfold weighA; rw [if_pos hne]
  rw [e]
  clear e
  have hne' : (cmpI (rankA k) (rankA k') != 0) = true := by simpa using hne
  clear hne
  generalize cmpI (rankA k) (rankA k') = c at *
  generalize rankA k = r at *
  generalize rankA k' = r' at *
  obtain ⟨W, hW⟩ : ∃ W, W = (w.alloc (.cells #[.int .i64 k, .int .i64 n, .float .f64 f, .string s] 24)).alloc (.cells #[.int .i64 k', .int .i64 n', .float .f64 g, .string t] 24) := ⟨_, rfl⟩
  have HK : Hid (∀ w', Below W.heap.size W w' → (w'.cell? ⟨w.heap.size, 0, none⟩ = some (.int .i64 k) ∧ w'.cell? ⟨w.heap.size, 1, none⟩ = some (.int .i64 n) ∧ w'.cell? ⟨w.heap.size, 2, none⟩ = some (.float .f64 f) ∧ w'.cell? ⟨w.heap.size, 3, none⟩ = some (.string s) ∧
      w'.cell? ⟨w.heap.size + 1, 0, none⟩ = some (.int .i64 k') ∧ w'.cell? ⟨w.heap.size + 1, 1, none⟩ = some (.int .i64 n') ∧ w'.cell? ⟨w.heap.size + 1, 2, none⟩ = some (.float .f64 g) ∧ w'.cell? ⟨w.heap.size + 1, 3, none⟩ = some (.string t))) := by
    refine Lib.hid fun w' hb => ?_
    rw [hW] at hb
    obtain ⟨h1, h2⟩ := box2_cells w' hb
    exact ⟨h1 0, h1 1, h1 2, h1 3, h2 0, h2 1, h2 2, h2 3⟩
  have HWB : Hid (∀ w', Below W.heap.size W w' → Below w.heap.size w w') := by
    refine Lib.hid fun w' hb => ?_
    rw [hW] at hb
    exact box2_below hb
  go_enter Tryd.func29, Tryd.ntmps29
  go_wp2
  rw [← hW]
  replace hW := Lib.hid hW
  go_region_held3 (fun w' => w'.cell? ⟨w.heap.size, 0, none⟩ = some (.int .i64 k) ∧ w'.cell? ⟨w.heap.size, 1, none⟩ = some (.int .i64 n) ∧ w'.cell? ⟨w.heap.size, 2, none⟩ = some (.float .f64 f) ∧ w'.cell? ⟨w.heap.size, 3, none⟩ = some (.string s) ∧
      w'.cell? ⟨w.heap.size + 1, 0, none⟩ = some (.int .i64 k') ∧ w'.cell? ⟨w.heap.size + 1, 1, none⟩ = some (.int .i64 n') ∧ w'.cell? ⟨w.heap.size + 1, 2, none⟩ = some (.float .f64 g) ∧ w'.cell? ⟨w.heap.size + 1, 3, none⟩ = some (.string t))
    (first | exact HK.out _ (Below.refl _ _).drew | exact HK.out _ HB2.out | exact HK.out _ HB1.out)
    (first
      | (go_at_call_of 35 (Value.agg #[.int .i64 k, .int .i64 n, .float .f64 f, .string s]); refine (HR.out _).mono ?_; rintro e w1 ⟨rfl, hb1⟩; have HB1 : Hid (Below W.heap.size W w1) := Lib.hid ((Below.refl _ _).drew.trans hb1); clear hb1)
      | (go_at_call 35; refine (HS.out _).mono ?_; rintro e w2 ⟨rfl, hb2⟩; have HB2 : Hid (Below W.heap.size W w2) := Lib.hid (HB1.out.trans (hb2.mono HB1.out.size)); clear hb2)
      | (go_at_call 54; refine (HC.out _).mono ?_; rintro e w' ⟨rfl, rfl⟩))
  obtain ⟨c0, c1, c2, c3, d0, d1, d2, d3⟩ := HK.out _ HB2.out
  go_wp2
  go_ret
  exact ⟨rfl, HWB.out _ HB2.out⟩

set_option maxHeartbeats 1600000 in
theorem weigh_num {w : World} (k n : Int) (f : Nat) (s : ByteArray) (k' n' : Int) (g : Nat) (t : ByteArray) (heq : cmpI (rankA k) (rankA k') = 0) (hnum : isNum2 k = true) (hn1 : -9223372036854775808 ≤ n) (hn2 : n ≤ 9223372036854775807) (hf : f < 18446744073709551616)
    (hn1' : -9223372036854775808 ≤ n') (hn2' : n' ≤ 9223372036854775807) (hg : g < 18446744073709551616) :
    Calls Tryd.prog 29 #[.agg #[.int .i64 k, .int .i64 n, .float .f64 f, .string s], .agg #[.int .i64 k', .int .i64 n', .float .f64 g, .string t]] w fun e w' => e = .returned (.int .i64 (weighA ⟨k, n, f, s⟩ ⟨k', n', g, t⟩)) ∧ Below w.heap.size w w' := by
  have HR := Lib.hid (fun w => rank_any (w := w) k n f s)
  have HS := Lib.hid (fun w => rank_any (w := w) k' n' g t)
  have HC := Lib.hid (fun w => cmpInt_any (w := w) (rankA k) (rankA k'))
  have HN := Lib.hid (fun w => isNumber_any (w := w) k n f s)
  have HW := Lib.hid (fun w => weighNumbers_any (w := w) k n f s k' n' g t hn1 hn2 hf hn1' hn2' hg)
  have e : weighA ⟨k, n, f, s⟩ ⟨k', n', g, t⟩ = weighN k n f k' n' g := by unfold weighA; rw [if_neg (by simpa using heq), if_pos hnum]
  rw [e]
  rw [heq] at HC
  rw [hnum] at HN
  clear e heq hnum hn1 hn2 hf hn1' hn2' hg
  generalize weighN k n f k' n' g = c at *
  generalize rankA k = r at *
  generalize rankA k' = r' at *
  obtain ⟨W, hW⟩ : ∃ W, W = (w.alloc (.cells #[.int .i64 k, .int .i64 n, .float .f64 f, .string s] 24)).alloc (.cells #[.int .i64 k', .int .i64 n', .float .f64 g, .string t] 24) := ⟨_, rfl⟩
  have HK : Hid (∀ w', Below W.heap.size W w' → (w'.cell? ⟨w.heap.size, 0, none⟩ = some (.int .i64 k) ∧ w'.cell? ⟨w.heap.size, 1, none⟩ = some (.int .i64 n) ∧ w'.cell? ⟨w.heap.size, 2, none⟩ = some (.float .f64 f) ∧ w'.cell? ⟨w.heap.size, 3, none⟩ = some (.string s) ∧
      w'.cell? ⟨w.heap.size + 1, 0, none⟩ = some (.int .i64 k') ∧ w'.cell? ⟨w.heap.size + 1, 1, none⟩ = some (.int .i64 n') ∧ w'.cell? ⟨w.heap.size + 1, 2, none⟩ = some (.float .f64 g) ∧ w'.cell? ⟨w.heap.size + 1, 3, none⟩ = some (.string t))) := by
    refine Lib.hid fun w' hb => ?_
    rw [hW] at hb
    obtain ⟨h1, h2⟩ := box2_cells w' hb
    exact ⟨h1 0, h1 1, h1 2, h1 3, h2 0, h2 1, h2 2, h2 3⟩
  have HWB : Hid (∀ w', Below W.heap.size W w' → Below w.heap.size w w') := by
    refine Lib.hid fun w' hb => ?_
    rw [hW] at hb
    exact box2_below hb
  go_enter Tryd.func29, Tryd.ntmps29
  go_wp2
  rw [← hW]
  replace hW := Lib.hid hW
  go_region_held3 (fun w' => w'.cell? ⟨w.heap.size, 0, none⟩ = some (.int .i64 k) ∧ w'.cell? ⟨w.heap.size, 1, none⟩ = some (.int .i64 n) ∧ w'.cell? ⟨w.heap.size, 2, none⟩ = some (.float .f64 f) ∧ w'.cell? ⟨w.heap.size, 3, none⟩ = some (.string s) ∧
      w'.cell? ⟨w.heap.size + 1, 0, none⟩ = some (.int .i64 k') ∧ w'.cell? ⟨w.heap.size + 1, 1, none⟩ = some (.int .i64 n') ∧ w'.cell? ⟨w.heap.size + 1, 2, none⟩ = some (.float .f64 g) ∧ w'.cell? ⟨w.heap.size + 1, 3, none⟩ = some (.string t))
    (first | exact HK.out _ (Below.refl _ _).drew | exact HK.out _ HB2.out | exact HK.out _ HB1.out)
    (first
      | (go_at_call_of 35 (Value.agg #[.int .i64 k, .int .i64 n, .float .f64 f, .string s]); refine (HR.out _).mono ?_; rintro e w1 ⟨rfl, hb1⟩; have HB1 : Hid (Below W.heap.size W w1) := Lib.hid ((Below.refl _ _).drew.trans hb1); clear hb1)
      | (go_at_call 35; refine (HS.out _).mono ?_; rintro e w2 ⟨rfl, hb2⟩; have HB2 : Hid (Below W.heap.size W w2) := Lib.hid (HB1.out.trans (hb2.mono HB1.out.size)); clear hb2)
      | (go_at_call 54; refine (HC.out _).mono ?_; rintro e w' ⟨rfl, rfl⟩))
  obtain ⟨c0, c1, c2, c3, d0, d1, d2, d3⟩ := HK.out _ HB2.out
  go_wp2_with fail
  refine (HN.out _).mono ?_; rintro e w3 ⟨rfl, hb3⟩
  have HB3 : Hid (Below W.heap.size W w3) := Lib.hid (HB2.out.trans (hb3.mono HB2.out.size))
  clear hb3 c0 c1 c2 c3 d0 d1 d2 d3
  obtain ⟨c0, c1, c2, c3, d0, d1, d2, d3⟩ := HK.out _ HB3.out
  go_wp2_with fail
  refine (HW.out _).mono ?_; rintro e w4 ⟨rfl, hb4⟩
  have HB4 : Hid (Below W.heap.size W w4) := Lib.hid (HB3.out.trans (hb4.mono HB3.out.size))
  clear hb4 c0 c1 c2 c3 d0 d1 d2 d3
  go_wp2
  go_ret
  exact ⟨rfl, HWB.out _ HB4.out⟩

set_option maxHeartbeats 1600000 in
theorem weigh_text {w : World} (k n : Int) (f : Nat) (s : ByteArray) (k' n' : Int) (g : Nat) (t : ByteArray) (heq : cmpI (rankA k) (rankA k') = 0) (hnum : isNum2 k = false) :
    Calls Tryd.prog 29 #[.agg #[.int .i64 k, .int .i64 n, .float .f64 f, .string s], .agg #[.int .i64 k', .int .i64 n', .float .f64 g, .string t]] w fun e w' => e = .returned (.int .i64 (weighA ⟨k, n, f, s⟩ ⟨k', n', g, t⟩)) ∧ Below w.heap.size w w' := by
  have HR := Lib.hid (fun w => rank_any (w := w) k n f s)
  have HS := Lib.hid (fun w => rank_any (w := w) k' n' g t)
  have HC := Lib.hid (fun w => cmpInt_any (w := w) (rankA k) (rankA k'))
  have HN := Lib.hid (fun w => isNumber_any (w := w) k n f s)
  have HC2 := Lib.hid (fun w => cmpInt_any (w := w) n n')
  have HT := Lib.hid (fun w => cmpStr_any (w := w) s t)
  have e : weighA ⟨k, n, f, s⟩ ⟨k', n', g, t⟩ = orI (cmpI n n') (cmpS s t) := by unfold weighA; rw [if_neg (by simpa using heq), if_neg (by rw [hnum]; decide)]
  rw [e]
  rw [heq] at HC
  rw [hnum] at HN
  clear e heq hnum
  have HO := Lib.hid (fun (w : World) b o h0 h1 => or_any (w := w) b o (cmpI n n') (cmpS s t) h0 h1)
  generalize orI (cmpI n n') (cmpS s t) = c at *
  generalize cmpI n n' = c1 at *
  generalize cmpS s t = c2 at *
  generalize rankA k = r at *
  generalize rankA k' = r' at *
  obtain ⟨W, hW⟩ : ∃ W, W = (w.alloc (.cells #[.int .i64 k, .int .i64 n, .float .f64 f, .string s] 24)).alloc (.cells #[.int .i64 k', .int .i64 n', .float .f64 g, .string t] 24) := ⟨_, rfl⟩
  have HK : Hid (∀ w', Below W.heap.size W w' → (w'.cell? ⟨w.heap.size, 0, none⟩ = some (.int .i64 k) ∧ w'.cell? ⟨w.heap.size, 1, none⟩ = some (.int .i64 n) ∧ w'.cell? ⟨w.heap.size, 2, none⟩ = some (.float .f64 f) ∧ w'.cell? ⟨w.heap.size, 3, none⟩ = some (.string s) ∧
      w'.cell? ⟨w.heap.size + 1, 0, none⟩ = some (.int .i64 k') ∧ w'.cell? ⟨w.heap.size + 1, 1, none⟩ = some (.int .i64 n') ∧ w'.cell? ⟨w.heap.size + 1, 2, none⟩ = some (.float .f64 g) ∧ w'.cell? ⟨w.heap.size + 1, 3, none⟩ = some (.string t))) := by
    refine Lib.hid fun w' hb => ?_
    rw [hW] at hb
    obtain ⟨h1, h2⟩ := box2_cells w' hb
    exact ⟨h1 0, h1 1, h1 2, h1 3, h2 0, h2 1, h2 2, h2 3⟩
  have HWB : Hid (∀ w', Below W.heap.size W w' → Below w.heap.size w w') := by
    refine Lib.hid fun w' hb => ?_
    rw [hW] at hb
    exact box2_below hb
  go_enter Tryd.func29, Tryd.ntmps29
  go_wp2
  rw [← hW]
  replace hW := Lib.hid hW
  go_region_held3 (fun w' => w'.cell? ⟨w.heap.size, 0, none⟩ = some (.int .i64 k) ∧ w'.cell? ⟨w.heap.size, 1, none⟩ = some (.int .i64 n) ∧ w'.cell? ⟨w.heap.size, 2, none⟩ = some (.float .f64 f) ∧ w'.cell? ⟨w.heap.size, 3, none⟩ = some (.string s) ∧
      w'.cell? ⟨w.heap.size + 1, 0, none⟩ = some (.int .i64 k') ∧ w'.cell? ⟨w.heap.size + 1, 1, none⟩ = some (.int .i64 n') ∧ w'.cell? ⟨w.heap.size + 1, 2, none⟩ = some (.float .f64 g) ∧ w'.cell? ⟨w.heap.size + 1, 3, none⟩ = some (.string t))
    (first | exact HK.out _ (Below.refl _ _).drew | exact HK.out _ HB2.out | exact HK.out _ HB1.out)
    (first
      | (go_at_call_of 35 (Value.agg #[.int .i64 k, .int .i64 n, .float .f64 f, .string s]); refine (HR.out _).mono ?_; rintro e w1 ⟨rfl, hb1⟩; have HB1 : Hid (Below W.heap.size W w1) := Lib.hid ((Below.refl _ _).drew.trans hb1); clear hb1)
      | (go_at_call 35; refine (HS.out _).mono ?_; rintro e w2 ⟨rfl, hb2⟩; have HB2 : Hid (Below W.heap.size W w2) := Lib.hid (HB1.out.trans (hb2.mono HB1.out.size)); clear hb2)
      | (go_at_call 54; refine (HC.out _).mono ?_; rintro e w' ⟨rfl, rfl⟩))
  obtain ⟨c0, c1, c2, c3, d0, d1, d2, d3⟩ := HK.out _ HB2.out
  go_wp2_with fail
  refine (HN.out _).mono ?_; rintro e w3 ⟨rfl, hb3⟩
  have HB3 : Hid (Below W.heap.size W w3) := Lib.hid (HB2.out.trans (hb3.mono HB2.out.size))
  clear hb3 c0 c1 c2 c3 d0 d1 d2 d3
  go_wp2_with fail
  go_region_held3 (fun w' => w'.cell? ⟨w.heap.size, 0, none⟩ = some (.int .i64 k) ∧ w'.cell? ⟨w.heap.size, 1, none⟩ = some (.int .i64 n) ∧ w'.cell? ⟨w.heap.size, 2, none⟩ = some (.float .f64 f) ∧ w'.cell? ⟨w.heap.size, 3, none⟩ = some (.string s) ∧
      w'.cell? ⟨w.heap.size + 1, 0, none⟩ = some (.int .i64 k') ∧ w'.cell? ⟨w.heap.size + 1, 1, none⟩ = some (.int .i64 n') ∧ w'.cell? ⟨w.heap.size + 1, 2, none⟩ = some (.float .f64 g) ∧ w'.cell? ⟨w.heap.size + 1, 3, none⟩ = some (.string t))
    (first | exact HK.out _ HB3.out.drew | exact HK.out _ (HB3.out.alloc HB3.out.size _).drew)
    (first
      | (go_at_call 54; refine (HC2.out _).mono ?_; rintro e w' ⟨rfl, rfl⟩)
      | (go_at_call 57; refine (HT.out _).mono ?_; rintro e w' ⟨rfl, rfl⟩)
      | (go_at_call 53; refine (HO.out _ _ _ (by simp [go_sem]) (by simp [go_sem])).mono ?_; rintro e w' ⟨rfl, rfl⟩))
  go_wp2
  go_ret
  exact ⟨rfl, HWB.out _ (HB3.out.alloc HB3.out.size _).drew⟩

theorem weigh_any {w : World} (k n : Int) (f : Nat) (s : ByteArray) (k' n' : Int) (g : Nat) (t : ByteArray) (hn1 : -9223372036854775808 ≤ n) (hn2 : n ≤ 9223372036854775807) (hf : f < 18446744073709551616)
    (hn1' : -9223372036854775808 ≤ n') (hn2' : n' ≤ 9223372036854775807) (hg : g < 18446744073709551616) :
    Calls Tryd.prog 29 #[.agg #[.int .i64 k, .int .i64 n, .float .f64 f, .string s], .agg #[.int .i64 k', .int .i64 n', .float .f64 g, .string t]] w fun e w' => e = .returned (.int .i64 (weighA ⟨k, n, f, s⟩ ⟨k', n', g, t⟩)) ∧ Below w.heap.size w w' := by
  by_cases h : cmpI (rankA k) (rankA k') = 0
  · by_cases h2 : isNum2 k = true
    · exact weigh_num k n f s k' n' g t h h2 hn1 hn2 hf hn1' hn2' hg
    · exact weigh_text k n f s k' n' g t h (by simpa using h2)
  · exact weigh_ne k n f s k' n' g t h

set_option maxHeartbeats 1600000 in
theorem compareAtoms_any {w : World} (k n : Int) (f : Nat) (s : ByteArray) (k' n' : Int) (g : Nat) (t : ByteArray) (hn1 : -9223372036854775808 ≤ n) (hn2 : n ≤ 9223372036854775807) (hf : f < 18446744073709551616)
    (hn1' : -9223372036854775808 ≤ n') (hn2' : n' ≤ 9223372036854775807) (hg : g < 18446744073709551616) :
    Calls Tryd.prog 25 #[.agg #[.int .i64 k, .int .i64 n, .float .f64 f, .string s], .agg #[.int .i64 k', .int .i64 n', .float .f64 g, .string t]] w fun e w' => e = .returned (.int .i64 (cmpA ⟨k, n, f, s⟩ ⟨k', n', g, t⟩)) ∧ Below w.heap.size w w' := by
  have HR := Lib.hid (fun w => weigh_any (w := w) k n f s k' n' g t hn1 hn2 hf hn1' hn2' hg)
  have HC := Lib.hid (fun w => cmpInt_any (w := w) k k')
  have e : cmpA ⟨k, n, f, s⟩ ⟨k', n', g, t⟩ = orI (weighA ⟨k, n, f, s⟩ ⟨k', n', g, t⟩) (cmpI k k') := rfl
  rw [e]
  clear e hn1 hn2 hf hn1' hn2' hg
  generalize weighA ⟨k, n, f, s⟩ ⟨k', n', g, t⟩ = c1 at *
  generalize cmpI k k' = c2 at *
  have HO := Lib.hid (fun (w : World) b o h0 h1 => or_any (w := w) b o c1 c2 h0 h1)
  generalize orI c1 c2 = c at *
  obtain ⟨W, hW⟩ : ∃ W, W = (w.alloc (.cells #[.int .i64 k, .int .i64 n, .float .f64 f, .string s] 24)).alloc (.cells #[.int .i64 k', .int .i64 n', .float .f64 g, .string t] 24) := ⟨_, rfl⟩
  have HK : Hid (∀ w', Below W.heap.size W w' → (w'.cell? ⟨w.heap.size, 0, none⟩ = some (.int .i64 k) ∧ w'.cell? ⟨w.heap.size, 1, none⟩ = some (.int .i64 n) ∧ w'.cell? ⟨w.heap.size, 2, none⟩ = some (.float .f64 f) ∧ w'.cell? ⟨w.heap.size, 3, none⟩ = some (.string s) ∧
      w'.cell? ⟨w.heap.size + 1, 0, none⟩ = some (.int .i64 k') ∧ w'.cell? ⟨w.heap.size + 1, 1, none⟩ = some (.int .i64 n') ∧ w'.cell? ⟨w.heap.size + 1, 2, none⟩ = some (.float .f64 g) ∧ w'.cell? ⟨w.heap.size + 1, 3, none⟩ = some (.string t))) := by
    refine Lib.hid fun w' hb => ?_
    rw [hW] at hb
    obtain ⟨h1, h2⟩ := box2_cells w' hb
    exact ⟨h1 0, h1 1, h1 2, h1 3, h2 0, h2 1, h2 2, h2 3⟩
  have HWB : Hid (∀ w', Below W.heap.size W w' → Below w.heap.size w w') := by
    refine Lib.hid fun w' hb => ?_
    rw [hW] at hb
    exact box2_below hb
  go_enter Tryd.func25, Tryd.ntmps25
  go_wp2
  rw [← hW]
  replace hW := Lib.hid hW
  go_region_held3 (fun w' => w'.cell? ⟨w.heap.size, 0, none⟩ = some (.int .i64 k) ∧ w'.cell? ⟨w.heap.size, 1, none⟩ = some (.int .i64 n) ∧ w'.cell? ⟨w.heap.size, 2, none⟩ = some (.float .f64 f) ∧ w'.cell? ⟨w.heap.size, 3, none⟩ = some (.string s) ∧
      w'.cell? ⟨w.heap.size + 1, 0, none⟩ = some (.int .i64 k') ∧ w'.cell? ⟨w.heap.size + 1, 1, none⟩ = some (.int .i64 n') ∧ w'.cell? ⟨w.heap.size + 1, 2, none⟩ = some (.float .f64 g) ∧ w'.cell? ⟨w.heap.size + 1, 3, none⟩ = some (.string t))
    (first | exact HK.out _ (Below.refl _ _).drew | exact HK.out _ (HB1.out.alloc HB1.out.size _) | exact HK.out _ HB1.out)
    (first
      | (go_at_call 29; refine (HR.out _).mono ?_; rintro e w1 ⟨rfl, hb1⟩; have HB1 : Hid (Below W.heap.size W w1) := Lib.hid ((Below.refl _ _).drew.trans hb1); clear hb1)
      | (go_at_call 54; refine (HC.out _).mono ?_; rintro e w' ⟨rfl, rfl⟩)
      | (go_at_call 53; refine (HO.out _ _ _ (by simp [go_sem]) (by simp [go_sem])).mono ?_; rintro e w' ⟨rfl, rfl⟩))
  go_wp2
  go_ret
  exact ⟨rfl, HWB.out _ (HB1.out.alloc HB1.out.size _)⟩

end Go.Proofs.YtinbdneajbommaaDoor

