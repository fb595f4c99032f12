/-
  ShareHalves: the walk of the law.
-/
import Derived.Test.YtigmibmebockhaaShOwn
import Derived.Test.YtigmibmebockhaaShFits
import Derived.Test.YtigmibmebockhaaBand
set_option linter.unusedVariables false
set_option linter.unusedSimpArgs false
set_option maxRecDepth 100000
namespace Go.Proofs.Ytigmibmebockhaa
open Go.RowKit

theorem band10_in (a : Int) : ∃ x : Int, bits BinOp.and IntKind.i64 a 1023 = x ∧ 0 ≤ x ∧ x ≤ 1023 := by
  have h := band10 a
  have h1 := Int.emod_nonneg a (show (1024 : Int) ≠ 0 by decide)
  have h2 := Int.emod_lt_of_pos a (show (0 : Int) < 1024 by decide)
  exact ⟨_, h, h1, by omega⟩
theorem band12_in (a : Int) : ∃ x : Int, bits BinOp.and IntKind.i64 a 4095 = x ∧ 0 ≤ x ∧ x ≤ 4095 := by
  have h := band12 a
  have h1 := Int.emod_nonneg a (show (4096 : Int) ≠ 0 by decide)
  have h2 := Int.emod_lt_of_pos a (show (0 : Int) < 4096 by decide)
  exact ⟨_, h, h1, by omega⟩
theorem tmod_in {y T : Int} (hy : 0 ≤ y) (hT : 0 ≤ T) : ∃ n : Int, y.tmod (T + 1) = n ∧ 0 ≤ n ∧ n ≤ T := by
  have h := Int.tmod_eq_emod_of_nonneg (a := y) (b := T + 1) hy
  have h1 := Int.emod_nonneg y (show (T + 1) ≠ 0 by omega)
  have h2 := Int.emod_lt_of_pos y (show (0 : Int) < T + 1 by omega)
  exact ⟨_, h, h1, by omega⟩

/-- What the law has gathered. -/
structure HvL (w0 w : World) (M T : Int) (v : Value) (L : List Int) (j : Nat) (S : Int) : Prop where
  own : OwnI w w0.heap.size v L
  below : Below w0.heap.size w0 w
  len : L.length = j
  sum : S = L.sum
  each : ∀ x ∈ L, 0 ≤ x ∧ x ≤ T
  most : S ≤ M + T
  low : 0 ≤ S

set_option maxHeartbeats 6400000 in
theorem shareHalves_law {w : World} {q : Option Addr} {m c : Nat} {l : List Int} (h : KsOk w q m c l) (most : Int) :
    Calls Try.prog 6 #[.slice q m c, .int .i64 most] w (YesPost w true) := by
  obtain ⟨z, hz, hz1, hz2⟩ := band10_in most
  obtain ⟨M, hM, hM1, hM2⟩ : ∃ m : Int, wrap64 (9 + z) = m ∧ 9 ≤ m ∧ m ≤ 1032 := ⟨9 + z, IntWalk.wrap64_in _ (by omega), by omega, by omega⟩
  obtain ⟨T, hT, hT1, hT2, hT3⟩ : ∃ v : Int, M.tdiv 3 = v ∧ v = M / 3 ∧ 3 ≤ v ∧ v ≤ 344 := ⟨M / 3, Int.tdiv_eq_ediv_of_nonneg (by omega), rfl, by omega, by omega⟩
  have HT1 := Lib.hid hT1
  clear hz1 hz2 hT1
  obtain ⟨rfl, hc1, hc2, hk⟩ := h
  have HK := Lib.hid hk
  clear hk
  go_enter Try.func6, Try.ntmps6
  go_wp2
  rw [hM]
  clear hM hz hT
  go_loopw [6, 7, 8] (fun v6 x i wr => ∃ (j : Nat) (S : Int) (L : List Int), x = .int .i64 S ∧ i = .int .i64 (j : Int) ∧ j ≤ l.length ∧ j ≤ 400 ∧ HvL w wr M T v6 L j S) (fun _ _ i _ => l.length - (intOf i).toNat)
  case atStart => exact ⟨0, 0, [], rfl, rfl, by omega, by omega, ⟨OwnI.nil _ _, Below.refl _ _, rfl, rfl, fun x hx => (by cases hx), by omega, by omega⟩⟩
  case round =>
    obtain ⟨j, S, L, rfl, rfl, hj, hj4, hv⟩ := hrel
    have HV := Lib.hid hv
    have hS1 := hv.most
    have hS2 := hv.low
    obtain ⟨q6, c6, rfl, hok⟩ := hv.own.ok
    have hlen := hv.len
    rw [hlen] at hok
    rw [hlen] at HV
    have HOK := Lib.hid hok
    have HLEN := Lib.hid hlen
    rw [hlen]
    have hc6 := hok.h2
    have hc61 := hok.h1
    clear hv hok hlen
    by_cases h1 : j < l.length
    · have e1 : decide ((j : Int) < (l.length : Int)) = true := decide_eq_true (by omega)
      by_cases h2 : j < 400
      · have e2 : decide ((j : Int) < 400) = true := decide_eq_true (by omega)
        by_cases h3 : S ≤ M
        · have e3 : decide (S ≤ M) = true := decide_eq_true h3
          obtain ⟨x, hx⟩ : ∃ x, l[j]? = some x := ⟨_, List.getElem?_eq_getElem h1⟩
          obtain ⟨b, o, hq, hcell⟩ := (HK.out.below HV.out.below).at hx
          obtain ⟨y, hy, hy1, hy2⟩ := band12_in x
          obtain ⟨n, hn, hn1, hn2⟩ := tmod_in hy1 (T := T) (by omega)
          have HSV : Hid (Below w.heap.size w (wr.alloc (.cells #[.int .i64 n] 3))) := Lib.hid (HV.out.below.alloc HV.out.below.size _)
          have HOW : Hid (OwnI (wr.alloc (.cells #[.int .i64 n] 3)) w.heap.size (.slice q6 j c6) L) := Lib.hid (HV.out.own.below ((Below.refl _ _).alloc (Nat.le_refl _) _))
          subst hq
          clear hx
          go_wp2_with (at_builtin; go_loud (refine app_ints rfl (.tmp 44) (.tmp 46) rfl rfl HOW.out rfl ((Joins.cell_of_block (heap_alloc_new wr _) 0).trans rfl) (by rw [HLEN.out]; omega) HSV.out.size ?_; intro v7 w7 ho7 hg7; have HO7 := Lib.hid ho7; have HB7 := Lib.hid (own_grown HSV.out HOW.out hg7); clear ho7 hg7))
          go_roundw
          case rel =>
            refine ⟨j + 1, S + n, L ++ [n], by go_num, by go_num, by omega, by omega, ⟨HO7.out, HB7.out, ?_, ?_, ?_, by omega, by omega⟩⟩
            · rw [List.length_append, HLEN.out]; rfl
            · rw [HV.out.sum]; simp
            · intro y hy
              rcases List.mem_append.1 hy with hy | hy
              · exact HV.out.each y hy
              · obtain rfl := List.mem_singleton.1 hy
                exact ⟨hn1, hn2⟩
          case measure => simp [intOf]; omega
        · have e3 : decide (S ≤ M) = false := decide_eq_false h3
          go_wp2_with fail
          refine (cut_any HOK.out M).mono ?_
          rintro e w1 ⟨k, f, rfl, hcut, hb1⟩
          have HB1 : Hid (Below w.heap.size w w1) := Lib.hid (HV.out.below.trans (hb1.mono HV.out.below.size))
          have HKW : Hid (∀ w', Below w1.heap.size w1 w' → Ks w' q6 L) := Lib.hid fun w' hb => (HOK.out.hl.below hb1).below hb
          have HCUT := Lib.hid hcut
          clear hb1 hcut
          go_wp2_with fail
          refine (cut_any (ks_two 1 1) 9).mono ?_
          rintro e w2 ⟨k2, f2, rfl, hc2', hb2⟩
          obtain ⟨rfl, rfl⟩ := hc2'.two (by omega) (by omega) (by omega)
          have hb12 : Below w1.heap.size w1 w2 := ((Below.refl _ _).alloc (Nat.le_refl _) _).trans (hb2.mono (((Below.refl w1.heap.size w1).alloc (Nat.le_refl _) (.cells #[.int .i64 1, .int .i64 1] 3)).size))
          have HB2 : Hid (Below w.heap.size w w2) := Lib.hid (HB1.out.trans (hb12.mono HB1.out.size))
          have HK2 := Lib.hid (HKW.out w2 hb12)
          clear hb2 hc2' hb12
          rw [show ((1 : Nat) : Int) = 1 from rfl]
          have HE20 : Hid (∀ x ∈ L, 0 ≤ x ∧ x ≤ 1048576) := Lib.hid fun x hx => by have := HV.out.each x hx; omega
          by_cases hSM : S ≤ M
          · have e5 : decide (S ≤ M) = true := decide_eq_true hSM
            have hf := sh_small HCUT.out (by omega) (by rw [HLEN.out]; omega) HE20.out (by rw [← HV.out.sum]; exact hSM)
            rw [HLEN.out] at hf
            by_cases hj1 : 1 < j
            · have e6 : decide ((1 : Int) < (j : Int)) = true := decide_eq_true (by omega)
              obtain rfl : f = true := hf.trans (decide_eq_true hj1)
              clear hf
              go_wp2
              go_ret
              exact ⟨rfl, HB2.out⟩
            · have e6 : decide ((1 : Int) < (j : Int)) = false := decide_eq_false (by omega)
              obtain rfl : f = false := hf.trans (decide_eq_false hj1)
              clear hf
              go_wp2
              go_ret
              exact ⟨rfl, HB2.out⟩
          · have e5 : decide (S ≤ M) = false := decide_eq_false hSM
            obtain ⟨rfl, hk1, hk2, hp1, hp2, hp3, hp4⟩ := sh_halves (b := 0) HCUT.out hM1 (by omega) (by rw [HLEN.out]; omega) (fun x hx => by have := HV.out.each x hx; have := HT1.out; omega) (by rw [← HV.out.sum]; omega) (by rw [← HV.out.sum]; have := HT1.out; omega)
            have hpq : Hid (shP L k + shQ L k = S) := Lib.hid ((shPQ L k).trans HV.out.sum.symm)
            have HP := Lib.hid (fun i => shP_bounds HE20.out (by omega) i)
            have HE21 := HE20
            have HP1 := Lib.hid hp1
            have HP2 := Lib.hid hp2
            have HP3 := Lib.hid hp3
            have HP4 := Lib.hid hp4
            have HKL := Lib.hid hk2
            rw [HLEN.out] at hk2
            clear hp1 hp2 hp3 hp4
            go_wp2
            go_loopw [14, 15] (fun x i w' => ∃ jj : Nat, x = .int .i64 (shP L jj) ∧ i = .int .i64 (jj : Int) ∧ jj ≤ k ∧ w' = w2) (fun _ i _ => k - (intOf i).toNat)
            case atStart => exact ⟨0, by rw [shP_zero], rfl, by omega, rfl⟩
            case round =>
              obtain ⟨jj, rfl, rfl, hjk, hww⟩ := hrel
              subst hww
              by_cases hjjk : jj < k
              · obtain ⟨x, hx⟩ : ∃ x, L[jj]? = some x := ⟨_, List.getElem?_eq_getElem (by have := HKL.out; omega)⟩
                obtain ⟨b, o, hq, hcell⟩ := HK2.out.at hx
                have hs := Lib.hid (shP_succ hx)
                have hx1 := HE20.out x (List.mem_of_getElem? hx)
                have hp := HP.out jj
                have hl4 := HLEN.out
                subst hq
                clear hx
                generalize shP L jj = p at *
                go_wp2
                go_roundw
                case rel => exact ⟨jj + 1, by rw [hs.out], by go_num, by omega, trivial⟩
                case measure => simp [intOf]; omega
              · obtain rfl : jj = k := by omega
                have h1 := HP1.out
                have h2 := HP2.out
                have h3 := HP3.out
                have h4 := HP4.out
                have h5 := hpq.out
                clear HP1 HP2 HP3 HP4 hpq
                generalize shP L jj = a at *
                generalize shQ L jj = b at *
                have e6 : decide (a ≤ M) = true := decide_eq_true (by omega)
                have e7 : decide (S - a ≤ M) = true := decide_eq_true (by omega)
                have e8 : decide (M - 2 ≤ 3 * a) = true := decide_eq_true (by omega)
                have e9 : decide (M - 2 ≤ 3 * (S - a)) = true := decide_eq_true (by omega)
                go_wp2
                go_ret
                exact ⟨rfl, HB2.out⟩
      · have e2 : decide ((j : Int) < 400) = false := decide_eq_false (by omega)
        go_wp2_with fail
        refine (cut_any HOK.out M).mono ?_
        rintro e w1 ⟨k, f, rfl, hcut, hb1⟩
        have HB1 : Hid (Below w.heap.size w w1) := Lib.hid (HV.out.below.trans (hb1.mono HV.out.below.size))
        have HKW : Hid (∀ w', Below w1.heap.size w1 w' → Ks w' q6 L) := Lib.hid fun w' hb => (HOK.out.hl.below hb1).below hb
        have HCUT := Lib.hid hcut
        clear hb1 hcut
        go_wp2_with fail
        refine (cut_any (ks_two 1 1) 9).mono ?_
        rintro e w2 ⟨k2, f2, rfl, hc2', hb2⟩
        obtain ⟨rfl, rfl⟩ := hc2'.two (by omega) (by omega) (by omega)
        have hb12 : Below w1.heap.size w1 w2 := ((Below.refl _ _).alloc (Nat.le_refl _) _).trans (hb2.mono (((Below.refl w1.heap.size w1).alloc (Nat.le_refl _) (.cells #[.int .i64 1, .int .i64 1] 3)).size))
        have HB2 : Hid (Below w.heap.size w w2) := Lib.hid (HB1.out.trans (hb12.mono HB1.out.size))
        have HK2 := Lib.hid (HKW.out w2 hb12)
        clear hb2 hc2' hb12
        rw [show ((1 : Nat) : Int) = 1 from rfl]
        have HE20 : Hid (∀ x ∈ L, 0 ≤ x ∧ x ≤ 1048576) := Lib.hid fun x hx => by have := HV.out.each x hx; omega
        by_cases hSM : S ≤ M
        · have e5 : decide (S ≤ M) = true := decide_eq_true hSM
          have hf := sh_small HCUT.out (by omega) (by rw [HLEN.out]; omega) HE20.out (by rw [← HV.out.sum]; exact hSM)
          rw [HLEN.out] at hf
          by_cases hj1 : 1 < j
          · have e6 : decide ((1 : Int) < (j : Int)) = true := decide_eq_true (by omega)
            obtain rfl : f = true := hf.trans (decide_eq_true hj1)
            clear hf
            go_wp2
            go_ret
            exact ⟨rfl, HB2.out⟩
          · have e6 : decide ((1 : Int) < (j : Int)) = false := decide_eq_false (by omega)
            obtain rfl : f = false := hf.trans (decide_eq_false hj1)
            clear hf
            go_wp2
            go_ret
            exact ⟨rfl, HB2.out⟩
        · have e5 : decide (S ≤ M) = false := decide_eq_false hSM
          obtain ⟨rfl, hk1, hk2, hp1, hp2, hp3, hp4⟩ := sh_halves (b := 0) HCUT.out hM1 (by omega) (by rw [HLEN.out]; omega) (fun x hx => by have := HV.out.each x hx; have := HT1.out; omega) (by rw [← HV.out.sum]; omega) (by rw [← HV.out.sum]; have := HT1.out; omega)
          have hpq : Hid (shP L k + shQ L k = S) := Lib.hid ((shPQ L k).trans HV.out.sum.symm)
          have HP := Lib.hid (fun i => shP_bounds HE20.out (by omega) i)
          have HE21 := HE20
          have HP1 := Lib.hid hp1
          have HP2 := Lib.hid hp2
          have HP3 := Lib.hid hp3
          have HP4 := Lib.hid hp4
          have HKL := Lib.hid hk2
          rw [HLEN.out] at hk2
          clear hp1 hp2 hp3 hp4
          go_wp2
          go_loopw [14, 15] (fun x i w' => ∃ jj : Nat, x = .int .i64 (shP L jj) ∧ i = .int .i64 (jj : Int) ∧ jj ≤ k ∧ w' = w2) (fun _ i _ => k - (intOf i).toNat)
          case atStart => exact ⟨0, by rw [shP_zero], rfl, by omega, rfl⟩
          case round =>
            obtain ⟨jj, rfl, rfl, hjk, hww⟩ := hrel
            subst hww
            by_cases hjjk : jj < k
            · obtain ⟨x, hx⟩ : ∃ x, L[jj]? = some x := ⟨_, List.getElem?_eq_getElem (by have := HKL.out; omega)⟩
              obtain ⟨b, o, hq, hcell⟩ := HK2.out.at hx
              have hs := Lib.hid (shP_succ hx)
              have hx1 := HE20.out x (List.mem_of_getElem? hx)
              have hp := HP.out jj
              have hl4 := HLEN.out
              subst hq
              clear hx
              generalize shP L jj = p at *
              go_wp2
              go_roundw
              case rel => exact ⟨jj + 1, by rw [hs.out], by go_num, by omega, trivial⟩
              case measure => simp [intOf]; omega
            · obtain rfl : jj = k := by omega
              have h1 := HP1.out
              have h2 := HP2.out
              have h3 := HP3.out
              have h4 := HP4.out
              have h5 := hpq.out
              clear HP1 HP2 HP3 HP4 hpq
              generalize shP L jj = a at *
              generalize shQ L jj = b at *
              have e6 : decide (a ≤ M) = true := decide_eq_true (by omega)
              have e7 : decide (S - a ≤ M) = true := decide_eq_true (by omega)
              have e8 : decide (M - 2 ≤ 3 * a) = true := decide_eq_true (by omega)
              have e9 : decide (M - 2 ≤ 3 * (S - a)) = true := decide_eq_true (by omega)
              go_wp2
              go_ret
              exact ⟨rfl, HB2.out⟩
    · have e1 : decide ((j : Int) < (l.length : Int)) = false := decide_eq_false (by omega)
      go_wp2_with fail
      refine (cut_any HOK.out M).mono ?_
      rintro e w1 ⟨k, f, rfl, hcut, hb1⟩
      have HB1 : Hid (Below w.heap.size w w1) := Lib.hid (HV.out.below.trans (hb1.mono HV.out.below.size))
      have HKW : Hid (∀ w', Below w1.heap.size w1 w' → Ks w' q6 L) := Lib.hid fun w' hb => (HOK.out.hl.below hb1).below hb
      have HCUT := Lib.hid hcut
      clear hb1 hcut
      go_wp2_with fail
      refine (cut_any (ks_two 1 1) 9).mono ?_
      rintro e w2 ⟨k2, f2, rfl, hc2', hb2⟩
      obtain ⟨rfl, rfl⟩ := hc2'.two (by omega) (by omega) (by omega)
      have hb12 : Below w1.heap.size w1 w2 := ((Below.refl _ _).alloc (Nat.le_refl _) _).trans (hb2.mono (((Below.refl w1.heap.size w1).alloc (Nat.le_refl _) (.cells #[.int .i64 1, .int .i64 1] 3)).size))
      have HB2 : Hid (Below w.heap.size w w2) := Lib.hid (HB1.out.trans (hb12.mono HB1.out.size))
      have HK2 := Lib.hid (HKW.out w2 hb12)
      clear hb2 hc2' hb12
      rw [show ((1 : Nat) : Int) = 1 from rfl]
      have HE20 : Hid (∀ x ∈ L, 0 ≤ x ∧ x ≤ 1048576) := Lib.hid fun x hx => by have := HV.out.each x hx; omega
      by_cases hSM : S ≤ M
      · have e5 : decide (S ≤ M) = true := decide_eq_true hSM
        have hf := sh_small HCUT.out (by omega) (by rw [HLEN.out]; omega) HE20.out (by rw [← HV.out.sum]; exact hSM)
        rw [HLEN.out] at hf
        by_cases hj1 : 1 < j
        · have e6 : decide ((1 : Int) < (j : Int)) = true := decide_eq_true (by omega)
          obtain rfl : f = true := hf.trans (decide_eq_true hj1)
          clear hf
          go_wp2
          go_ret
          exact ⟨rfl, HB2.out⟩
        · have e6 : decide ((1 : Int) < (j : Int)) = false := decide_eq_false (by omega)
          obtain rfl : f = false := hf.trans (decide_eq_false hj1)
          clear hf
          go_wp2
          go_ret
          exact ⟨rfl, HB2.out⟩
      · have e5 : decide (S ≤ M) = false := decide_eq_false hSM
        obtain ⟨rfl, hk1, hk2, hp1, hp2, hp3, hp4⟩ := sh_halves (b := 0) HCUT.out hM1 (by omega) (by rw [HLEN.out]; omega) (fun x hx => by have := HV.out.each x hx; have := HT1.out; omega) (by rw [← HV.out.sum]; omega) (by rw [← HV.out.sum]; have := HT1.out; omega)
        have hpq : Hid (shP L k + shQ L k = S) := Lib.hid ((shPQ L k).trans HV.out.sum.symm)
        have HP := Lib.hid (fun i => shP_bounds HE20.out (by omega) i)
        have HE21 := HE20
        have HP1 := Lib.hid hp1
        have HP2 := Lib.hid hp2
        have HP3 := Lib.hid hp3
        have HP4 := Lib.hid hp4
        have HKL := Lib.hid hk2
        rw [HLEN.out] at hk2
        clear hp1 hp2 hp3 hp4
        go_wp2
        go_loopw [14, 15] (fun x i w' => ∃ jj : Nat, x = .int .i64 (shP L jj) ∧ i = .int .i64 (jj : Int) ∧ jj ≤ k ∧ w' = w2) (fun _ i _ => k - (intOf i).toNat)
        case atStart => exact ⟨0, by rw [shP_zero], rfl, by omega, rfl⟩
        case round =>
          obtain ⟨jj, rfl, rfl, hjk, hww⟩ := hrel
          subst hww
          by_cases hjjk : jj < k
          · obtain ⟨x, hx⟩ : ∃ x, L[jj]? = some x := ⟨_, List.getElem?_eq_getElem (by have := HKL.out; omega)⟩
            obtain ⟨b, o, hq, hcell⟩ := HK2.out.at hx
            have hs := Lib.hid (shP_succ hx)
            have hx1 := HE20.out x (List.mem_of_getElem? hx)
            have hp := HP.out jj
            have hl4 := HLEN.out
            subst hq
            clear hx
            generalize shP L jj = p at *
            go_wp2
            go_roundw
            case rel => exact ⟨jj + 1, by rw [hs.out], by go_num, by omega, trivial⟩
            case measure => simp [intOf]; omega
          · obtain rfl : jj = k := by omega
            have h1 := HP1.out
            have h2 := HP2.out
            have h3 := HP3.out
            have h4 := HP4.out
            have h5 := hpq.out
            clear HP1 HP2 HP3 HP4 hpq
            generalize shP L jj = a at *
            generalize shQ L jj = b at *
            have e6 : decide (a ≤ M) = true := decide_eq_true (by omega)
            have e7 : decide (S - a ≤ M) = true := decide_eq_true (by omega)
            have e8 : decide (M - 2 ≤ 3 * a) = true := decide_eq_true (by omega)
            have e9 : decide (M - 2 ≤ 3 * (S - a)) = true := decide_eq_true (by omega)
            go_wp2
            go_ret
            exact ⟨rfl, HB2.out⟩

end Go.Proofs.Ytigmibmebockhaa
