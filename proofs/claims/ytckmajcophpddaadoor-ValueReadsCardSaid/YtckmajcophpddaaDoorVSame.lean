/-
  The reference's Same: its contract.
-/
import Derived.Test.YtckmajcophpddaaDoorVAt
import Derived.Test.YtckmajcophpddaaDoorVRefB
import Derived.StillTailTactics
set_option linter.unusedVariables false
set_option maxRecDepth 100000
namespace Go.Proofs.YtckmajcophpddaaDoor
open Go.RowKit

set_option maxHeartbeats 1600000 in
theorem sameAtom_any {w : World} (k n : Int) (f : Nat) (s : ByteArray) (k' n' : Int) (g : Nat) (t : ByteArray) :
    Calls Tryd.prog 14 #[.agg #[.int .i64 k, .int .i64 n, .float .f64 f, .string s], .agg #[.int .i64 k', .int .i64 n', .float .f64 g, .string t]] w fun e w' => e = .returned (.bool (sameA ⟨k, n, f, s⟩ ⟨k', n', g, t⟩)) ∧ Below w.heap.size w w' := by
  have HX := Lib.hid (fun (w : World) (f : Nat) => vBits_any (w := w) f)
  have e : sameA ⟨k, n, f, s⟩ ⟨k', n', g, t⟩ = ((k == k') && ((n == n') && ((f : Int) == (g : Int) && s.toList == t.toList))) := rfl
  obtain ⟨x, hk⟩ : ∃ x, (k == k') = x := ⟨_, rfl⟩
  obtain ⟨y, hn⟩ : ∃ x, (n == n') = x := ⟨_, rfl⟩
  obtain ⟨z, hf⟩ : ∃ x, ((f : Int) == (g : Int)) = x := ⟨_, rfl⟩
  rw [e, hk, hn, hf]
  clear e
  cases x
  · go_enter Tryd.func14, Tryd.ntmps14
    go_wp2
    go_quiet (fail)
    go_wp2
    go_ret
    exact ⟨rfl, belowN (box2_below (Below.refl _ _)) _⟩
  cases y
  · go_enter Tryd.func14, Tryd.ntmps14
    go_wp2
    go_quiet (fail)
    go_wp2
    go_ret
    exact ⟨rfl, belowN (box2_below (Below.refl _ _)) _⟩
  cases z
  · go_enter Tryd.func14, Tryd.ntmps14
    go_wp2
    go_quiet ((go_at_call 27; exact Calls.quiet_of_same (HX.out _ _)))
    go_wp2
    go_ret
    exact ⟨rfl, belowN (box2_below (Below.refl _ _)) _⟩
  · go_enter Tryd.func14, Tryd.ntmps14
    go_wp2
    go_quiet ((go_at_call 27; exact Calls.quiet_of_same (HX.out _ _)))
    go_wp2
    go_ret
    exact ⟨ret_bool (by simp), belowN (box2_below (Below.refl _ _)) _⟩

set_option maxHeartbeats 3200000 in
theorem same_any {w : World} {k n : Int} {f : Nat} {s : ByteArray} {q : Option Addr} {m c : Nat} {l : List At} (h : VaOk w ⟨k, n, f, s⟩ q m c l)
    {k' n' : Int} {g : Nat} {t : ByteArray} {q' : Option Addr} {m' c' : Nat} {r : List At} (h' : VaOk w ⟨k', n', g, t⟩ q' m' c' r) :
    Calls Tryd.prog 7 #[.agg #[.int .i64 k, .int .i64 n, .float .f64 f, .string s, .slice q m c], .agg #[.int .i64 k', .int .i64 n', .float .f64 g, .string t, .slice q' m' c']] w fun e w' => e = .returned (.bool (sameV ⟨k, n, f, s⟩ l ⟨k', n', g, t⟩ r)) ∧ Below w.heap.size w w' := by
  have HA := Lib.hid (fun w => sameAtom_any (w := w) k n f s k' n' g t)
  have HB : ∀ (a b : At) (w1 : World), Calls Tryd.prog 14 #[a.cell, b.cell] w1 fun e w' => e = .returned (.bool (sameA a b)) ∧ Below w1.heap.size w1 w' :=
    fun a b w1 => sameAtom_any a.k a.n a.f a.s b.k b.n b.f b.s
  replace HB := Lib.hid HB
  obtain ⟨_, hn, h1, h2, hl, _⟩ := h
  obtain ⟨_, hn', h1', h2', hr, _⟩ := h'
  have e : sameV ⟨k, n, f, s⟩ l ⟨k', n', g, t⟩ r = (sameA ⟨k, n, f, s⟩ ⟨k', n', g, t⟩ && (decide (m = m') && ((l.zip r).all fun p => sameA p.1 p.2))) := by rw [hn, hn']; rfl
  rw [e]
  clear e
  generalize sameA ⟨k, n, f, s⟩ ⟨k', n', g, t⟩ = x at *
  have HL := Lib.hid hl
  have HR := Lib.hid hr
  have HN := Lib.hid hn
  have HN' := Lib.hid hn'
  clear hl hr hn hn'
  cases x
  · go_enter Tryd.func7, Tryd.ntmps7
    go_wp2_with fail
    refine (HA.out _).mono ?_; rintro e w1 ⟨rfl, hb1⟩
    go_wp2
    go_ret
    exact ⟨rfl, box2_below hb1⟩
  by_cases hm : m = m'
  · subst hm
    have hm1 : ((m : Int) != (m : Int)) = false := by simp
    go_enter Tryd.func7, Tryd.ntmps7
    go_wp2_with fail
    refine (HA.out _).mono ?_; rintro e w1 ⟨rfl, hb1⟩
    obtain ⟨c4, d4⟩ := box2_cell hb1 4
    have HB1 := Lib.hid hb1
    clear hb1
    go_wp2
    go_loopw [5] (fun i wr => ∃ j : Nat, i = .int .i64 j ∧ j ≤ m ∧ Below ((w.alloc (.cells #[.int .i64 k, .int .i64 n, .float .f64 f, .string s, .slice q m c] 27)).alloc (.cells #[.int .i64 k', .int .i64 n', .float .f64 g, .string t, .slice q' m c'] 27)).heap.size ((w.alloc (.cells #[.int .i64 k, .int .i64 n, .float .f64 f, .string s, .slice q m c] 27)).alloc (.cells #[.int .i64 k', .int .i64 n', .float .f64 g, .string t, .slice q' m c'] 27)) wr ∧ ((l.zip r).take j).all (fun p => sameA p.1 p.2) = true) (fun i _ => m - (intOf i).toNat)
    case atStart => exact ⟨0, rfl, by omega, HB1.out, rfl⟩
    case round =>
      clear c4 d4 HB1
      obtain ⟨j, rfl, hj, hb, hany⟩ := hrel
      obtain ⟨c4, d4⟩ := box2_cell hb 4
      have HBW := Lib.hid hb
      have HAN := Lib.hid hany
      clear hb hany
      by_cases hlt : j < m
      · have hjl : j < l.length := by have := HN.out; omega
        have hjr : j < r.length := by have := HN'.out; omega
        obtain ⟨a, ha⟩ : ∃ a, l[j]? = some a := ⟨_, List.getElem?_eq_getElem hjl⟩
        obtain ⟨b, hb⟩ : ∃ a, r[j]? = some a := ⟨_, List.getElem?_eq_getElem hjr⟩
        obtain ⟨b1, o1, rfl, hc⟩ := HL.out.at ha
        obtain ⟨b2, o2, rfl, hd⟩ := HR.out.at hb
        obtain ⟨c0, c1, c2, c3⟩ := hc.below (box2_below HBW.out)
        obtain ⟨d0, d1, d2, d3⟩ := hd.below (box2_below HBW.out)
        have HT := Lib.hid (all_zip_take (p := fun p => sameA p.1 p.2) ha hb)
        have HF := Lib.hid (fun h => all_zip_false (p := fun p => sameA p.1 p.2) ha hb h)
        have HM := Lib.hid (HB.out a b)
        clear hc hd ha hb hjl hjr
        simp only at HT HF
        generalize sameA a b = x at *
        have hj0 : (0 : Int) ≤ j := by omega
        have hj1 : (j : Int) < m := by omega
        go_wp2
        go_still_tail 10, (by kernel_rfl)
        change wpList _ _ _ _ _ wr.drew
        have HBD : Hid (Below _ _ wr.drew) := Lib.hid (HBW.out.trans ⟨rfl, rfl, rfl, Nat.le_refl _, fun _ _ => rfl⟩)
        generalize wr.drew = w2 at *
        go_wp2_with fail
        refine (HM.out _).mono ?_; rintro e w3 ⟨rfl, hb3⟩
        have HB3 := Lib.hid (HBD.out.trans (hb3.mono HBD.out.size))
        clear hb3
        cases x
        · go_wp2
          go_ret
          exact ⟨ret_bool (by rw [HF.out trivial]; simp), box2_below HB3.out⟩
        · go_wp2
          go_roundw
          case rel => exact ⟨j + 1, by go_num, by omega, HB3.out, by rw [HT.out, HAN.out]; rfl⟩
          case measure => simp [intOf]; omega
      · go_wp2
        go_ret
        refine ⟨ret_bool ?_, box2_below HBW.out⟩
        have h3 := HAN.out
        rw [List.take_of_length_le (by rw [List.length_zip]; have := HN.out; omega)] at h3
        rw [h3]
        simp
  · have hm1 : ((m : Int) != (m' : Int)) = true := by simp; omega
    go_enter Tryd.func7, Tryd.ntmps7
    go_wp2_with fail
    refine (HA.out _).mono ?_; rintro e w1 ⟨rfl, hb1⟩
    obtain ⟨c4, d4⟩ := box2_cell hb1 4
    have HB1 := Lib.hid hb1
    clear hb1
    go_wp2
    go_ret
    exact ⟨ret_bool (by simp [hm]), box2_below HB1.out⟩

end Go.Proofs.YtckmajcophpddaaDoor
