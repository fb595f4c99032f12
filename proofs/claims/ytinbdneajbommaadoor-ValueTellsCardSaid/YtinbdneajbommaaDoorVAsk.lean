/-
  value.Equal, Less: contracts for the walks.
-/
import Derived.Test.YtinbdneajbommaaDoorVCmp
import Derived.Test.YtinbdneajbommaaDoorVValid
import Derived.Test.YtinbdneajbommaaDoorVAskP
import Derived.Test.YtinbdneajbommaaDoorFNaN
import Derived.Test.YtinbdneajbommaaDoorVAt
set_option linter.unusedVariables false
set_option maxRecDepth 100000
namespace Go.Proofs.YtinbdneajbommaaDoor
open Go.RowKit

set_option maxHeartbeats 400000 in
theorem nanA_any {w : World} (k n : Int) (f : Nat) (s : ByteArray) :
    Calls Tryd.prog 36 #[.agg #[.int .i64 k, .int .i64 n, .float .f64 f, .string s]] w fun e w' => e = .returned (.bool (nanA k f)) ∧ Below w.heap.size w w' := by
  have HN : Hid (∀ w, Calls Tryd.prog 59 #[.float .f64 f] w fun e w' => e = .returned (.bool (nanB f)) ∧ w = w') := Lib.hid fun w => isNaN_any (w := w) f
  unfold nanA
  generalize nanB f = y at *
  obtain ⟨x, hx⟩ : ∃ x, (k == 3) = x := ⟨_, rfl⟩
  rw [hx]
  cases x
  · go_enter Tryd.func36, Tryd.ntmps36
    go_wp2
    go_ret
    exact ⟨rfl, box_below (Below.refl _ _)⟩
  · go_enter Tryd.func36, Tryd.ntmps36
    go_wp2_with fail
    refine (HN.out _).mono ?_; rintro e w1 ⟨rfl, rfl⟩
    go_wp2
    go_ret
    exact ⟨ret_bool (by simp), box_below (Below.refl _ _)⟩

set_option maxHeartbeats 400000 in
theorem noneA_any {w : World} (k n : Int) (f : Nat) (s : ByteArray) :
    Calls Tryd.prog 58 #[.agg #[.int .i64 k, .int .i64 n, .float .f64 f, .string s]] w fun e w' => e = .returned (.bool (noneA ⟨k, n, f, s⟩)) ∧ Below w.heap.size w w' := by
  have HN := Lib.hid fun w => nanA_any (w := w) k n f s
  have e : noneA ⟨k, n, f, s⟩ = (k == 0 || nanA k f) := rfl
  rw [e]
  clear e
  generalize nanA k f = y at *
  obtain ⟨x, hx⟩ : ∃ x, (k == 0) = x := ⟨_, rfl⟩
  rw [hx]
  cases x
  · go_enter Tryd.func58, Tryd.ntmps58
    go_wp2_with fail
    refine (HN.out _).mono ?_; rintro e w1 ⟨rfl, hb1⟩
    go_wp2
    go_ret
    exact ⟨ret_bool (by simp), box_below hb1⟩
  · go_enter Tryd.func58, Tryd.ntmps58
    go_wp2
    go_ret
    exact ⟨rfl, box_below (Below.refl _ _)⟩

set_option maxHeartbeats 800000 in
theorem noneV_any {w : World} {k n : Int} {f : Nat} {s : ByteArray} {q : Option Addr} {m c : Nat} {l : List At} (h : VaOk w ⟨k, n, f, s⟩ q m c l) :
    Calls Tryd.prog 31 #[.agg #[.int .i64 k, .int .i64 n, .float .f64 f, .string s, .slice q m c]] w fun e w' => e = .returned (.bool (noneV ⟨k, n, f, s⟩ l)) ∧ Below w.heap.size w w' := by
  have HN := Lib.hid fun w => noneA_any (w := w) k n f s
  have eg : ∀ args (w : World), (callFunc 58 args).run Tryd.prog w = .ok (.enter 58 args) w := fun _ _ => rfl
  have HC : ∀ w1, Below w.heap.size w w1 → Calls Tryd.prog 22 #[.slice q m c, .func (.func 58) #[] #[]] w1 fun e w' => e = .returned (.bool (l.any noneA)) ∧ Below w1.heap.size w1 w' :=
    fun w1 hb => contains_any eg (fun w a ha => noneA_any a.k a.n a.f a.s) h.hn h.h1 h.h2 (h.hl.below hb) h.hok
  replace HC := Lib.hid HC
  have e : noneV ⟨k, n, f, s⟩ l = (noneA ⟨k, n, f, s⟩ || l.any noneA) := rfl
  rw [e]
  clear e h
  generalize noneA ⟨k, n, f, s⟩ = x at *
  generalize l.any noneA = y at *
  go_enter Tryd.func31, Tryd.ntmps31
  go_wp2_with fail
  refine (HN.out _).mono ?_; rintro e w1 ⟨rfl, hb1⟩
  have c4 := box_cell hb1 4
  have HB1 := Lib.hid (box_below hb1)
  clear hb1
  cases x
  · go_wp2_with fail
    refine (HC.out _ HB1.out).mono ?_; rintro e w2 ⟨rfl, hb2⟩
    go_wp2
    go_ret
    exact ⟨ret_bool (by simp), HB1.out.trans (hb2.mono HB1.out.size)⟩
  · go_wp2
    go_ret
    exact ⟨rfl, HB1.out⟩

set_option maxHeartbeats 800000 in
theorem unkV_any {w : World} {k n : Int} {f : Nat} {s : ByteArray} {q : Option Addr} {m c : Nat} {l : List At} (h : VaOk w ⟨k, n, f, s⟩ q m c l) :
    Calls Tryd.prog 30 #[.agg #[.int .i64 k, .int .i64 n, .float .f64 f, .string s, .slice q m c]] w fun e w' => e = .returned (.bool (unkV ⟨k, n, f, s⟩ l)) ∧ Below w.heap.size w w' := by
  have HV : Hid (∀ w1, Below w.heap.size w w1 → Calls Tryd.prog 7 #[.agg #[.int .i64 k, .int .i64 n, .float .f64 f, .string s, .slice q m c]] w1 fun e w' => e = .returned (.bool (validV ⟨k, n, f, s⟩ l)) ∧ Below w1.heap.size w1 w') := Lib.hid fun w1 hb => valid_any (h.below hb)
  have e : unkV ⟨k, n, f, s⟩ l = (k == 0 || !validV ⟨k, n, f, s⟩ l) := rfl
  rw [e]
  clear e h
  generalize validV ⟨k, n, f, s⟩ l = y at *
  obtain ⟨x, hx⟩ : ∃ x, (k == 0) = x := ⟨_, rfl⟩
  rw [hx]
  have HB0 := Lib.hid (box_below (Below.refl (w.alloc (.cells #[.int .i64 k, .int .i64 n, .float .f64 f, .string s, .slice q m c] 27)).heap.size (w.alloc (.cells #[.int .i64 k, .int .i64 n, .float .f64 f, .string s, .slice q m c] 27))))
  cases x
  · go_enter Tryd.func30, Tryd.ntmps30
    go_wp2_with fail
    refine (HV.out _ HB0.out).mono ?_; rintro e w1 ⟨rfl, hb1⟩
    go_wp2
    go_ret
    exact ⟨ret_bool (by simp), box_below hb1⟩
  · go_enter Tryd.func30, Tryd.ntmps30
    go_wp2
    go_ret
    exact ⟨rfl, HB0.out⟩

set_option maxHeartbeats 400000 in
theorem answer_any {w : World} (b : Bool) :
    Calls Tryd.prog 32 #[.bool b] w fun e w' => e = .returned (.int .i64 (ansI b)) ∧ w = w' := by
  cases b
  all_goals
    go_enter Tryd.func32, Tryd.ntmps32
    go_wp2
    go_ret
    exact ⟨rfl, rfl⟩

set_option maxHeartbeats 400000 in
theorem like_any {w : World} (k n : Int) (f : Nat) (s : ByteArray) (k' n' : Int) (g : Nat) (t : ByteArray) (hn1 : -9223372036854775808 ≤ n) (hn2 : n ≤ 9223372036854775807) (hf : f < 18446744073709551616)
    (hn1' : -9223372036854775808 ≤ n') (hn2' : n' ≤ 9223372036854775807) (hg : g < 18446744073709551616) :
    Calls Tryd.prog 28 #[.agg #[.int .i64 k, .int .i64 n, .float .f64 f, .string s], .agg #[.int .i64 k', .int .i64 n', .float .f64 g, .string t]] w fun e w' => e = .returned (.bool (likeA ⟨k, n, f, s⟩ ⟨k', n', g, t⟩)) ∧ Below w.heap.size w w' := by
  have HW := Lib.hid (fun w => weigh_any (w := w) k n f s k' n' g t hn1 hn2 hf hn1' hn2' hg)
  have e : likeA ⟨k, n, f, s⟩ ⟨k', n', g, t⟩ = (weighA ⟨k, n, f, s⟩ ⟨k', n', g, t⟩ == 0) := rfl
  rw [e]
  clear e hn1 hn2 hf hn1' hn2' hg
  generalize weighA ⟨k, n, f, s⟩ ⟨k', n', g, t⟩ = x at *
  go_enter Tryd.func28, Tryd.ntmps28
  go_wp2_with fail
  refine (HW.out _).mono ?_; rintro e w1 ⟨rfl, hb1⟩
  go_wp2
  go_ret
  exact ⟨rfl, box2_below hb1⟩

set_option maxHeartbeats 1600000 in
theorem equalFunc_any {w : World} {q q' : Option Addr} {m c m' c' : Nat} {l r : List At} (hn : m = l.length) (h1 : m ≤ c) (h2 : c ≤ 9223372036854775807) (hl : As w q l) (hok : ∀ a ∈ l, a.Ok)
    (hn' : m' = r.length) (h1' : m' ≤ c') (h2' : c' ≤ 9223372036854775807) (hr : As w q' r) (hok' : ∀ a ∈ r, a.Ok) :
    Calls Tryd.prog 33 #[.slice q m c, .slice q' m' c', .func (.func 28) #[] #[]] w fun e w' => e = .returned (.bool (likeLs l r)) ∧ Below w.heap.size w w' := by
  have HM : ∀ a b : At, a.Ok → b.Ok → ∀ w1, Calls Tryd.prog 28 #[a.cell, b.cell] w1 fun e w' => e = .returned (.bool (likeA a b)) ∧ Below w1.heap.size w1 w' :=
    fun a b ha hb w1 => like_any a.k a.n a.f a.s b.k b.n b.f b.s ha.n1 ha.n2 ha.f1 hb.n1 hb.n2 hb.f1
  replace HM := Lib.hid HM
  have eg : ∀ args (w : World), (callFunc 28 args).run Tryd.prog w = .ok (.enter 28 args) w := fun _ _ => rfl
  have hst := store_flt
  have e : likeLs l r = (decide (m = m') && (l.zip r).all fun p => likeA p.1 p.2) := by rw [hn, hn']; rfl
  rw [e]
  clear e
  have HL := Lib.hid hl
  have HR := Lib.hid hr
  have HN := Lib.hid hn
  have HN' := Lib.hid hn'
  have HO := Lib.hid hok
  have HO' := Lib.hid hok'
  clear hl hr hn hn' hok hok'
  by_cases hm : m = m'
  · subst hm
    have hm1 : ((m : Int) != (m : Int)) = false := by simp
    go_enter Tryd.func33, Tryd.ntmps33
    go_wp2
    go_loopw [17] (fun i wr => ∃ j : Nat, i = .int .i64 j ∧ j ≤ m ∧ Below w.heap.size w wr ∧ ((l.zip r).take j).all (fun p => likeA p.1 p.2) = true) (fun i _ => m - (intOf i).toNat)
    case atStart => exact ⟨0, rfl, by omega, Below.refl _ _, rfl⟩
    case round =>
      obtain ⟨j, rfl, hj, hb, hany⟩ := hrel
      have HB := Lib.hid hb
      have HAN := Lib.hid hany
      clear hb hany
      by_cases hlt : j < m
      · have hjl : j < l.length := by have := HN.out; omega
        have hjr : j < r.length := by have := HN'.out; omega
        obtain ⟨a, ha⟩ : ∃ a, l[j]? = some a := ⟨_, List.getElem?_eq_getElem hjl⟩
        obtain ⟨b, hb⟩ : ∃ a, r[j]? = some a := ⟨_, List.getElem?_eq_getElem hjr⟩
        obtain ⟨b1, o1, rfl, hc⟩ := HL.out.at ha
        obtain ⟨b2, o2, rfl, hd⟩ := HR.out.at hb
        obtain ⟨c0, c1, c2, c3⟩ := hc.below HB.out
        obtain ⟨d0, d1, d2, d3⟩ := hd.below HB.out
        have hblt := (hc.below HB.out).lt
        have hblt' := (hd.below HB.out).lt
        have HT := Lib.hid (all_zip_take (p := fun p => likeA p.1 p.2) ha hb)
        have HF := Lib.hid (fun h => all_zip_false (p := fun p => likeA p.1 p.2) ha hb h)
        have HC := Lib.hid (HM.out a b (HO.out a (List.mem_of_getElem? ha)) (HO'.out b (List.mem_of_getElem? hb)))
        clear hc hd ha hb hjl hjr
        simp only at HT HF
        generalize likeA a b = x at *
        go_wp2_with fail
        refine (HC.out _).mono ?_; rintro e w3 ⟨rfl, hb3⟩
        have HB3 : Hid (Below w.heap.size w w3) := Lib.hid (HB.out.trans ((box2_below hb3).mono HB.out.size))
        clear hb3 c0 c1 c2 c3 d0 d1 d2 d3
        cases x
        · go_wp2
          go_ret
          exact ⟨ret_bool (by rw [HF.out (by trivial)]; simp), HB3.out⟩
        · go_wp2
          go_roundw
          case rel => exact ⟨j + 1, by go_num, by omega, HB3.out, by rw [HT.out, HAN.out]; rfl⟩
          case measure => simp [intOf]; omega
      · go_wp2
        go_ret
        refine ⟨ret_bool ?_, HB.out⟩
        have h3 := HAN.out
        rw [List.take_of_length_le (by rw [List.length_zip]; have := HN.out; omega)] at h3
        rw [h3]
        simp
  · have hm1 : ((m : Int) != (m' : Int)) = true := by simp; omega
    go_enter Tryd.func33, Tryd.ntmps33
    go_wp2
    go_ret
    exact ⟨ret_bool (by simp [hm]), Below.refl _ _⟩

end Go.Proofs.YtinbdneajbommaaDoor
