/-
  slices.CompareFunc at atoms, value.Compare: contracts for the walks.
-/
import Derived.Test.YtinbdneajbommaaDoorVCmp
import Derived.Test.YtinbdneajbommaaDoorVValid
set_option linter.unusedVariables false
set_option maxRecDepth 100000
namespace Go.Proofs.YtinbdneajbommaaDoor
open Go.RowKit

theorem cmpLs_nil (r : List At) : cmpLs [] r = if 0 < r.length then -1 else 0 := by
  cases r with
  | nil => rfl
  | cons a r => simp [cmpLs]

set_option maxHeartbeats 1600000 in
theorem compareFunc_any {w : World} {q q' : Option Addr} {m c m' c' : Nat} {l r : List At} (hn : m = l.length) (h1 : m ≤ c) (h2 : c ≤ 9223372036854775807) (hl : As w q l) (hok : ∀ a ∈ l, a.Ok)
    (hn' : m' = r.length) (h1' : m' ≤ c') (h2' : c' ≤ 9223372036854775807) (hr : As w q' r) (hok' : ∀ a ∈ r, a.Ok) :
    Calls Tryd.prog 26 #[.slice q m c, .slice q' m' c', .func (.func 25) #[] #[]] w fun e w' => e = .returned (.int .i64 (cmpLs l r)) ∧ Below w.heap.size w w' := by
  have HM : ∀ a b : At, a.Ok → b.Ok → ∀ w1, Calls Tryd.prog 25 #[a.cell, b.cell] w1 fun e w' => e = .returned (.int .i64 (cmpA a b)) ∧ Below w1.heap.size w1 w' :=
    fun a b ha hb w1 => compareAtoms_any a.k a.n a.f a.s b.k b.n b.f b.s ha.n1 ha.n2 ha.f1 hb.n1 hb.n2 hb.f1
  replace HM := Lib.hid HM
  have eg : ∀ args (w : World), (callFunc 25 args).run Tryd.prog w = .ok (.enter 25 args) w := fun _ _ => rfl
  have hst := store_flt
  have HL := Lib.hid hl
  have HR := Lib.hid hr
  have HN := Lib.hid hn
  have HN' := Lib.hid hn'
  have HO := Lib.hid hok
  have HO' := Lib.hid hok'
  clear hl hr hn hn' hok hok'
  obtain ⟨v, hv⟩ : ∃ v, v = cmpLs l r := ⟨_, rfl⟩
  rw [← hv]
  have HV := Lib.hid hv
  clear hv
  go_enter Tryd.func26, Tryd.ntmps26
  go_wp2
  go_loopw [13] (fun i wr => ∃ j : Nat, i = .int .i64 j ∧ j ≤ m ∧ j ≤ m' ∧ Below w.heap.size w wr ∧ v = cmpLs (l.drop j) (r.drop j)) (fun i _ => m - (intOf i).toNat)
  case atStart => exact ⟨0, rfl, by omega, by omega, Below.refl _ _, HV.out⟩
  case round =>
    obtain ⟨j, rfl, hj, hj', hb, hv⟩ := hrel
    have HB := Lib.hid hb
    have HE := Lib.hid hv
    clear hb hv HV
    by_cases hlt : j < m
    · have hjl : j < l.length := by have := HN.out; omega
      obtain ⟨a, ha⟩ : ∃ a, l[j]? = some a := ⟨_, List.getElem?_eq_getElem hjl⟩
      obtain ⟨b1, o1, rfl, hc⟩ := HL.out.at ha
      obtain ⟨c0, c1, c2, c3⟩ := hc.below HB.out
      have HDA := Lib.hid (drop_get ha)
      have HOA := Lib.hid (HO.out a (List.mem_of_getElem? ha))
      have hblt := (hc.below HB.out).lt
      by_cases hlt' : j < m'
      · have hjr : j < r.length := by have := HN'.out; omega
        obtain ⟨b, hb⟩ : ∃ a, r[j]? = some a := ⟨_, List.getElem?_eq_getElem hjr⟩
        obtain ⟨b2, o2, rfl, hd⟩ := HR.out.at hb
        obtain ⟨d0, d1, d2, d3⟩ := hd.below HB.out
        have HDB := Lib.hid (drop_get hb)
        have HOB := Lib.hid (HO'.out b (List.mem_of_getElem? hb))
        have hblt' := (hd.below HB.out).lt
        have HC := Lib.hid (HM.out a b HOA.out HOB.out)
        have HS : Hid (v = orI (cmpA a b) (cmpLs (l.drop (j + 1)) (r.drop (j + 1)))) := Lib.hid (by rw [HE.out, HDA.out, HDB.out]; rfl)
        have hj2 : ¬ (m' : Int) ≤ (j : Int) := by omega
        clear hc hd ha hb hjl hjr HE
        generalize cmpA a b = x at *
        go_wp2_with fail
        refine (HC.out _).mono ?_; rintro e w3 ⟨rfl, hb3⟩
        have HB3 : Hid (Below w.heap.size w w3) := Lib.hid (HB.out.trans ((box2_below hb3).mono HB.out.size))
        clear hb3 c0 c1 c2 c3 d0 d1 d2 d3
        by_cases hx : x = 0
        · have hx' : (x != 0) = false := by simpa using hx
          have HX := Lib.hid hx
          clear hx
          go_wp2
          go_roundw
          case rel => exact ⟨j + 1, by go_num, by omega, by omega, HB3.out, by rw [HS.out]; unfold orI; rw [if_pos HX.out]⟩
          case measure => simp [intOf]; omega
        · have hx' : (x != 0) = true := by simpa using hx
          have HX := Lib.hid hx
          clear hx
          go_wp2
          go_ret
          exact ⟨ret_int (by rw [HS.out]; unfold orI; rw [if_neg HX.out]), HB3.out⟩
      · have HS : Hid (v = 1) := Lib.hid (by
          have e2 : r.drop j = [] := List.drop_eq_nil_of_le (by have := HN'.out; omega)
          rw [HE.out, HDA.out, e2]
          rfl)
        have hj2 : (m' : Int) ≤ (j : Int) := by omega
        clear hc ha hjl HE
        go_wp2
        go_ret
        exact ⟨ret_int HS.out.symm, HB.out.trans ((box_below (Below.refl _ _)).mono HB.out.size)⟩
    · have HS : Hid (v = if m < m' then -1 else 0) := Lib.hid (by
        rw [HE.out, List.drop_of_length_le (by have := HN.out; omega), cmpLs_nil, List.length_drop]
        have h1 := HN.out
        have h2 := HN'.out
        repeat' split
        all_goals omega)
      by_cases hm : m < m'
      · go_wp2
        go_ret
        exact ⟨ret_int (by rw [HS.out, if_pos hm]), HB.out⟩
      · go_wp2
        go_ret
        exact ⟨ret_int (by rw [HS.out, if_neg hm]), HB.out⟩

set_option maxHeartbeats 1600000 in
theorem valueCompare_any {w : World} {k n : Int} {f : Nat} {s : ByteArray} {q : Option Addr} {m c : Nat} {l : List At} (h : VaOk w ⟨k, n, f, s⟩ q m c l)
    {k' n' : Int} {g : Nat} {t : ByteArray} {q' : Option Addr} {m' c' : Nat} {r : List At} (h' : VaOk w ⟨k', n', g, t⟩ q' m' c' r) :
    Calls Tryd.prog 9 #[.agg #[.int .i64 k, .int .i64 n, .float .f64 f, .string s, .slice q m c], .agg #[.int .i64 k', .int .i64 n', .float .f64 g, .string t, .slice q' m' c']] w fun e w' => e = .returned (.int .i64 (cmpV ⟨k, n, f, s⟩ l ⟨k', n', g, t⟩ r)) ∧ Below w.heap.size w w' := by
  obtain ⟨W, hW⟩ : ∃ W, W = (w.alloc (.cells #[.int .i64 k, .int .i64 n, .float .f64 f, .string s, .slice q m c] 27)).alloc (.cells #[.int .i64 k', .int .i64 n', .float .f64 g, .string t, .slice q' m' c'] 27) := ⟨_, rfl⟩
  have HK : Hid (∀ w', Below W.heap.size W w' → (w'.cell? ⟨w.heap.size, 0, none⟩ = some (.int .i64 k) ∧ w'.cell? ⟨w.heap.size, 1, none⟩ = some (.int .i64 n) ∧ w'.cell? ⟨w.heap.size, 2, none⟩ = some (.float .f64 f) ∧ w'.cell? ⟨w.heap.size, 3, none⟩ = some (.string s) ∧ w'.cell? ⟨w.heap.size, 4, none⟩ = some (.slice q m c) ∧
      w'.cell? ⟨w.heap.size + 1, 0, none⟩ = some (.int .i64 k') ∧ w'.cell? ⟨w.heap.size + 1, 1, none⟩ = some (.int .i64 n') ∧ w'.cell? ⟨w.heap.size + 1, 2, none⟩ = some (.float .f64 g) ∧ w'.cell? ⟨w.heap.size + 1, 3, none⟩ = some (.string t) ∧ w'.cell? ⟨w.heap.size + 1, 4, none⟩ = some (.slice q' m' c'))) := by
    refine Lib.hid fun w' hb => ?_
    rw [hW] at hb
    obtain ⟨h1, h2⟩ := box2_cells w' hb
    exact ⟨h1 0, h1 1, h1 2, h1 3, h1 4, h2 0, h2 1, h2 2, h2 3, h2 4⟩
  have HWB : Hid (∀ w', Below W.heap.size W w' → Below w.heap.size w w') := by
    refine Lib.hid fun w' hb => ?_
    rw [hW] at hb
    exact box2_below hb
  have H1 : Hid (∀ w', Below W.heap.size W w' → Calls Tryd.prog 7 #[.agg #[.int .i64 k, .int .i64 n, .float .f64 f, .string s, .slice q m c]] w' fun e w'' => e = .returned (.bool (validV ⟨k, n, f, s⟩ l)) ∧ Below w'.heap.size w' w'') :=
    Lib.hid fun w' hb => valid_any (h.below (HWB.out _ hb))
  have H2 : Hid (∀ w', Below W.heap.size W w' → Calls Tryd.prog 7 #[.agg #[.int .i64 k', .int .i64 n', .float .f64 g, .string t, .slice q' m' c']] w' fun e w'' => e = .returned (.bool (validV ⟨k', n', g, t⟩ r)) ∧ Below w'.heap.size w' w'') :=
    Lib.hid fun w' hb => valid_any (h'.below (HWB.out _ hb))
  have H3 := Lib.hid (fun w => compareAtoms_any (w := w) k n f s k' n' g t h.ok.n1 h.ok.n2 h.ok.f1 h'.ok.n1 h'.ok.n2 h'.ok.f1)
  have H4 : Hid (∀ w', Below W.heap.size W w' → Calls Tryd.prog 26 #[.slice q m c, .slice q' m' c', .func (.func 25) #[] #[]] w' fun e w'' => e = .returned (.int .i64 (cmpLs l r)) ∧ Below w'.heap.size w' w'') :=
    Lib.hid fun w' hb => compareFunc_any h.hn h.h1 h.h2 (h.hl.below (HWB.out _ hb)) h.hok h'.hn h'.h1 h'.h2 (h'.hl.below (HWB.out _ hb)) h'.hok
  have HE : Hid (cmpV ⟨k, n, f, s⟩ l ⟨k', n', g, t⟩ r = if validV ⟨k, n, f, s⟩ l = true ∧ validV ⟨k', n', g, t⟩ r = true then (if cmpA ⟨k, n, f, s⟩ ⟨k', n', g, t⟩ = 0 then cmpLs l r else cmpA ⟨k, n, f, s⟩ ⟨k', n', g, t⟩) else 0) := Lib.hid rfl
  clear h h'
  generalize cmpV ⟨k, n, f, s⟩ l ⟨k', n', g, t⟩ r = v at *
  generalize validV ⟨k, n, f, s⟩ l = x at *
  generalize validV ⟨k', n', g, t⟩ r = y at *
  generalize cmpA ⟨k, n, f, s⟩ ⟨k', n', g, t⟩ = z at *
  generalize cmpLs l r = u at *
  go_enter Tryd.func9, Tryd.ntmps9
  go_wp2_with fail
  rw [← hW]
  replace hW := Lib.hid hW
  refine (H1.out _ (Below.refl _ _)).mono ?_; rintro e w1 ⟨rfl, hb1⟩
  obtain ⟨c0, c1, c2, c3, c4, d0, d1, d2, d3, d4⟩ := HK.out _ hb1
  have HB1 := Lib.hid hb1
  clear hb1
  cases x
  · go_wp2
    go_ret
    exact ⟨ret_int (by rw [HE.out, if_neg (by simp)]), HWB.out _ HB1.out⟩
  go_wp2_with fail
  refine (H2.out _ HB1.out).mono ?_; rintro e w2 ⟨rfl, hb2⟩
  have HB2 : Hid (Below W.heap.size W w2) := Lib.hid (HB1.out.trans (hb2.mono HB1.out.size))
  clear hb2 c0 c1 c2 c3 c4 d0 d1 d2 d3 d4
  obtain ⟨c0, c1, c2, c3, c4, d0, d1, d2, d3, d4⟩ := HK.out _ HB2.out
  cases y
  · go_wp2
    go_ret
    exact ⟨ret_int (by rw [HE.out, if_neg (by simp)]), HWB.out _ HB2.out⟩
  go_wp2_with fail
  refine (H3.out _).mono ?_; rintro e w3 ⟨rfl, hb3⟩
  have HB3 : Hid (Below W.heap.size W w3) := Lib.hid (HB2.out.trans (hb3.mono HB2.out.size))
  clear hb3 c0 c1 c2 c3 c4 d0 d1 d2 d3 d4
  obtain ⟨c0, c1, c2, c3, c4, d0, d1, d2, d3, d4⟩ := HK.out _ HB3.out
  by_cases hz : z = 0
  · have hz' : (z != 0) = false := by simpa using hz
    have HZ := Lib.hid hz
    clear hz
    go_wp2_with fail
    refine (H4.out _ HB3.out).mono ?_; rintro e w4 ⟨rfl, hb4⟩
    have HB4 : Hid (Below W.heap.size W w4) := Lib.hid (HB3.out.trans (hb4.mono HB3.out.size))
    clear hb4
    go_wp2
    go_ret
    exact ⟨ret_int (by rw [HE.out, if_pos (by simp), if_pos HZ.out]), HWB.out _ HB4.out⟩
  · have hz' : (z != 0) = true := by simpa using hz
    have HZ := Lib.hid hz
    clear hz
    go_wp2
    go_ret
    exact ⟨ret_int (by rw [HE.out, if_pos (by simp), if_neg HZ.out]), HWB.out _ HB3.out⟩

end Go.Proofs.YtinbdneajbommaaDoor
