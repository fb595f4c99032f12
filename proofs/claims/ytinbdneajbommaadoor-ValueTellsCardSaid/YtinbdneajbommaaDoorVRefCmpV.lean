/-
  The reference's Compare: its contract; it is the order of values.
-/
import Derived.Test.YtinbdneajbommaaDoorVRefCmp
import Derived.Test.YtinbdneajbommaaDoorVRefW
import Derived.StillTailTactics
set_option linter.unusedVariables false
set_option maxRecDepth 100000
namespace Go.Proofs.YtinbdneajbommaaDoor
open Go.RowKit

/-- What the reference's Compare tells. -/
def compareR (a : At) (l : List At) (b : At) (r : List At) : Int :=
  if (validV a l && validV b r) = true then (if (a.k != 6 || b.k != 6) = true then atomsR a b else listC atomsR l r) else 0

theorem head_six {a : At} {l : List At} (h : validV a l = true) (h6 : a.k = 6) : a.n = 0 ∧ a.f = 0 ∧ a.s.toList = [] := by
  unfold validV at h
  rw [if_pos h6] at h
  simp only [Bool.and_eq_true, validA, if_true, beq_iff_eq, List.isEmpty_iff] at h
  exact ⟨h.1.1.1, by omega, h.1.2⟩
theorem not_six {a : At} {l : List At} (h : validV a l = true) (h6 : a.k ≠ 6) : l = [] := by
  unfold validV at h
  rw [if_neg h6] at h
  simp only [Bool.and_eq_true, beq_iff_eq] at h
  exact List.eq_nil_of_length_eq_zero (by omega)
theorem compareR_eq {a b : At} {l r : List At} (ha : a.Ok) (hl : ∀ x ∈ l, x.Ok) (hb : b.Ok) (hr : ∀ x ∈ r, x.Ok) : compareR a l b r = cmpV a l b r := by
  unfold compareR cmpV
  by_cases hv : validV a l = true ∧ validV b r = true
  · obtain ⟨va, vb⟩ := hv
    simp only [va, vb, Bool.and_self, if_true, and_self]
    obtain ⟨ga, gl⟩ := valid_good va
    obtain ⟨gb, gr⟩ := valid_good vb
    rw [atomsR_eq ga gb, listC_congr fun x hx y hy => atomsR_eq (.inl (gl x hx)) (.inl (gr y hy)), ← cmpLs_list]
    by_cases h1 : a.k = 6
    · by_cases h2 : b.k = 6
      · have e : a = b := by
          obtain ⟨a1, a2, a3⟩ := head_six va h1
          obtain ⟨b1, b2, b3⟩ := head_six vb h2
          obtain ⟨k, n, f, s⟩ := a
          obtain ⟨k', n', g, t⟩ := b
          simp only at *
          rw [h1, h2, a1, b1, a2, b2, str_eq (a3.trans b3.symm)]
        rw [if_neg (by simp [h1, h2]), cmpA_key ha hb, e, cmpK_is.self, orI_zero]
      · rw [if_pos (by simp [h2])]
        have hne : cmpA a b ≠ 0 := fun h => by
          rw [cmpA_key ha hb] at h
          have := cmpK_eq ha hb ga gb h
          rw [this] at h1
          exact h2 h1
        rw [orI_ne hne]
    · rw [if_pos (by simp [h1])]
      by_cases h2 : b.k = 6
      · have hne : cmpA a b ≠ 0 := fun h => by
          rw [cmpA_key ha hb] at h
          have := cmpK_eq ha hb ga gb h
          rw [this] at h1
          exact h1 h2
        rw [orI_ne hne]
      · rw [not_six va h1, not_six vb h2]
        have e : cmpLs [] [] = 0 := rfl
        rw [e]
        unfold orI
        split <;> omega
  · rw [if_neg hv, if_neg]
    intro h
    simp only [Bool.and_eq_true] at h
    exact hv h

theorem listC_end (r : List At) : listC atomsR [] r = if 0 < r.length then -1 else 0 := by
  cases r with
  | nil => rfl
  | cons a r => simp [listC]
theorem listC_top (a : At) (l : List At) : listC atomsR (a :: l) [] = 1 := rfl
set_option maxHeartbeats 3200000 in
theorem refCompareV_any {w : World} {k n : Int} {f : Nat} {s : ByteArray} {q : Option Addr} {m c : Nat} {l : List At} (h : VaOk w ⟨k, n, f, s⟩ q m c l)
    {k' n' : Int} {g : Nat} {t : ByteArray} {q' : Option Addr} {m' c' : Nat} {r : List At} (h' : VaOk w ⟨k', n', g, t⟩ q' m' c' r) :
    Calls Tryd.prog 10 #[.agg #[.int .i64 k, .int .i64 n, .float .f64 f, .string s, .slice q m c], .agg #[.int .i64 k', .int .i64 n', .float .f64 g, .string t, .slice q' m' c']] w fun e w' => e = .returned (.int .i64 (compareR ⟨k, n, f, s⟩ l ⟨k', n', g, t⟩ r)) ∧ Below w.heap.size w w' := by
  obtain ⟨W, hW⟩ : ∃ W, W = (w.alloc (.cells #[.int .i64 k, .int .i64 n, .float .f64 f, .string s, .slice q m c] 27)).alloc (.cells #[.int .i64 k', .int .i64 n', .float .f64 g, .string t, .slice q' m' c'] 27) := ⟨_, rfl⟩
  have HK : Hid (∀ w', Below W.heap.size W w' → (w'.cell? ⟨w.heap.size, 0, none⟩ = some (.int .i64 k) ∧ w'.cell? ⟨w.heap.size, 1, none⟩ = some (.int .i64 n) ∧ w'.cell? ⟨w.heap.size, 2, none⟩ = some (.float .f64 f) ∧ w'.cell? ⟨w.heap.size, 3, none⟩ = some (.string s) ∧ w'.cell? ⟨w.heap.size, 4, none⟩ = some (.slice q m c) ∧
      w'.cell? ⟨w.heap.size + 1, 0, none⟩ = some (.int .i64 k') ∧ w'.cell? ⟨w.heap.size + 1, 1, none⟩ = some (.int .i64 n') ∧ w'.cell? ⟨w.heap.size + 1, 2, none⟩ = some (.float .f64 g) ∧ w'.cell? ⟨w.heap.size + 1, 3, none⟩ = some (.string t) ∧ w'.cell? ⟨w.heap.size + 1, 4, none⟩ = some (.slice q' m' c'))) := by
    refine Lib.hid fun w' hb => ?_
    rw [hW] at hb
    have h12 := fun i => box2_cell hb i
    exact ⟨(h12 0).1, (h12 1).1, (h12 2).1, (h12 3).1, (h12 4).1, (h12 0).2, (h12 1).2, (h12 2).2, (h12 3).2, (h12 4).2⟩
  have HWB : Hid (∀ w', Below W.heap.size W w' → Below w.heap.size w w') := by
    refine Lib.hid fun w' hb => ?_
    rw [hW] at hb
    exact box2_below hb
  have V1 : Hid (∀ w', Below W.heap.size W w' → Calls Tryd.prog 8 #[.agg #[.int .i64 k, .int .i64 n, .float .f64 f, .string s, .slice q m c]] w' fun e w'' => e = .returned (.bool (validV ⟨k, n, f, s⟩ l)) ∧ Below w'.heap.size w' w'') := Lib.hid fun w' hb => refValid_any (h.below (HWB.out _ hb))
  have V2 : Hid (∀ w', Below W.heap.size W w' → Calls Tryd.prog 8 #[.agg #[.int .i64 k', .int .i64 n', .float .f64 g, .string t, .slice q' m' c']] w' fun e w'' => e = .returned (.bool (validV ⟨k', n', g, t⟩ r)) ∧ Below w'.heap.size w' w'') := Lib.hid fun w' hb => refValid_any (h'.below (HWB.out _ hb))
  have T1 : Hid (∀ w', Below W.heap.size W w' → Calls Tryd.prog 27 #[.agg #[.int .i64 k, .int .i64 n, .float .f64 f, .string s], .agg #[.int .i64 k', .int .i64 n', .float .f64 g, .string t]] w' fun e w'' => e = .returned (.int .i64 (atomsR ⟨k, n, f, s⟩ ⟨k', n', g, t⟩)) ∧ Below w'.heap.size w' w'') := Lib.hid fun w' hb => refAtoms_any h.ok h'.ok
  have HM : Hid (∀ a b : At, a.Ok → b.Ok → ∀ w1, Calls Tryd.prog 27 #[a.cell, b.cell] w1 fun e w' => e = .returned (.int .i64 (atomsR a b)) ∧ Below w1.heap.size w1 w') := Lib.hid fun a b ha hb w1 => refAtoms_any ha hb
  have HE : Hid (compareR ⟨k, n, f, s⟩ l ⟨k', n', g, t⟩ r = if (validV ⟨k, n, f, s⟩ l && validV ⟨k', n', g, t⟩ r) = true then (if (k != 6 || k' != 6) = true then atomsR ⟨k, n, f, s⟩ ⟨k', n', g, t⟩ else listC atomsR l r) else 0) := Lib.hid rfl
  obtain ⟨hok, hn, h1, h2, hl, hol⟩ := h
  obtain ⟨hok', hn', h1', h2', hr, hor⟩ := h'
  have HL : Hid (∀ w', Below W.heap.size W w' → As w' q l) := Lib.hid fun w' hb => hl.below (HWB.out _ hb)
  have HR : Hid (∀ w', Below W.heap.size W w' → As w' q' r) := Lib.hid fun w' hb => hr.below (HWB.out _ hb)
  have HN := Lib.hid hn
  have HN' := Lib.hid hn'
  have HO := Lib.hid hol
  have HO' := Lib.hid hor
  obtain ⟨u, hu⟩ : ∃ u, u = listC atomsR l r := ⟨_, rfl⟩
  rw [← hu] at HE
  have HU := Lib.hid hu
  clear hok hn hl hol hok' hn' hr hor hu
  generalize compareR ⟨k, n, f, s⟩ l ⟨k', n', g, t⟩ r = v at *
  generalize validV ⟨k, n, f, s⟩ l = x1 at *
  generalize validV ⟨k', n', g, t⟩ r = x2 at *
  generalize atomsR ⟨k, n, f, s⟩ ⟨k', n', g, t⟩ = z at *
  obtain ⟨y1, hy1⟩ : ∃ b, (k != 6) = b := ⟨_, rfl⟩
  obtain ⟨y2, hy2⟩ : ∃ b, (k' != 6) = b := ⟨_, rfl⟩
  rw [hy1, hy2] at HE
  go_enter Tryd.func10, Tryd.ntmps10
  go_wp2_with fail
  rw [← hW]
  replace hW := Lib.hid hW
  refine (V1.out _ (Below.refl _ _)).mono ?_; rintro e w1 ⟨rfl, hb1⟩
  have HB1 : Hid (Below W.heap.size W w1) := Lib.hid hb1
  clear hb1
  obtain ⟨e0, e1, e2, e3, e4, d0, d1, d2, d3, d4⟩ := HK.out _ HB1.out
  cases x1
  case false =>
    go_wp2
    go_ret
    exact ⟨ret_int (by rw [HE.out]; simp), HWB.out _ HB1.out⟩
  go_wp2_with fail
  refine (V2.out _ HB1.out).mono ?_; rintro e w2 ⟨rfl, hb2⟩
  have HB2 : Hid (Below W.heap.size W w2) := Lib.hid (HB1.out.trans (hb2.mono HB1.out.size))
  clear hb2
  clear e0 e1 e2 e3 e4 d0 d1 d2 d3 d4
  obtain ⟨e0, e1, e2, e3, e4, d0, d1, d2, d3, d4⟩ := HK.out _ HB2.out
  cases x2
  case false =>
    go_wp2
    go_ret
    exact ⟨ret_int (by rw [HE.out]; simp), HWB.out _ HB2.out⟩
  have HEZ : Hid ((y1 || y2) = true → v = z) := Lib.hid fun h => by rw [HE.out, if_pos (by rfl), if_pos h]
  have HEU : Hid ((y1 || y2) = false → v = u) := Lib.hid fun h => by rw [HE.out, if_pos (by rfl), if_neg (by rw [h]; decide)]
  clear HE
  cases y1
  case true =>
    go_wp2_with fail
    refine (T1.out _ HB2.out).mono ?_; rintro e w3 ⟨rfl, hb3⟩
    have HB3 : Hid (Below W.heap.size W w3) := Lib.hid (HB2.out.trans (hb3.mono HB2.out.size))
    clear hb3
    go_wp2
    go_ret
    exact ⟨ret_int (HEZ.out (by simp)).symm, HWB.out _ HB3.out⟩
  cases y2
  case true =>
    go_wp2_with fail
    refine (T1.out _ HB2.out).mono ?_; rintro e w3 ⟨rfl, hb3⟩
    have HB3 : Hid (Below W.heap.size W w3) := Lib.hid (HB2.out.trans (hb3.mono HB2.out.size))
    clear hb3
    go_wp2
    go_ret
    exact ⟨ret_int (HEZ.out (by simp)).symm, HWB.out _ HB3.out⟩
  have HV : Hid (v = u) := Lib.hid (HEU.out (by simp))
  clear HEZ HEU
  go_wp2
  go_loopw [5] (fun i wr => ∃ j : Nat, i = .int .i64 j ∧ j ≤ m ∧ j ≤ m' ∧ Below W.heap.size W wr ∧ u = listC atomsR (l.drop j) (r.drop j)) (fun i _ => m - (intOf i).toNat)
  case atStart => exact ⟨0, rfl, by omega, by omega, HB2.out, HU.out⟩
  case round =>
    clear e0 e1 e2 e3 e4 d0 d1 d2 d3 d4
    clear HB2 HU
    obtain ⟨j, rfl, hj, hj', hb, he⟩ := hrel
    obtain ⟨e0, e1, e2, e3, e4, d0, d1, d2, d3, d4⟩ := HK.out _ hb
    have HB := Lib.hid hb
    have HE := Lib.hid he
    clear hb he
    by_cases hlt : j < m
    · have hjl : j < l.length := by have := HN.out; omega
      obtain ⟨a, ha⟩ : ∃ a, l[j]? = some a := ⟨_, List.getElem?_eq_getElem hjl⟩
      have HDA := Lib.hid (drop_get ha)
      by_cases hlt' : j < m'
      · have hjr : j < r.length := by have := HN'.out; omega
        obtain ⟨b, hb⟩ : ∃ a, r[j]? = some a := ⟨_, List.getElem?_eq_getElem hjr⟩
        have HDB := Lib.hid (drop_get hb)
        obtain ⟨b1, o1, rfl, hc⟩ := (HL.out _ HB.out).at ha
        obtain ⟨b2, o2, rfl, hd⟩ := (HR.out _ HB.out).at hb
        obtain ⟨p0, p1, p2, p3⟩ := hc
        obtain ⟨r0, r1, r2, r3⟩ := hd
        have HC := Lib.hid (HM.out a b (HO.out a (List.mem_of_getElem? ha)) (HO'.out b (List.mem_of_getElem? hb)))
        have HS : Hid (u = orI (atomsR a b) (listC atomsR (l.drop (j + 1)) (r.drop (j + 1)))) := Lib.hid (by rw [HE.out, HDA.out, HDB.out]; rfl)
        have hj0 : (0 : Int) ≤ j := by omega
        have hj1 : (j : Int) < m := by omega
        have hj2 : (j : Int) < m' := by omega
        clear ha hb hjl hjr
        generalize atomsR a b = x at *
        go_wp2
        go_still_tail 10, (by kernel_rfl)
        change wpList _ _ _ _ _ wr.drew
        have HBD : Hid (Below W.heap.size W wr.drew) := Lib.hid HB.out.drew
        generalize wr.drew = w3 at *
        go_wp2_with fail
        refine (HC.out _).mono ?_; rintro e w4 ⟨rfl, hb4⟩
        have HB4 : Hid (Below W.heap.size W w4) := Lib.hid (HBD.out.trans (hb4.mono HBD.out.size))
        clear hb4
        by_cases hx : x = 0
        · have hx' : (x != 0) = false := by simpa using hx
          have HX := Lib.hid hx
          clear hx
          go_wp2
          go_roundw
          case rel => exact ⟨j + 1, by go_num, by omega, by omega, HB4.out, by rw [HS.out]; unfold orI; rw [if_pos HX.out]⟩
          case measure => simp [intOf]; omega
        · have hx' : (x != 0) = true := by simpa using hx
          have HX := Lib.hid hx
          clear hx
          go_wp2
          go_ret
          exact ⟨ret_int (by rw [HV.out, HS.out]; unfold orI; rw [if_neg HX.out]), HWB.out _ HB4.out⟩
      · have HS : Hid (u = 1) := Lib.hid (by
          have e2 : r.drop j = [] := List.drop_eq_nil_of_le (by have := HN'.out; omega)
          rw [HE.out, HDA.out, e2]
          rfl)
        have hmm : m' < m := by omega
        have hmm' : ¬ m < m' := by omega
        clear ha hjl
        go_wp2
        go_ret
        exact ⟨ret_int (by rw [HV.out, HS.out]), HWB.out _ HB.out⟩
    · have HS : Hid (u = if m < m' then -1 else 0) := Lib.hid (by
        have e1 : l.drop j = [] := List.drop_eq_nil_of_le (by have := HN.out; omega)
        rw [HE.out, e1, listC_end, List.length_drop]
        have h1 := HN.out
        have h2 := HN'.out
        repeat' split
        all_goals omega)
      by_cases hm : m < m'
      · go_wp2
        go_ret
        exact ⟨ret_int (by rw [HV.out, HS.out, if_pos hm]), HWB.out _ HB.out⟩
      · have hm2 : ¬ m' < m := by omega
        go_wp2
        go_ret
        exact ⟨ret_int (by rw [HV.out, HS.out, if_neg hm]), HWB.out _ HB.out⟩

end Go.Proofs.YtinbdneajbommaaDoor
