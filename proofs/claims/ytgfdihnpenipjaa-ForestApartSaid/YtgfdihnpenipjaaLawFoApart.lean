/-
  The law ForestApart: its walk.
-/
import Derived.Test.YtgfdihnpenipjaaFoKey
import Derived.Test.YtgfdihnpenipjaaRNameR
import Derived.Test.YtgfdihnpenipjaaCmpRefQ
import Derived.Test.YtgfdihnpenipjaaCmpRef
set_option linter.unusedVariables false
set_option maxRecDepth 100000
namespace Go.Proofs.Ytgfdihnpenipjaa
open Go.RowKit
open Go.Lib (compareBytes)

theorem fstr_eq {s t : ByteArray} (h : s.toList = t.toList) : s = t := by
  rw [ByteArray.toList_eq, ByteArray.toList_eq] at h
  apply ByteArray.ext
  apply Array.ext'
  exact h
/-- What the law asks of a key: is it in the span? -/
def inF (l a b : List UInt8) : Bool := decide (0 ≤ compareBytes l a) && decide (compareBytes l b < 0)
theorem inF_eq {l a b : List UInt8} {x : Bool} (h : (0 ≤ compareBytes l a ∧ compareBytes l b < 0) ↔ x = true) : inF l a b = x := by
  unfold inF
  cases x
  · have h1 : ¬ (0 ≤ compareBytes l a ∧ compareBytes l b < 0) := fun e => by simpa using h.1 e
    cases h2 : (decide (0 ≤ compareBytes l a) && decide (compareBytes l b < 0))
    · rfl
    · exfalso
      simp only [Bool.and_eq_true, decide_eq_true_eq] at h2
      exact h1 h2
  · have h1 := h.2 rfl
    rw [decide_eq_true h1.1, decide_eq_true h1.2]
    rfl

set_option maxHeartbeats 1600000 in
theorem in_quiet {w : World} {A B : Nat} {p q r : Option Addr} {l a b : List UInt8} {n c na ca nb cb : Nat} (hn : n = l.length) (hna : na = a.length) (hnb : nb = b.length) (h1 : n ≤ 9223372036854775807) (h2 : na ≤ 9223372036854775807) (h3 : nb ≤ 9223372036854775807)
    (hA : w.cell? ⟨A, 0, none⟩ = some (.slice q na ca)) (hB : w.cell? ⟨B, 0, none⟩ = some (.slice r nb cb)) (hl : Bs w p l) (ha : Bs w q a) (hb : Bs w r b) :
    Calls Try.prog 16 #[.slice p n c, .pointer (some ⟨A, 0, none⟩), .pointer (some ⟨B, 0, none⟩)] w fun e w' => e = .returned (.bool (inF l a b)) ∧ ∃ d, w' = w.drewN d := by
  obtain ⟨x, hx⟩ : ∃ x, x = compareBytes l a := ⟨_, rfl⟩
  obtain ⟨y, hy⟩ : ∃ y, y = compareBytes l b := ⟨_, rfl⟩
  have H1 := Lib.hid (fun w (hl : Bs w p l) (ha : Bs w q a) => oRefCompare_quiet hl ha n c na ca hn hna h1 h2)
  have H2 := Lib.hid (fun w (hl : Bs w p l) (hb : Bs w r b) => oRefCompare_quiet hl hb n c nb cb hn hnb h1 h3)
  have HV : Hid (inF l a b = (decide (0 ≤ x) && decide (y < 0))) := Lib.hid (by rw [hx, hy]; rfl)
  rw [← hx] at H1
  rw [← hy] at H2
  have HL := Lib.hid hl
  have HA := Lib.hid ha
  have HB := Lib.hid hb
  clear hx hy hl ha hb hn hna hnb
  by_cases g1 : 0 ≤ x
  · by_cases g2 : y < 0
    · have HX : Hid (inF l a b = true) := Lib.hid (by rw [HV.out, decide_eq_true g1, decide_eq_true g2]; rfl)
      go_enter Try.func16, Try.ntmps16
      go_wp2_with fail
      refine (H1.out _ HL.out HA.out).mono ?_; rintro e w1 ⟨rfl, d1, rfl⟩
      go_wp2_with fail
      refine (H2.out _ (HL.out.drewN _) (HB.out.drewN _)).mono ?_; rintro e w1 ⟨rfl, d2, rfl⟩
      go_wp2
      go_ret
      exact ⟨ret_bool HX.out.symm, d1 + d2, rfl⟩
    · have HX : Hid (inF l a b = false) := Lib.hid (by rw [HV.out, decide_eq_true g1, decide_eq_false g2]; rfl)
      go_enter Try.func16, Try.ntmps16
      go_wp2_with fail
      refine (H1.out _ HL.out HA.out).mono ?_; rintro e w1 ⟨rfl, d1, rfl⟩
      go_wp2_with fail
      refine (H2.out _ (HL.out.drewN _) (HB.out.drewN _)).mono ?_; rintro e w1 ⟨rfl, d2, rfl⟩
      go_wp2
      go_ret
      exact ⟨ret_bool (by rw [HX.out]; exact decide_eq_false (by omega)), d1 + d2, rfl⟩
  · have HX : Hid (inF l a b = false) := Lib.hid (by rw [HV.out, decide_eq_false g1]; rfl)
    go_enter Try.func16, Try.ntmps16
    go_wp2_with fail
    refine (H1.out _ HL.out HA.out).mono ?_; rintro e w1 ⟨rfl, d1, rfl⟩
    go_wp2
    go_ret
    exact ⟨ret_bool HX.out.symm, d1, rfl⟩

theorem key_a {w : World} : Calls Try.prog 6 #[.string ⟨#[97]⟩, .slice none 0 0] w fun e w' => (∃ p c, e = .returned (.tuple #[.slice p 2 c, .int .i64 0])) ∧ Below w.heap.size w w' := by
  refine (fkey_any (w := w) ⟨#[97]⟩ (by decide) (p := none) (Bs.nil w none) 0 0 rfl (fun _ => rfl)).mono ?_
  rintro e w' ⟨v, rfl, ho, hb⟩
  have hw : wrongF (⟨#[97]⟩ : ByteArray).data.toList [[]] = 0 := by decide
  rw [hw, if_pos rfl] at ho
  obtain ⟨p, c, rfl, _⟩ := ho.form (n := 2) rfl
  exact ⟨⟨p, c, by rw [hw]⟩, hb⟩

set_option maxHeartbeats 6400000 in
theorem lawFoApart {w : World} (s t : ByteArray) (hs : s.size ≤ 9223372036854775807) (ht : t.size ≤ 9223372036854775807) {p0 p1 q0 q1 : Option Addr} {k0 k1 f e0 : List UInt8} (n0 c0 n1 c1 m0 d0 m1 d1 : Nat)
    (hk0 : Bs w p0 k0) (hn0 : n0 = k0.length) (hp0 : p0 = none → c0 = 0) (hk1 : Bs w p1 k1) (hn1 : n1 = k1.length) (hp1 : p1 = none → c1 = 0)
    (hf : Bs w q0 f) (hm0 : m0 = f.length) (hq0 : q0 = none → d0 = 0) (he0 : Bs w q1 e0) (hm1 : m1 = e0.length) (hq1 : q1 = none → d1 = 0) :
    Calls Try.prog 4 #[.agg #[.string s, .string t], .agg #[.slice p0 n0 c0, .slice p1 n1 c1], .agg #[.slice q0 m0 d0, .slice q1 m1 d1]] w fun e w' => e = .returned (.bool true) ∧ Below w.heap.size w w' := by
  have HNS := Lib.hid (fun w => refName_any (w := w) s hs)
  have HNT := Lib.hid (fun w => refName_any (w := w) t ht)
  have HFEW := Lib.hid (fun w => key_a (w := w))
  have HS := Lib.hid hs
  have HT := Lib.hid ht
  have HN0 := Lib.hid hn0
  have HN1 := Lib.hid hn1
  have HM0 := Lib.hid hm0
  have HM1 := Lib.hid hm1
  have HP0 := Lib.hid hp0
  have HP1 := Lib.hid hp1
  have HQ0 := Lib.hid hq0
  have HQ1 := Lib.hid hq1
  have HK0 := Lib.hid hk0
  have HK1 := Lib.hid hk1
  have HF := Lib.hid hf
  have HE := Lib.hid he0
  clear hs ht hn0 hn1 hm0 hm1 hp0 hp1 hq0 hq1 hk0 hk1 hf he0
  go_enter Try.func4, Try.ntmps4
  go_wp2_with fail
  obtain ⟨hx1, hx2, hx3, hx4, hx5⟩ := boxes3 w #[.string s, .string t] #[.slice p0 n0 c0, .slice p1 n1 c1] #[.slice q0 m0 d0, .slice q1 m1 d1] 39 23 23
  generalize ((w.alloc (.cells #[.string s, .string t] 39)).alloc (.cells #[.slice p0 n0 c0, .slice p1 n1 c1] 23)).alloc (.cells #[.slice q0 m0 d0, .slice q1 m1 d1] 23) = W at hx1 hx2 hx3 hx4 hx5 ⊢
  have HW := Lib.hid hx4
  have HK0 := Lib.hid (HK0.out.below hx4)
  have HK1 := Lib.hid (HK1.out.below hx4)
  have HF := Lib.hid (HF.out.below hx4)
  have HE := Lib.hid (HE.out.below hx4)
  obtain ⟨N, hN⟩ : ∃ N, w.heap.size = N := ⟨_, rfl⟩
  rw [hN] at hx1 hx2 hx3 hx5
  have HKN : Hid (∀ w', Below W.heap.size W w' → w'.cell? ⟨N, 0, none⟩ = some (.string s) ∧ w'.cell? ⟨N, 1, none⟩ = some (.string t) ∧ w'.cell? ⟨N + 1, 0, none⟩ = some (.slice p0 n0 c0) ∧ w'.cell? ⟨N + 1, 1, none⟩ = some (.slice p1 n1 c1) ∧ w'.cell? ⟨N + 2, 0, none⟩ = some (.slice q0 m0 d0) ∧ w'.cell? ⟨N + 2, 1, none⟩ = some (.slice q1 m1 d1)) := Lib.hid (by
    intro w' hb
    have e1 : w'.heap[N]? = W.heap[N]? := hb.block _ (by omega)
    have e2 : w'.heap[N + 1]? = W.heap[N + 1]? := hb.block _ (by omega)
    have e3 : w'.heap[N + 2]? = W.heap[N + 2]? := hb.block _ (by omega)
    rw [hx1] at e1
    rw [hx2] at e2
    rw [hx3] at e3
    exact ⟨Joins.cell_of_block e1 0, Joins.cell_of_block e1 1, Joins.cell_of_block e2 0, Joins.cell_of_block e2 1, Joins.cell_of_block e3 0, Joins.cell_of_block e3 1⟩)
  have HN := Lib.hid hN
  have HNW : Hid (N + 3 ≤ W.heap.size) := Lib.hid (by omega)
  rw [hN]
  clear hx1 hx2 hx3 hx4 hx5 hN
  obtain ⟨y1, y2, y3, y4, y5, y6⟩ := HKN.out W (Below.refl _ _)
  by_cases h1 : nameOk s = true
  case neg =>
    have h1' : nameOk s = false := by simpa using h1
    rw [h1'] at HNS
    clear h1 h1'
    refine (HNS.out _).mono ?_; rintro e w1 ⟨rfl, rfl⟩
    go_wp2_with fail
    refine (HFEW.out _).mono ?_; rintro e w9 ⟨⟨p, c, rfl⟩, hb9⟩
    have HB9 := Lib.hid (HW.out.trans (hb9.mono HW.out.size))
    clear hb9
    go_wp2
    go_ret
    exact ⟨rfl, HB9.out⟩
  rw [h1] at HNS
  by_cases h2 : nameOk t = true
  case neg =>
    have h2' : nameOk t = false := by simpa using h2
    rw [h2'] at HNT
    clear h1 h2 h2'
    refine (HNS.out _).mono ?_; rintro e w1 ⟨rfl, rfl⟩
    go_wp2_with fail
    refine (HNT.out _).mono ?_; rintro e w1 ⟨rfl, rfl⟩
    go_wp2_with fail
    refine (HFEW.out _).mono ?_; rintro e w9 ⟨⟨p, c, rfl⟩, hb9⟩
    have HB9 := Lib.hid (HW.out.trans (hb9.mono HW.out.size))
    clear hb9
    go_wp2
    go_ret
    exact ⟨rfl, HB9.out⟩
  rw [h2] at HNT
  by_cases gn0 : n0 ≤ 55
  case neg =>
    have g' : 55 < (n0 : Int) := by omega
    clear h1 h2
    refine (HNS.out _).mono ?_; rintro e w1 ⟨rfl, rfl⟩
    go_wp2_with fail
    refine (HNT.out _).mono ?_; rintro e w1 ⟨rfl, rfl⟩
    go_wp2_with fail
    refine (HFEW.out _).mono ?_; rintro e w9 ⟨⟨p, c, rfl⟩, hb9⟩
    have HB9 := Lib.hid (HW.out.trans (hb9.mono HW.out.size))
    clear hb9
    go_wp2
    go_ret
    exact ⟨rfl, HB9.out⟩
  have gn0' : ¬ 55 < (n0 : Int) := by omega
  by_cases gn1 : n1 ≤ 55
  case neg =>
    have g' : 55 < (n1 : Int) := by omega
    clear h1 h2
    refine (HNS.out _).mono ?_; rintro e w1 ⟨rfl, rfl⟩
    go_wp2_with fail
    refine (HNT.out _).mono ?_; rintro e w1 ⟨rfl, rfl⟩
    go_wp2_with fail
    refine (HFEW.out _).mono ?_; rintro e w9 ⟨⟨p, c, rfl⟩, hb9⟩
    have HB9 := Lib.hid (HW.out.trans (hb9.mono HW.out.size))
    clear hb9
    go_wp2
    go_ret
    exact ⟨rfl, HB9.out⟩
  have gn1' : ¬ 55 < (n1 : Int) := by omega
  by_cases gm0 : m0 ≤ 55
  case neg =>
    have g' : 55 < (m0 : Int) := by omega
    clear h1 h2
    refine (HNS.out _).mono ?_; rintro e w1 ⟨rfl, rfl⟩
    go_wp2_with fail
    refine (HNT.out _).mono ?_; rintro e w1 ⟨rfl, rfl⟩
    go_wp2_with fail
    refine (HFEW.out _).mono ?_; rintro e w9 ⟨⟨p, c, rfl⟩, hb9⟩
    have HB9 := Lib.hid (HW.out.trans (hb9.mono HW.out.size))
    clear hb9
    go_wp2
    go_ret
    exact ⟨rfl, HB9.out⟩
  have gm0' : ¬ 55 < (m0 : Int) := by omega
  by_cases gm1 : m1 ≤ 55
  case neg =>
    have g' : 55 < (m1 : Int) := by omega
    clear h1 h2
    refine (HNS.out _).mono ?_; rintro e w1 ⟨rfl, rfl⟩
    go_wp2_with fail
    refine (HNT.out _).mono ?_; rintro e w1 ⟨rfl, rfl⟩
    go_wp2_with fail
    refine (HFEW.out _).mono ?_; rintro e w9 ⟨⟨p, c, rfl⟩, hb9⟩
    have HB9 := Lib.hid (HW.out.trans (hb9.mono HW.out.size))
    clear hb9
    go_wp2
    go_ret
    exact ⟨rfl, HB9.out⟩
  have gm1' : ¬ 55 < (m1 : Int) := by omega
  have HH1 := Lib.hid h1
  have HH2 := Lib.hid h2
  have s16 := (nameOk_len h1).2
  have t16 := (nameOk_len h2).2
  have hle : ∀ {g : ByteArray} {l : List UInt8}, nameOk g = true → l.length ≤ 55 → l.length ≤ mostF g.data.toList := by
    intro g l hg hl
    have h16 := (nameOk_len hg).2
    have e : g.data.toList.length = g.size := rfl
    rw [mostF_yes hg, e]; omega
  have hw1 : ∀ {g : ByteArray} {l : List UInt8}, nameOk g = true → l.length ≤ 55 → wrongF g.data.toList [l] = 0 := by
    intro g l hg hl
    exact wrongF_ok hg fun x hx => by rw [List.mem_singleton] at hx; subst hx; exact hle hg hl
  have k0l : k0.length ≤ 55 := by rw [← HN0.out]; exact gn0
  have k1l : k1.length ≤ 55 := by rw [← HN1.out]; exact gn1
  have fl : f.length ≤ 55 := by rw [← HM0.out]; exact gm0
  have el : e0.length ≤ 55 := by rw [← HM1.out]; exact gm1
  have HWX : Hid (wrongF s.data.toList [k0] = 0) := Lib.hid (hw1 h1 k0l)
  have HWY : Hid (wrongF s.data.toList [k1] = 0) := Lib.hid (hw1 h1 k1l)
  have HWZ : Hid (wrongF t.data.toList [k1] = 0) := Lib.hid (hw1 h2 k1l)
  have HWP : Hid (wrongF s.data.toList [f, e0] = 0) := Lib.hid (wrongF_ok h1 fun x hx => by
    rcases List.mem_cons.1 hx with rfl | hx
    · exact hle h1 fl
    · rw [List.mem_singleton] at hx; subst hx; exact hle h1 el)
  have HCX := Lib.hid (fun w (h : Bs w p0 k0) => fkey_any (w := w) s HS.out h n0 c0 HN0.out HP0.out)
  have HCY := Lib.hid (fun w (h : Bs w p1 k1) => fkey_any (w := w) s HS.out h n1 c1 HN1.out HP1.out)
  have HCZ := Lib.hid (fun w (h : Bs w p1 k1) => fkey_any (w := w) t HT.out h n1 c1 HN1.out HP1.out)
  have HCP := Lib.hid (fun w (h : Bs w q0 f) (h2 : Bs w q1 e0) => fspan_any (w := w) s HS.out h m0 d0 HM0.out HQ0.out h2 m1 d1 HM1.out HQ1.out)
  have hll : ∀ {g : ByteArray} {l : List UInt8}, nameOk g = true → l.length ≤ 55 → (keyF g.data.toList l).length ≤ 72 := by
    intro g l hg hl
    have h16 := (nameOk_len hg).2
    have e : g.data.toList.length = g.size := rfl
    rw [keyF_length, e]; omega
  have HLX := Lib.hid (hll h1 k0l)
  have HLY := Lib.hid (hll h1 k1l)
  have HLZ := Lib.hid (hll h2 k1l)
  have HLA := Lib.hid (hll h1 fl)
  have HLB : Hid ((spanB s.data.toList e0).length ≤ 100) := Lib.hid (by
    unfold spanB
    split
    · have := (aft_length (headF_ok h1)).2
      rw [headF_length] at this
      have e1 : s.data.toList.length = s.size := rfl
      omega
    · have := hll h1 el
      omega)
  have HXY : Hid (compareBytes (keyF s.data.toList k0) (keyF s.data.toList k1) = compareBytes k0 k1) := Lib.hid (by unfold keyF; exact cmp_common _ _ _)
  have HINY : Hid ((0 ≤ compareBytes (keyF s.data.toList k1) (keyF s.data.toList f) ∧ compareBytes (keyF s.data.toList k1) (spanB s.data.toList e0) < 0) ↔ (0 ≤ compareBytes k1 f ∧ (e0 = [] ∨ compareBytes k1 e0 < 0))) := Lib.hid (span_own h1 k1 f e0)
  have HINO : Hid (s ≠ t → ¬ (0 ≤ compareBytes (keyF t.data.toList k1) (keyF s.data.toList f) ∧ compareBytes (keyF t.data.toList k1) (spanB s.data.toList e0) < 0)) := Lib.hid (fun hne => span_other h1 h2 (fun e => hne (by
    have : s.data = t.data := Array.toList_inj.1 e
    cases s; cases t; simp only at this; rw [this])) k1 f e0)
  have HSPL : Hid (splitF (keyF t.data.toList k1) = some (t.data.toList, k1)) := Lib.hid (split_key h2 (by
    have h3 := hle h2 k1l
    rw [mostF_yes h2] at h3
    exact h3))
  obtain ⟨x, hx⟩ : ∃ x, x = keyF s.data.toList k0 := ⟨_, rfl⟩
  obtain ⟨y, hy⟩ : ∃ y, y = keyF s.data.toList k1 := ⟨_, rfl⟩
  obtain ⟨z, hz⟩ : ∃ z, z = keyF t.data.toList k1 := ⟨_, rfl⟩
  obtain ⟨a, ha⟩ : ∃ a, a = keyF s.data.toList f := ⟨_, rfl⟩
  obtain ⟨b, hb⟩ : ∃ b, b = spanB s.data.toList e0 := ⟨_, rfl⟩
  have HZE : Hid (s = t → z = y) := Lib.hid (fun h => by rw [hz, hy, h])
  rw [← hx] at HLX
  rw [← hy] at HLY
  rw [← hz] at HLZ HSPL
  rw [← ha] at HLA
  rw [← hb] at HLB
  rw [← hx, ← hy] at HXY
  rw [← hy, ← ha, ← hb] at HINY
  rw [← hz, ← ha, ← hb] at HINO
  have HX := Lib.hid hx
  have HY := Lib.hid hy
  have HZ := Lib.hid hz
  have HA := Lib.hid ha
  have HB := Lib.hid hb
  clear h1 h2 hle hw1 hll k0l k1l fl el hx hy hz ha hb HFEW
  refine (HNS.out _).mono ?_; rintro e w1 ⟨rfl, rfl⟩
  go_wp2_with fail
  refine (HNT.out _).mono ?_; rintro e w1 ⟨rfl, rfl⟩
  go_wp2_with fail
  refine (HCX.out _ HK0.out).mono ?_
  rintro e w1 ⟨v1, rfl, ho, hb⟩
  rw [HWX.out, if_pos rfl, ← HX.out] at ho
  rw [HWX.out]
  obtain ⟨l1, hl1⟩ : ∃ n, n = x.length := ⟨_, rfl⟩
  obtain ⟨r1, o1, rfl, hlo1, hc1, hbs, _⟩ := ho.form hl1
  have HL1 := Lib.hid hl1
  have hm1 : l1 ≤ 72 := by rw [hl1]; exact HLX.out
  have HB1 : Hid (Below W.heap.size W w1) := Lib.hid ((Below.refl W.heap.size W).trans (hb.mono (Below.refl W.heap.size W).size))
  have HO1 := Lib.hid hbs
  clear ho hb hbs hl1
  clear y1 y2 y3 y4 y5 y6
  obtain ⟨y1, y2, y3, y4, y5, y6⟩ := HKN.out _ HB1.out
  go_wp2_with fail
  refine (HCY.out _ (HK1.out.below HB1.out)).mono ?_
  rintro e w2 ⟨v2, rfl, ho, hb⟩
  rw [HWY.out, if_pos rfl, ← HY.out] at ho
  rw [HWY.out]
  obtain ⟨l2, hl2⟩ : ∃ n, n = y.length := ⟨_, rfl⟩
  obtain ⟨r2, o2, rfl, hlo2, hc2, hbs, _⟩ := ho.form hl2
  have HL2 := Lib.hid hl2
  have hm2 : l2 ≤ 72 := by rw [hl2]; exact HLY.out
  have HB2 : Hid (Below W.heap.size W w2) := Lib.hid (HB1.out.trans (hb.mono HB1.out.size))
  have HO2 := Lib.hid hbs
  have HO1 := Lib.hid (HO1.out.below hb)
  clear ho hb hbs hl2
  clear y1 y2 y3 y4 y5 y6
  obtain ⟨y1, y2, y3, y4, y5, y6⟩ := HKN.out _ HB2.out
  go_wp2_with fail
  refine (HCZ.out _ (HK1.out.below HB2.out)).mono ?_
  rintro e w3 ⟨v3, rfl, ho, hb⟩
  rw [HWZ.out, if_pos rfl, ← HZ.out] at ho
  rw [HWZ.out]
  obtain ⟨l3, hl3⟩ : ∃ n, n = z.length := ⟨_, rfl⟩
  obtain ⟨r3, o3, rfl, hlo3, hc3, hbs, _⟩ := ho.form hl3
  have HL3 := Lib.hid hl3
  have hm3 : l3 ≤ 72 := by rw [hl3]; exact HLZ.out
  have HB3 : Hid (Below W.heap.size W w3) := Lib.hid (HB2.out.trans (hb.mono HB2.out.size))
  have HO3 := Lib.hid hbs
  have HO1 := Lib.hid (HO1.out.below hb)
  have HO2 := Lib.hid (HO2.out.below hb)
  clear ho hb hbs hl3
  clear y1 y2 y3 y4 y5 y6
  obtain ⟨y1, y2, y3, y4, y5, y6⟩ := HKN.out _ HB3.out
  go_wp2_with fail
  refine (HCP.out _ (HF.out.below HB3.out) (HE.out.below HB3.out)).mono ?_
  rintro e w4 ⟨u4, v4, rfl, ho, ho2, hb⟩
  rw [HWP.out, if_pos rfl] at ho ho2
  rw [← HA.out] at ho
  rw [← HB.out] at ho2
  rw [HWP.out]
  obtain ⟨l4, hl4⟩ : ∃ n, n = a.length := ⟨_, rfl⟩
  obtain ⟨l5, hl5⟩ : ∃ n, n = b.length := ⟨_, rfl⟩
  obtain ⟨r4, o4, rfl, _, hc4, hbs4, _⟩ := ho.form hl4
  obtain ⟨r5, o5, rfl, _, hc5, hbs5, _⟩ := ho2.form hl5
  have HL4 := Lib.hid hl4
  have HL5 := Lib.hid hl5
  have hm4 : l4 ≤ 72 := by rw [hl4]; exact HLA.out
  have hm5 : l5 ≤ 100 := by rw [hl5]; exact HLB.out
  have HB4 : Hid (Below W.heap.size W w4) := Lib.hid (HB3.out.trans (hb.mono HB3.out.size))
  have HO4 := Lib.hid hbs4
  have HO5 := Lib.hid hbs5
  have HO1 := Lib.hid (HO1.out.below hb)
  have HO2 := Lib.hid (HO2.out.below hb)
  have HO3 := Lib.hid (HO3.out.below hb)
  clear ho ho2 hb hc4 hc5 hbs4 hbs5 hl4 hl5
  clear y1 y2 y3 y4 y5 y6
  go_wp2_with fail
  obtain ⟨hx1, hx2, hx3, hx4⟩ := boxes w4 #[.slice r4 l4 o4] #[.slice r5 l5 o5] 22 22
  generalize (w4.alloc (.cells #[.slice r4 l4 o4] 22)).alloc (.cells #[.slice r5 l5 o5] 22) = w5 at hx1 hx2 hx3 hx4 ⊢
  obtain ⟨M, hM⟩ : ∃ M, w4.heap.size = M := ⟨_, rfl⟩
  have HB5 : Hid (Below W.heap.size W w5) := Lib.hid (HB4.out.trans (hx3.mono HB4.out.size))
  have HO1 := Lib.hid (HO1.out.below hx3)
  have HO2 := Lib.hid (HO2.out.below hx3)
  have HO3 := Lib.hid (HO3.out.below hx3)
  have HO4 := Lib.hid (HO4.out.below hx3)
  have HO5 := Lib.hid (HO5.out.below hx3)
  rw [hM] at hx1 hx2 ⊢
  have z1 : w5.cell? ⟨M, 0, none⟩ = some (.slice r4 l4 o4) := Joins.cell_of_block hx1 0
  have z2 : w5.cell? ⟨M + 1, 0, none⟩ = some (.slice r5 l5 o5) := Joins.cell_of_block hx2 0
  have HZ1 := Lib.hid hx1
  have HZ2 := Lib.hid hx2
  have HMW : Hid (M + 2 ≤ w5.heap.size) := Lib.hid (by omega)
  obtain ⟨y1, y2, y3, y4, y5, y6⟩ := HKN.out _ HB5.out
  have HK0 := Lib.hid (HK0.out.below HB5.out)
  have HK1 := Lib.hid (HK1.out.below HB5.out)
  have HF := Lib.hid (HF.out.below HB5.out)
  have HE := Lib.hid (HE.out.below HB5.out)
  clear hx1 hx2 hx3 hx4 hM
  obtain ⟨cxy, hcxy⟩ : ∃ c, c = compareBytes k0 k1 := ⟨_, rfl⟩
  obtain ⟨cf, hcf⟩ : ∃ c, c = compareBytes k1 f := ⟨_, rfl⟩
  obtain ⟨ce, hce⟩ : ∃ c, c = compareBytes k1 e0 := ⟨_, rfl⟩
  have HC1 := Lib.hid (fun n => oRefCompare_quiet (HO1.out.drewN n) (HO2.out.drewN n) l1 o1 l2 o2 HL1.out HL2.out (by omega) (by omega))
  rw [HXY.out, ← hcxy] at HC1
  have HC2 := Lib.hid (fun n => oRefCompare_quiet (HK0.out.drewN n) (HK1.out.drewN n) n0 c0 n1 c1 HN0.out HN1.out (by omega) (by omega))
  rw [← hcxy] at HC2
  have HC3 := Lib.hid (fun n => oRefCompare_quiet (HK1.out.drewN n) (HF.out.drewN n) n1 c1 m0 d0 HN1.out HM0.out (by omega) (by omega))
  rw [← hcf] at HC3
  have HC4 := Lib.hid (fun n => oRefCompare_quiet (HK1.out.drewN n) (HE.out.drewN n) n1 c1 m1 d1 HN1.out HM1.out (by omega) (by omega))
  rw [← hce] at HC4
  rw [← hcf, ← hce] at HINY
  clear hcxy hcf hce HCX HCY HCZ HCP
  go_quiet (first | with_reducible exact Calls.quiet_of (HC1.out _) | with_reducible exact Calls.quiet_of (HC2.out _))
  have HSP := Lib.hid (fun n => fsplit_any (HO3.out.drewN n) l3 o3 HL3.out hlo3 hc3)
  by_cases b1 : 0 ≤ cf
  case neg =>
    have HWI : Hid (¬ (0 ≤ cf ∧ (e0 = [] ∨ ce < 0))) := Lib.hid (fun h => b1 h.1)
    go_wp2_with fail
    refine (HC3.out _).mono ?_; rintro e w9 ⟨rfl, dd, rfl⟩
    go_wp2_with fail
    by_cases hst : s = t
    case pos =>
      subst hst
      refine (HSP.out _).mono ?_
      rintro e w6 ⟨hb6, hsp⟩
      have HB6 : Hid (Below W.heap.size W w6) := Lib.hid ((belowN HB5.out _).trans (hb6.mono (belowN HB5.out _).size))
      have HB56 : Hid (Below w5.heap.size w5 w6) := Lib.hid ((belowN (Below.refl _ _) _).trans hb6)
      rw [HSPL.out] at hsp
      rcases hsp with ⟨h, _⟩ | ⟨nn, kk, v6, h, rfl, ho6⟩
      · cases h
      obtain ⟨rfl, rfl⟩ : s.data.toList = nn ∧ k1 = kk := by simpa using h
      have htt : (⟨s.data.toList.toArray⟩ : ByteArray) = s := by cases s; simp
      rw [htt]
      obtain ⟨r6, o6, rfl, _, _, hbs6, _⟩ := ho6.form HN1.out
      obtain ⟨ks, hks⟩ : ∃ ks, ks = (⟨k1.toArray⟩ : ByteArray) := ⟨_, rfl⟩
      have hcv1 : ∀ k, (convert 22 9 (.slice r6 n1 o6)).run Try.prog (w6.drewN k) = .ok (.string ks) (w6.drewN k) := fun k => by rw [hks]; exact str_of (hbs6.drewN k) HN1.out
      have hcv2 : ∀ k, (convert 22 9 (.slice p1 n1 c1)).run Try.prog (w6.drewN k) = .ok (.string ks) (w6.drewN k) := fun k => by rw [hks]; exact str_of ((HK1.out.below HB56.out).drewN k) HN1.out
      have hz1 : w6.heap[M]? = some (.cells #[.slice r4 l4 o4] 22 (0, 0)) := by rw [HB56.out.block M (by have := HMW.out; omega)]; exact HZ1.out
      have hz2 : w6.heap[M + 1]? = some (.cells #[.slice r5 l5 o5] 22 (0, 0)) := by rw [HB56.out.block (M + 1) (by have := HMW.out; omega)]; exact HZ2.out
      have x1 : w6.cell? ⟨M, 0, none⟩ = some (.slice r4 l4 o4) := Joins.cell_of_block hz1 0
      have x2 : w6.cell? ⟨M + 1, 0, none⟩ = some (.slice r5 l5 o5) := Joins.cell_of_block hz2 0
      clear y1 y2 y3 y4 y5 y6
      obtain ⟨y1, y2, y3, y4, y5, y6⟩ := HKN.out _ HB6.out
      have hzy := HZE.out rfl
      have hwy : inF y a b = false := inF_eq ⟨fun h => absurd (HINY.out.1 h) HWI.out, fun h => by cases h⟩
      have hwz : inF z a b = false := by rw [hzy]; exact hwy
      have HI1 := Lib.hid (fun n => in_quiet (w := w6.drewN n) (A := M) (B := M + 1) HL2.out HL4.out HL5.out (by omega) (by omega) (by omega) x1 x2 ((HO2.out.below HB56.out).drewN n) ((HO4.out.below HB56.out).drewN n) ((HO5.out.below HB56.out).drewN n) (c := o2))
      have HI2 := Lib.hid (fun n => in_quiet (w := w6.drewN n) (A := M) (B := M + 1) HL3.out HL4.out HL5.out (by omega) (by omega) (by omega) x1 x2 ((HO3.out.below HB56.out).drewN n) ((HO4.out.below HB56.out).drewN n) ((HO5.out.below HB56.out).drewN n) (c := o3))
      rw [hwy] at HI1
      rw [hwz] at HI2
      have HBB := Lib.hid (HW.out.trans (HB6.out.mono HW.out.size))
      clear hb6 ho6 hbs6 hks hz1 hz2 x1 x2 hwy hwz z1 z2 htt
      clear hzy
      go_wp2_with fail
      go_quiet (first | with_reducible exact Calls.quiet_of (HI1.out _) | with_reducible exact Calls.quiet_of (HI2.out _))
      go_wp2
      go_ret
      exact ⟨rfl, belowN HBB.out _⟩
    refine (HSP.out _).mono ?_
    rintro e w6 ⟨hb6, hsp⟩
    have HB6 : Hid (Below W.heap.size W w6) := Lib.hid ((belowN HB5.out _).trans (hb6.mono (belowN HB5.out _).size))
    have HB56 : Hid (Below w5.heap.size w5 w6) := Lib.hid ((belowN (Below.refl _ _) _).trans hb6)
    rw [HSPL.out] at hsp
    rcases hsp with ⟨h, _⟩ | ⟨nn, kk, v6, h, rfl, ho6⟩
    · cases h
    obtain ⟨rfl, rfl⟩ : t.data.toList = nn ∧ k1 = kk := by simpa using h
    have htt : (⟨t.data.toList.toArray⟩ : ByteArray) = t := by cases t; simp
    rw [htt]
    obtain ⟨r6, o6, rfl, _, _, hbs6, _⟩ := ho6.form HN1.out
    obtain ⟨ks, hks⟩ : ∃ ks, ks = (⟨k1.toArray⟩ : ByteArray) := ⟨_, rfl⟩
    have hcv1 : ∀ k, (convert 22 9 (.slice r6 n1 o6)).run Try.prog (w6.drewN k) = .ok (.string ks) (w6.drewN k) := fun k => by rw [hks]; exact str_of (hbs6.drewN k) HN1.out
    have hcv2 : ∀ k, (convert 22 9 (.slice p1 n1 c1)).run Try.prog (w6.drewN k) = .ok (.string ks) (w6.drewN k) := fun k => by rw [hks]; exact str_of ((HK1.out.below HB56.out).drewN k) HN1.out
    have hz1 : w6.heap[M]? = some (.cells #[.slice r4 l4 o4] 22 (0, 0)) := by rw [HB56.out.block M (by have := HMW.out; omega)]; exact HZ1.out
    have hz2 : w6.heap[M + 1]? = some (.cells #[.slice r5 l5 o5] 22 (0, 0)) := by rw [HB56.out.block (M + 1) (by have := HMW.out; omega)]; exact HZ2.out
    have x1 : w6.cell? ⟨M, 0, none⟩ = some (.slice r4 l4 o4) := Joins.cell_of_block hz1 0
    have x2 : w6.cell? ⟨M + 1, 0, none⟩ = some (.slice r5 l5 o5) := Joins.cell_of_block hz2 0
    clear y1 y2 y3 y4 y5 y6
    obtain ⟨y1, y2, y3, y4, y5, y6⟩ := HKN.out _ HB6.out
    have hwy : inF y a b = false := inF_eq ⟨fun h => absurd (HINY.out.1 h) HWI.out, fun h => by cases h⟩
    have hwz : inF z a b = false := inF_eq ⟨fun h => absurd h (HINO.out hst), fun h => by cases h⟩
    have HI1 := Lib.hid (fun n => in_quiet (w := w6.drewN n) (A := M) (B := M + 1) HL2.out HL4.out HL5.out (by omega) (by omega) (by omega) x1 x2 ((HO2.out.below HB56.out).drewN n) ((HO4.out.below HB56.out).drewN n) ((HO5.out.below HB56.out).drewN n) (c := o2))
    have HI2 := Lib.hid (fun n => in_quiet (w := w6.drewN n) (A := M) (B := M + 1) HL3.out HL4.out HL5.out (by omega) (by omega) (by omega) x1 x2 ((HO3.out.below HB56.out).drewN n) ((HO4.out.below HB56.out).drewN n) ((HO5.out.below HB56.out).drewN n) (c := o3))
    rw [hwy] at HI1
    rw [hwz] at HI2
    have hse : (s.toList == t.toList) = false := by rw [beq_eq_false_iff_ne]; intro h; exact hst (fstr_eq h)
    have HBB := Lib.hid (HW.out.trans (HB6.out.mono HW.out.size))
    clear hb6 ho6 hbs6 hks hz1 hz2 x1 x2 hwy hwz z1 z2 htt
    clear hst
    go_wp2_with fail
    go_quiet (first | with_reducible exact Calls.quiet_of (HI1.out _) | with_reducible exact Calls.quiet_of (HI2.out _))
    go_wp2
    go_ret
    exact ⟨rfl, belowN HBB.out _⟩
  by_cases b2 : m1 = 0
  case pos =>
    have HWI : Hid (0 ≤ cf ∧ (e0 = [] ∨ ce < 0)) := Lib.hid ⟨b1, .inl (List.eq_nil_of_length_eq_zero (by rw [← HM1.out]; exact b2))⟩
    have b2b : ((m1 : Int) == 0) = true := by rw [b2]; rfl
    clear b2
    go_wp2_with fail
    refine (HC3.out _).mono ?_; rintro e w9 ⟨rfl, dd, rfl⟩
    go_wp2_with fail
    by_cases hst : s = t
    case pos =>
      subst hst
      refine (HSP.out _).mono ?_
      rintro e w6 ⟨hb6, hsp⟩
      have HB6 : Hid (Below W.heap.size W w6) := Lib.hid ((belowN HB5.out _).trans (hb6.mono (belowN HB5.out _).size))
      have HB56 : Hid (Below w5.heap.size w5 w6) := Lib.hid ((belowN (Below.refl _ _) _).trans hb6)
      rw [HSPL.out] at hsp
      rcases hsp with ⟨h, _⟩ | ⟨nn, kk, v6, h, rfl, ho6⟩
      · cases h
      obtain ⟨rfl, rfl⟩ : s.data.toList = nn ∧ k1 = kk := by simpa using h
      have htt : (⟨s.data.toList.toArray⟩ : ByteArray) = s := by cases s; simp
      rw [htt]
      obtain ⟨r6, o6, rfl, _, _, hbs6, _⟩ := ho6.form HN1.out
      obtain ⟨ks, hks⟩ : ∃ ks, ks = (⟨k1.toArray⟩ : ByteArray) := ⟨_, rfl⟩
      have hcv1 : ∀ k, (convert 22 9 (.slice r6 n1 o6)).run Try.prog (w6.drewN k) = .ok (.string ks) (w6.drewN k) := fun k => by rw [hks]; exact str_of (hbs6.drewN k) HN1.out
      have hcv2 : ∀ k, (convert 22 9 (.slice p1 n1 c1)).run Try.prog (w6.drewN k) = .ok (.string ks) (w6.drewN k) := fun k => by rw [hks]; exact str_of ((HK1.out.below HB56.out).drewN k) HN1.out
      have hz1 : w6.heap[M]? = some (.cells #[.slice r4 l4 o4] 22 (0, 0)) := by rw [HB56.out.block M (by have := HMW.out; omega)]; exact HZ1.out
      have hz2 : w6.heap[M + 1]? = some (.cells #[.slice r5 l5 o5] 22 (0, 0)) := by rw [HB56.out.block (M + 1) (by have := HMW.out; omega)]; exact HZ2.out
      have x1 : w6.cell? ⟨M, 0, none⟩ = some (.slice r4 l4 o4) := Joins.cell_of_block hz1 0
      have x2 : w6.cell? ⟨M + 1, 0, none⟩ = some (.slice r5 l5 o5) := Joins.cell_of_block hz2 0
      clear y1 y2 y3 y4 y5 y6
      obtain ⟨y1, y2, y3, y4, y5, y6⟩ := HKN.out _ HB6.out
      have hzy := HZE.out rfl
      have hwy : inF y a b = true := inF_eq ⟨fun _ => rfl, fun _ => HINY.out.2 HWI.out⟩
      have hwz : inF z a b = true := by rw [hzy]; exact hwy
      have HI1 := Lib.hid (fun n => in_quiet (w := w6.drewN n) (A := M) (B := M + 1) HL2.out HL4.out HL5.out (by omega) (by omega) (by omega) x1 x2 ((HO2.out.below HB56.out).drewN n) ((HO4.out.below HB56.out).drewN n) ((HO5.out.below HB56.out).drewN n) (c := o2))
      have HI2 := Lib.hid (fun n => in_quiet (w := w6.drewN n) (A := M) (B := M + 1) HL3.out HL4.out HL5.out (by omega) (by omega) (by omega) x1 x2 ((HO3.out.below HB56.out).drewN n) ((HO4.out.below HB56.out).drewN n) ((HO5.out.below HB56.out).drewN n) (c := o3))
      rw [hwy] at HI1
      rw [hwz] at HI2
      have HBB := Lib.hid (HW.out.trans (HB6.out.mono HW.out.size))
      clear hb6 ho6 hbs6 hks hz1 hz2 x1 x2 hwy hwz z1 z2 htt
      clear hzy
      go_wp2_with fail
      go_quiet (first | with_reducible exact Calls.quiet_of (HI1.out _) | with_reducible exact Calls.quiet_of (HI2.out _))
      go_wp2
      go_ret
      exact ⟨rfl, belowN HBB.out _⟩
    refine (HSP.out _).mono ?_
    rintro e w6 ⟨hb6, hsp⟩
    have HB6 : Hid (Below W.heap.size W w6) := Lib.hid ((belowN HB5.out _).trans (hb6.mono (belowN HB5.out _).size))
    have HB56 : Hid (Below w5.heap.size w5 w6) := Lib.hid ((belowN (Below.refl _ _) _).trans hb6)
    rw [HSPL.out] at hsp
    rcases hsp with ⟨h, _⟩ | ⟨nn, kk, v6, h, rfl, ho6⟩
    · cases h
    obtain ⟨rfl, rfl⟩ : t.data.toList = nn ∧ k1 = kk := by simpa using h
    have htt : (⟨t.data.toList.toArray⟩ : ByteArray) = t := by cases t; simp
    rw [htt]
    obtain ⟨r6, o6, rfl, _, _, hbs6, _⟩ := ho6.form HN1.out
    obtain ⟨ks, hks⟩ : ∃ ks, ks = (⟨k1.toArray⟩ : ByteArray) := ⟨_, rfl⟩
    have hcv1 : ∀ k, (convert 22 9 (.slice r6 n1 o6)).run Try.prog (w6.drewN k) = .ok (.string ks) (w6.drewN k) := fun k => by rw [hks]; exact str_of (hbs6.drewN k) HN1.out
    have hcv2 : ∀ k, (convert 22 9 (.slice p1 n1 c1)).run Try.prog (w6.drewN k) = .ok (.string ks) (w6.drewN k) := fun k => by rw [hks]; exact str_of ((HK1.out.below HB56.out).drewN k) HN1.out
    have hz1 : w6.heap[M]? = some (.cells #[.slice r4 l4 o4] 22 (0, 0)) := by rw [HB56.out.block M (by have := HMW.out; omega)]; exact HZ1.out
    have hz2 : w6.heap[M + 1]? = some (.cells #[.slice r5 l5 o5] 22 (0, 0)) := by rw [HB56.out.block (M + 1) (by have := HMW.out; omega)]; exact HZ2.out
    have x1 : w6.cell? ⟨M, 0, none⟩ = some (.slice r4 l4 o4) := Joins.cell_of_block hz1 0
    have x2 : w6.cell? ⟨M + 1, 0, none⟩ = some (.slice r5 l5 o5) := Joins.cell_of_block hz2 0
    clear y1 y2 y3 y4 y5 y6
    obtain ⟨y1, y2, y3, y4, y5, y6⟩ := HKN.out _ HB6.out
    have hwy : inF y a b = true := inF_eq ⟨fun _ => rfl, fun _ => HINY.out.2 HWI.out⟩
    have hwz : inF z a b = false := inF_eq ⟨fun h => absurd h (HINO.out hst), fun h => by cases h⟩
    have HI1 := Lib.hid (fun n => in_quiet (w := w6.drewN n) (A := M) (B := M + 1) HL2.out HL4.out HL5.out (by omega) (by omega) (by omega) x1 x2 ((HO2.out.below HB56.out).drewN n) ((HO4.out.below HB56.out).drewN n) ((HO5.out.below HB56.out).drewN n) (c := o2))
    have HI2 := Lib.hid (fun n => in_quiet (w := w6.drewN n) (A := M) (B := M + 1) HL3.out HL4.out HL5.out (by omega) (by omega) (by omega) x1 x2 ((HO3.out.below HB56.out).drewN n) ((HO4.out.below HB56.out).drewN n) ((HO5.out.below HB56.out).drewN n) (c := o3))
    rw [hwy] at HI1
    rw [hwz] at HI2
    have hse : (s.toList == t.toList) = false := by rw [beq_eq_false_iff_ne]; intro h; exact hst (fstr_eq h)
    have HBB := Lib.hid (HW.out.trans (HB6.out.mono HW.out.size))
    clear hb6 ho6 hbs6 hks hz1 hz2 x1 x2 hwy hwz z1 z2 htt
    clear hst
    go_wp2_with fail
    go_quiet (first | with_reducible exact Calls.quiet_of (HI1.out _) | with_reducible exact Calls.quiet_of (HI2.out _))
    go_wp2
    go_ret
    exact ⟨rfl, belowN HBB.out _⟩
  have b2b : ((m1 : Int) == 0) = false := by rw [beq_eq_false_iff_ne]; omega
  by_cases b3 : ce < 0
  case pos =>
    have HWI : Hid (0 ≤ cf ∧ (e0 = [] ∨ ce < 0)) := Lib.hid ⟨b1, .inr b3⟩
    clear b2
    go_wp2_with fail
    refine (HC3.out _).mono ?_; rintro e w9 ⟨rfl, dd, rfl⟩
    go_wp2_with fail
    refine (HC4.out _).mono ?_; rintro e w9 ⟨rfl, dd2, rfl⟩
    go_wp2_with fail
    by_cases hst : s = t
    case pos =>
      subst hst
      refine (HSP.out _).mono ?_
      rintro e w6 ⟨hb6, hsp⟩
      have HB6 : Hid (Below W.heap.size W w6) := Lib.hid ((belowN HB5.out _).trans (hb6.mono (belowN HB5.out _).size))
      have HB56 : Hid (Below w5.heap.size w5 w6) := Lib.hid ((belowN (Below.refl _ _) _).trans hb6)
      rw [HSPL.out] at hsp
      rcases hsp with ⟨h, _⟩ | ⟨nn, kk, v6, h, rfl, ho6⟩
      · cases h
      obtain ⟨rfl, rfl⟩ : s.data.toList = nn ∧ k1 = kk := by simpa using h
      have htt : (⟨s.data.toList.toArray⟩ : ByteArray) = s := by cases s; simp
      rw [htt]
      obtain ⟨r6, o6, rfl, _, _, hbs6, _⟩ := ho6.form HN1.out
      obtain ⟨ks, hks⟩ : ∃ ks, ks = (⟨k1.toArray⟩ : ByteArray) := ⟨_, rfl⟩
      have hcv1 : ∀ k, (convert 22 9 (.slice r6 n1 o6)).run Try.prog (w6.drewN k) = .ok (.string ks) (w6.drewN k) := fun k => by rw [hks]; exact str_of (hbs6.drewN k) HN1.out
      have hcv2 : ∀ k, (convert 22 9 (.slice p1 n1 c1)).run Try.prog (w6.drewN k) = .ok (.string ks) (w6.drewN k) := fun k => by rw [hks]; exact str_of ((HK1.out.below HB56.out).drewN k) HN1.out
      have hz1 : w6.heap[M]? = some (.cells #[.slice r4 l4 o4] 22 (0, 0)) := by rw [HB56.out.block M (by have := HMW.out; omega)]; exact HZ1.out
      have hz2 : w6.heap[M + 1]? = some (.cells #[.slice r5 l5 o5] 22 (0, 0)) := by rw [HB56.out.block (M + 1) (by have := HMW.out; omega)]; exact HZ2.out
      have x1 : w6.cell? ⟨M, 0, none⟩ = some (.slice r4 l4 o4) := Joins.cell_of_block hz1 0
      have x2 : w6.cell? ⟨M + 1, 0, none⟩ = some (.slice r5 l5 o5) := Joins.cell_of_block hz2 0
      clear y1 y2 y3 y4 y5 y6
      obtain ⟨y1, y2, y3, y4, y5, y6⟩ := HKN.out _ HB6.out
      have hzy := HZE.out rfl
      have hwy : inF y a b = true := inF_eq ⟨fun _ => rfl, fun _ => HINY.out.2 HWI.out⟩
      have hwz : inF z a b = true := by rw [hzy]; exact hwy
      have HI1 := Lib.hid (fun n => in_quiet (w := w6.drewN n) (A := M) (B := M + 1) HL2.out HL4.out HL5.out (by omega) (by omega) (by omega) x1 x2 ((HO2.out.below HB56.out).drewN n) ((HO4.out.below HB56.out).drewN n) ((HO5.out.below HB56.out).drewN n) (c := o2))
      have HI2 := Lib.hid (fun n => in_quiet (w := w6.drewN n) (A := M) (B := M + 1) HL3.out HL4.out HL5.out (by omega) (by omega) (by omega) x1 x2 ((HO3.out.below HB56.out).drewN n) ((HO4.out.below HB56.out).drewN n) ((HO5.out.below HB56.out).drewN n) (c := o3))
      rw [hwy] at HI1
      rw [hwz] at HI2
      have HBB := Lib.hid (HW.out.trans (HB6.out.mono HW.out.size))
      clear hb6 ho6 hbs6 hks hz1 hz2 x1 x2 hwy hwz z1 z2 htt
      clear hzy
      go_wp2_with fail
      go_quiet (first | with_reducible exact Calls.quiet_of (HI1.out _) | with_reducible exact Calls.quiet_of (HI2.out _))
      go_wp2
      go_ret
      exact ⟨rfl, belowN HBB.out _⟩
    refine (HSP.out _).mono ?_
    rintro e w6 ⟨hb6, hsp⟩
    have HB6 : Hid (Below W.heap.size W w6) := Lib.hid ((belowN HB5.out _).trans (hb6.mono (belowN HB5.out _).size))
    have HB56 : Hid (Below w5.heap.size w5 w6) := Lib.hid ((belowN (Below.refl _ _) _).trans hb6)
    rw [HSPL.out] at hsp
    rcases hsp with ⟨h, _⟩ | ⟨nn, kk, v6, h, rfl, ho6⟩
    · cases h
    obtain ⟨rfl, rfl⟩ : t.data.toList = nn ∧ k1 = kk := by simpa using h
    have htt : (⟨t.data.toList.toArray⟩ : ByteArray) = t := by cases t; simp
    rw [htt]
    obtain ⟨r6, o6, rfl, _, _, hbs6, _⟩ := ho6.form HN1.out
    obtain ⟨ks, hks⟩ : ∃ ks, ks = (⟨k1.toArray⟩ : ByteArray) := ⟨_, rfl⟩
    have hcv1 : ∀ k, (convert 22 9 (.slice r6 n1 o6)).run Try.prog (w6.drewN k) = .ok (.string ks) (w6.drewN k) := fun k => by rw [hks]; exact str_of (hbs6.drewN k) HN1.out
    have hcv2 : ∀ k, (convert 22 9 (.slice p1 n1 c1)).run Try.prog (w6.drewN k) = .ok (.string ks) (w6.drewN k) := fun k => by rw [hks]; exact str_of ((HK1.out.below HB56.out).drewN k) HN1.out
    have hz1 : w6.heap[M]? = some (.cells #[.slice r4 l4 o4] 22 (0, 0)) := by rw [HB56.out.block M (by have := HMW.out; omega)]; exact HZ1.out
    have hz2 : w6.heap[M + 1]? = some (.cells #[.slice r5 l5 o5] 22 (0, 0)) := by rw [HB56.out.block (M + 1) (by have := HMW.out; omega)]; exact HZ2.out
    have x1 : w6.cell? ⟨M, 0, none⟩ = some (.slice r4 l4 o4) := Joins.cell_of_block hz1 0
    have x2 : w6.cell? ⟨M + 1, 0, none⟩ = some (.slice r5 l5 o5) := Joins.cell_of_block hz2 0
    clear y1 y2 y3 y4 y5 y6
    obtain ⟨y1, y2, y3, y4, y5, y6⟩ := HKN.out _ HB6.out
    have hwy : inF y a b = true := inF_eq ⟨fun _ => rfl, fun _ => HINY.out.2 HWI.out⟩
    have hwz : inF z a b = false := inF_eq ⟨fun h => absurd h (HINO.out hst), fun h => by cases h⟩
    have HI1 := Lib.hid (fun n => in_quiet (w := w6.drewN n) (A := M) (B := M + 1) HL2.out HL4.out HL5.out (by omega) (by omega) (by omega) x1 x2 ((HO2.out.below HB56.out).drewN n) ((HO4.out.below HB56.out).drewN n) ((HO5.out.below HB56.out).drewN n) (c := o2))
    have HI2 := Lib.hid (fun n => in_quiet (w := w6.drewN n) (A := M) (B := M + 1) HL3.out HL4.out HL5.out (by omega) (by omega) (by omega) x1 x2 ((HO3.out.below HB56.out).drewN n) ((HO4.out.below HB56.out).drewN n) ((HO5.out.below HB56.out).drewN n) (c := o3))
    rw [hwy] at HI1
    rw [hwz] at HI2
    have hse : (s.toList == t.toList) = false := by rw [beq_eq_false_iff_ne]; intro h; exact hst (fstr_eq h)
    have HBB := Lib.hid (HW.out.trans (HB6.out.mono HW.out.size))
    clear hb6 ho6 hbs6 hks hz1 hz2 x1 x2 hwy hwz z1 z2 htt
    clear hst
    go_wp2_with fail
    go_quiet (first | with_reducible exact Calls.quiet_of (HI1.out _) | with_reducible exact Calls.quiet_of (HI2.out _))
    go_wp2
    go_ret
    exact ⟨rfl, belowN HBB.out _⟩
  have HWI : Hid (¬ (0 ≤ cf ∧ (e0 = [] ∨ ce < 0))) := Lib.hid (fun h => h.2.elim (fun e => b2 (by rw [HM1.out, e]; rfl)) b3)
  have b3d : decide (ce < 0) = false := decide_eq_false b3
  clear b2 b3
  go_wp2_with fail
  refine (HC3.out _).mono ?_; rintro e w9 ⟨rfl, dd, rfl⟩
  go_wp2_with fail
  refine (HC4.out _).mono ?_; rintro e w9 ⟨rfl, dd2, rfl⟩
  go_wp2_with fail
  by_cases hst : s = t
  case pos =>
    subst hst
    refine (HSP.out _).mono ?_
    rintro e w6 ⟨hb6, hsp⟩
    have HB6 : Hid (Below W.heap.size W w6) := Lib.hid ((belowN HB5.out _).trans (hb6.mono (belowN HB5.out _).size))
    have HB56 : Hid (Below w5.heap.size w5 w6) := Lib.hid ((belowN (Below.refl _ _) _).trans hb6)
    rw [HSPL.out] at hsp
    rcases hsp with ⟨h, _⟩ | ⟨nn, kk, v6, h, rfl, ho6⟩
    · cases h
    obtain ⟨rfl, rfl⟩ : s.data.toList = nn ∧ k1 = kk := by simpa using h
    have htt : (⟨s.data.toList.toArray⟩ : ByteArray) = s := by cases s; simp
    rw [htt]
    obtain ⟨r6, o6, rfl, _, _, hbs6, _⟩ := ho6.form HN1.out
    obtain ⟨ks, hks⟩ : ∃ ks, ks = (⟨k1.toArray⟩ : ByteArray) := ⟨_, rfl⟩
    have hcv1 : ∀ k, (convert 22 9 (.slice r6 n1 o6)).run Try.prog (w6.drewN k) = .ok (.string ks) (w6.drewN k) := fun k => by rw [hks]; exact str_of (hbs6.drewN k) HN1.out
    have hcv2 : ∀ k, (convert 22 9 (.slice p1 n1 c1)).run Try.prog (w6.drewN k) = .ok (.string ks) (w6.drewN k) := fun k => by rw [hks]; exact str_of ((HK1.out.below HB56.out).drewN k) HN1.out
    have hz1 : w6.heap[M]? = some (.cells #[.slice r4 l4 o4] 22 (0, 0)) := by rw [HB56.out.block M (by have := HMW.out; omega)]; exact HZ1.out
    have hz2 : w6.heap[M + 1]? = some (.cells #[.slice r5 l5 o5] 22 (0, 0)) := by rw [HB56.out.block (M + 1) (by have := HMW.out; omega)]; exact HZ2.out
    have x1 : w6.cell? ⟨M, 0, none⟩ = some (.slice r4 l4 o4) := Joins.cell_of_block hz1 0
    have x2 : w6.cell? ⟨M + 1, 0, none⟩ = some (.slice r5 l5 o5) := Joins.cell_of_block hz2 0
    clear y1 y2 y3 y4 y5 y6
    obtain ⟨y1, y2, y3, y4, y5, y6⟩ := HKN.out _ HB6.out
    have hzy := HZE.out rfl
    have hwy : inF y a b = false := inF_eq ⟨fun h => absurd (HINY.out.1 h) HWI.out, fun h => by cases h⟩
    have hwz : inF z a b = false := by rw [hzy]; exact hwy
    have HI1 := Lib.hid (fun n => in_quiet (w := w6.drewN n) (A := M) (B := M + 1) HL2.out HL4.out HL5.out (by omega) (by omega) (by omega) x1 x2 ((HO2.out.below HB56.out).drewN n) ((HO4.out.below HB56.out).drewN n) ((HO5.out.below HB56.out).drewN n) (c := o2))
    have HI2 := Lib.hid (fun n => in_quiet (w := w6.drewN n) (A := M) (B := M + 1) HL3.out HL4.out HL5.out (by omega) (by omega) (by omega) x1 x2 ((HO3.out.below HB56.out).drewN n) ((HO4.out.below HB56.out).drewN n) ((HO5.out.below HB56.out).drewN n) (c := o3))
    rw [hwy] at HI1
    rw [hwz] at HI2
    have HBB := Lib.hid (HW.out.trans (HB6.out.mono HW.out.size))
    clear hb6 ho6 hbs6 hks hz1 hz2 x1 x2 hwy hwz z1 z2 htt
    clear hzy
    go_wp2_with fail
    go_quiet (first | with_reducible exact Calls.quiet_of (HI1.out _) | with_reducible exact Calls.quiet_of (HI2.out _))
    go_wp2
    go_ret
    exact ⟨rfl, belowN HBB.out _⟩
  refine (HSP.out _).mono ?_
  rintro e w6 ⟨hb6, hsp⟩
  have HB6 : Hid (Below W.heap.size W w6) := Lib.hid ((belowN HB5.out _).trans (hb6.mono (belowN HB5.out _).size))
  have HB56 : Hid (Below w5.heap.size w5 w6) := Lib.hid ((belowN (Below.refl _ _) _).trans hb6)
  rw [HSPL.out] at hsp
  rcases hsp with ⟨h, _⟩ | ⟨nn, kk, v6, h, rfl, ho6⟩
  · cases h
  obtain ⟨rfl, rfl⟩ : t.data.toList = nn ∧ k1 = kk := by simpa using h
  have htt : (⟨t.data.toList.toArray⟩ : ByteArray) = t := by cases t; simp
  rw [htt]
  obtain ⟨r6, o6, rfl, _, _, hbs6, _⟩ := ho6.form HN1.out
  obtain ⟨ks, hks⟩ : ∃ ks, ks = (⟨k1.toArray⟩ : ByteArray) := ⟨_, rfl⟩
  have hcv1 : ∀ k, (convert 22 9 (.slice r6 n1 o6)).run Try.prog (w6.drewN k) = .ok (.string ks) (w6.drewN k) := fun k => by rw [hks]; exact str_of (hbs6.drewN k) HN1.out
  have hcv2 : ∀ k, (convert 22 9 (.slice p1 n1 c1)).run Try.prog (w6.drewN k) = .ok (.string ks) (w6.drewN k) := fun k => by rw [hks]; exact str_of ((HK1.out.below HB56.out).drewN k) HN1.out
  have hz1 : w6.heap[M]? = some (.cells #[.slice r4 l4 o4] 22 (0, 0)) := by rw [HB56.out.block M (by have := HMW.out; omega)]; exact HZ1.out
  have hz2 : w6.heap[M + 1]? = some (.cells #[.slice r5 l5 o5] 22 (0, 0)) := by rw [HB56.out.block (M + 1) (by have := HMW.out; omega)]; exact HZ2.out
  have x1 : w6.cell? ⟨M, 0, none⟩ = some (.slice r4 l4 o4) := Joins.cell_of_block hz1 0
  have x2 : w6.cell? ⟨M + 1, 0, none⟩ = some (.slice r5 l5 o5) := Joins.cell_of_block hz2 0
  clear y1 y2 y3 y4 y5 y6
  obtain ⟨y1, y2, y3, y4, y5, y6⟩ := HKN.out _ HB6.out
  have hwy : inF y a b = false := inF_eq ⟨fun h => absurd (HINY.out.1 h) HWI.out, fun h => by cases h⟩
  have hwz : inF z a b = false := inF_eq ⟨fun h => absurd h (HINO.out hst), fun h => by cases h⟩
  have HI1 := Lib.hid (fun n => in_quiet (w := w6.drewN n) (A := M) (B := M + 1) HL2.out HL4.out HL5.out (by omega) (by omega) (by omega) x1 x2 ((HO2.out.below HB56.out).drewN n) ((HO4.out.below HB56.out).drewN n) ((HO5.out.below HB56.out).drewN n) (c := o2))
  have HI2 := Lib.hid (fun n => in_quiet (w := w6.drewN n) (A := M) (B := M + 1) HL3.out HL4.out HL5.out (by omega) (by omega) (by omega) x1 x2 ((HO3.out.below HB56.out).drewN n) ((HO4.out.below HB56.out).drewN n) ((HO5.out.below HB56.out).drewN n) (c := o3))
  rw [hwy] at HI1
  rw [hwz] at HI2
  have hse : (s.toList == t.toList) = false := by rw [beq_eq_false_iff_ne]; intro h; exact hst (fstr_eq h)
  have HBB := Lib.hid (HW.out.trans (HB6.out.mono HW.out.size))
  clear hb6 ho6 hbs6 hks hz1 hz2 x1 x2 hwy hwz z1 z2 htt
  clear hst
  go_wp2_with fail
  go_quiet (first | with_reducible exact Calls.quiet_of (HI1.out _) | with_reducible exact Calls.quiet_of (HI2.out _))
  go_wp2
  go_ret
  exact ⟨rfl, belowN HBB.out _⟩

end Go.Proofs.Ytgfdihnpenipjaa
