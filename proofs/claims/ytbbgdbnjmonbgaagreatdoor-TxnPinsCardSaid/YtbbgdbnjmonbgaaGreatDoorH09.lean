/-
  meta.Open.
  meta.newest and meta.Newest.
  meta.Newest and the reference'.
  pager.
-/
import Derived.Test.YtbbgdbnjmonbgaaGreatDoorH00
import Derived.Test.YtbbgdbnjmonbgaaGreatDoorH08
import Derived.Test.YtbbgdbnjmonbgaaGreatDoorH01
set_option linter.unusedVariables false
set_option maxRecDepth 100000
namespace Go.Proofs.YtbbgdbnjmonbgaaGreatDoor
open Go.RowKit
def MOpPost (w : World) (G R N D E : Nat) (e : Ending) (w' : World) : Prop :=
 e = .returned (.tuple #[.agg #[.int .i64 (G : Int), .int .i64 (R : Int), .int .i64 (N : Int), .int .i64 (D : Int)], .int .i64 (E : Int)]) ∧ Below w.heap.size w w'
theorem mres_cell {w w1 : World} {cs : Array Value} {t : TypeId} (hb : Below (w.alloc (.cells cs t)).heap.size (w.alloc (.cells cs t)) w1) (i : Nat) : w1.cell? ⟨w.heap.size, i, none⟩ = cs[i]? ∧ w1.frozen? ⟨w.heap.size, i, none⟩ = false := by
 have h := hb.block w.heap.size (by simp)
 have h2 := heap_alloc_new w (.cells cs t)
 rw [h2] at h
 exact ⟨jC h i, jU h i⟩
theorem w_of {l : List UInt8} {no : Int} (h : openE l no = 0) (hm : MOk l no) : wAt ((fIn l).take 32) 3 = (fG l : Nat) ∧ wAt ((fIn l).take 32) 0 = (fR l : Nat) ∧ wAt ((fIn l).take 32) 1 = (fN l : Nat) ∧ wAt ((fIn l).take 32) 2 = (fD l : Nat) := by
 obtain ⟨a1, a2, a3, a4, a5⟩ := hm
 have hb := a5.b
 have e : (fIn l).take 32 = fIn l := List.take_of_length_le (by omega)
 have e3 : ((fIn l).drop (8 * 3)).take 8 = (fIn l).drop 24 := List.take_of_length_le (by rw [List.length_drop]; omega)
 rw [e]
 refine ⟨?_, ?_, ?_, ?_⟩
 ·
  rw [wAt_lt (by rw [e3]; show fG l < _; omega), e3]; rfl
 ·
  have h0 : ((fIn l).drop (8 * 0)).take 8 = (fIn l).take 8 := rfl
  rw [wAt_lt (by rw [h0]; show fR l < _; omega), h0]; rfl
 ·
  rw [wAt_lt (by show fN l < _; omega)]; rfl
 ·
  rw [wAt_lt (by show fD l < _; omega)]; rfl
theorem ok_of {l : List UInt8} {no : Int} (h : openE l no = 0) {g r n d : Nat} (hr : MRight g r n d) (hp : mPage g r n d = l) : MOk l no := by
 obtain ⟨q1, q2, q3, q4, q5, q6, q7⟩ := page_own hr
 refine (again_page h).2 ?_
 rw [← hp, q2, q3, q4, q5, q6]
 exact ⟨hr, metaB_length _ _ _ _, rfl⟩
set_option maxHeartbeats 1600000 in
theorem mopen_err {w : World} (hT : Tab w) {p : Option Addr} {l : List UInt8} (hl : Bs w p l) {n c : Nat} (hn : n = l.length) (hnc : n ≤ c) (hc : c ≤ 9223372036854775807) (no : Int) (h : openE l no ≠ 0) :
  Calls Tryz.prog 78 #[.slice p n c, .int .i64 no] w (MOpPost w 0 0 0 0 (openE l no)) := by
 obtain ⟨W0, hW0⟩ : ∃ W0, W0 = w.alloc (.cells #[.int .i64 0, .int .i64 0, .int .i64 0, .int .i64 0] 49) := ⟨_, rfl⟩
 have HZ : Hid (Below w.heap.size w W0) := Hq (by rw [hW0]; exact (Below.refl _ _).alloc (Nat.le_refl _) _)
 have HR : Hid (∀ w', Below W0.heap.size W0 w' → ∀ i, w'.cell? ⟨w.heap.size, i, none⟩ = (#[.int .i64 0, .int .i64 0, .int .i64 0, .int .i64 0] : Array Value)[i]? ∧ w'.frozen? ⟨w.heap.size, i, none⟩ = false) := Hq fun w' hb i => by rw [hW0] at hb; exact mres_cell hb i
 have HC := Hq (pOpen_any (hT.below hT.lt HZ.out) (hl.below HZ.out) hn hnc hc no)
 obtain ⟨x, hx⟩ : ∃ x, x = openE l no := ⟨_, rfl⟩
 have hx0 : x ≠ 0 := by rw [hx]; exact h
 have HP : Hid (∀ e w', OpenPost W0 l no e w' → e = .returned (.tuple #[.int .u8 0, .int .i64 0, .slice none 0 0, .int .i64 (x : Int)]) ∧ Below W0.heap.size W0 w') := Hq fun e w' hp => by
  rcases hp with ⟨h1, h2, h3⟩ | ⟨h1, _⟩
  ·
   rw [hx]; exact ⟨h2, h3⟩
  ·
   exact absurd h1 h
 rw [← hx]
 clear hT hl hn hnc hc h hx
 have hx1 : ((x : Int) == 0) = false := by rw [beq_eq_false_iff_ne]; omega
 have hx2 : ((x : Int) != 0) = true := by rw [bne_iff_ne]; omega
 have hx3 : ¬ (x : Int) = 0 := by omega
 go_enter Tryz.func78, Tryz.ntmps78
 go_wp2_with fail
 rw [← hW0]
 clear hW0
 with_reducible refine HC.out.mono ?_
 intro e w1 hp
 obtain ⟨rfl, hb1⟩ := HP.out _ _ hp
 have HB1 := Hq hb1
 obtain ⟨c0, z0⟩ := HR.out _ hb1 0
 obtain ⟨c1, z1⟩ := HR.out _ hb1 1
 obtain ⟨c2, z2⟩ := HR.out _ hb1 2
 obtain ⟨c3, z3⟩ := HR.out _ hb1 3
 clear hb1 hp HC HP HR
 replace c0 : w1.cell? ⟨w.heap.size, 0, none⟩ = some (.int .i64 0) := c0
 replace c1 : w1.cell? ⟨w.heap.size, 1, none⟩ = some (.int .i64 0) := c1
 replace c2 : w1.cell? ⟨w.heap.size, 2, none⟩ = some (.int .i64 0) := c2
 replace c3 : w1.cell? ⟨w.heap.size, 3, none⟩ = some (.int .i64 0) := c3
 go_wp2_with fail
 refine bodyPost_ret (v := .tuple #[.agg #[.int .i64 0, .int .i64 0, .int .i64 0, .int .i64 0], .int .i64 (x : Int)]) (by simp [results, Tryz.results78, go_sem, c0, c1, c2, c3]) rfl ⟨rfl, ?_⟩
 exact ((((HZ.out.trans (HB1.out.mono HZ.out.size)).setCell (Nat.le_refl _) _).setCell (Nat.le_refl _) _).setCell (Nat.le_refl _) _).setCell (Nat.le_refl _) _
inductive MWay (l : List UInt8) (no : Int) (g r n d : Int) : Prop
 | bad (h : ¬ MRight g r n d)
 | not (g' r' n' d' : Nat) (hg : g = g') (hr : r = r') (hn : n = n') (hd : d = d') (h : MRight g' r' n' d') (hp : mPage g' r' n' d' ≠ l)
 | yes (g' r' n' d' : Nat) (hg : g = g') (hr : r = r') (hn : n = n') (hd : d = d') (h : MRight g' r' n' d') (hp : mPage g' r' n' d' = l)
theorem MWay.of (l : List UInt8) (no : Int) (g r n d : Int) : MWay l no g r n d := by
 by_cases h : MRight g r n d
 ·
  obtain ⟨g', r', n', d', rfl, rfl, rfl, rfl⟩ := h.nat
  by_cases hp : mPage g' r' n' d' = l
  ·
   exact .yes g' r' n' d' rfl rfl rfl rfl h hp
  ·
   exact .not g' r' n' d' rfl rfl rfl rfl h hp
 ·
  exact .bad h
set_option maxHeartbeats 3200000 in
theorem mopen_page {w : World} (hT : Tab w) {p : Option Addr} {l : List UInt8} (hl : Bs w p l) {n c : Nat} (hn : n = l.length) (hnc : n ≤ c) (hc : c ≤ 9223372036854775807) (no : Int) (h : openE l no = 0) :
  Calls Tryz.prog 78 #[.slice p n c, .int .i64 no] w (MOpPost w (mG l no) (mR l no) (mN l no) (mD l no) (mE l no)) := by
 obtain ⟨W0, hW0⟩ : ∃ W0, W0 = w.alloc (.cells #[.int .i64 0, .int .i64 0, .int .i64 0, .int .i64 0] 49) := ⟨_, rfl⟩
 have HZ : Hid (Below w.heap.size w W0) := Hq (by rw [hW0]; exact (Below.refl _ _).alloc (Nat.le_refl _) _)
 have HR : Hid (∀ w', Below W0.heap.size W0 w' → ∀ i, w'.cell? ⟨w.heap.size, i, none⟩ = (#[.int .i64 0, .int .i64 0, .int .i64 0, .int .i64 0] : Array Value)[i]? ∧ w'.frozen? ⟨w.heap.size, i, none⟩ = false) := Hq fun w' hb i => by rw [hW0] at hb; exact mres_cell hb i
 have HS : Hid (w.heap.size < W0.heap.size) := Hq (by rw [hW0]; simp)
 have HC := Hq (pOpen_any (hT.below hT.lt HZ.out) (hl.below HZ.out) hn hnc hc no)
 have HP : Hid (∀ e w', OpenPost W0 l no e w' → ∃ (u : UInt8) (q : Option Addr) (k cc : Nat), e = .returned (.tuple #[.int .u8 (u.toNat : Int), .int .i64 (fGen l : Nat), .slice q k cc, .int .i64 0]) ∧ k = (fIn l).length ∧ k ≤ cc ∧ cc ≤ 9223372036854775807 ∧ Bs w' q (fIn l) ∧ Below W0.heap.size W0 w') := Hq fun e w' hp => by
  rcases hp with ⟨h1, _⟩ | ⟨_, u, v, _, rfl, hv, hb⟩
  ·
   exact absurd h h1
  ·
   obtain ⟨q, cc, rfl, j1, j2, j3, _⟩ := hv.form rfl
   exact ⟨u, q, _, cc, rfl, rfl, j1, j2, j3, hb⟩
 have HT : Hid (∀ w', Below w.heap.size w w' → Tab w') := Hq fun w' hb => hT.below hT.lt hb
 have HL : Hid (∀ w', Below w.heap.size w w' → Bs w' p l) := Hq fun w' hb => hl.below hb
 have HN := Hq hn
 have hl512 : l.length = 512 := (openE_zero.1 h).1
 obtain rfl : n = 512 := by omega
 clear hT hl hn hl512
 have HH := Hq h
 clear h
 go_enter Tryz.func78, Tryz.ntmps78
 go_wp2_with fail
 rw [← hW0]
 clear hW0
 with_reducible refine HC.out.mono ?_
 intro e w1 hp
 obtain ⟨u, q, k, cc, rfl, hk, j1, j2, j3, hb1⟩ := HP.out _ _ hp
 have HB1 := Hq hb1
 have HG := Hq (mget_any j3 hk j1 j2)
 clear hp HC HP hk j1 j2 j3 hb1
 have HY : Hid (MOk l no → wAt ((fIn l).take 32) 3 = (fG l : Nat) ∧ wAt ((fIn l).take 32) 0 = (fR l : Nat) ∧ wAt ((fIn l).take 32) 1 = (fN l : Nat) ∧ wAt ((fIn l).take 32) 2 = (fD l : Nat)) := Hq (w_of HH.out)
 generalize wAt ((fIn l).take 32) 3 = y3 at *
 generalize wAt ((fIn l).take 32) 0 = y0 at *
 generalize wAt ((fIn l).take 32) 1 = y1 at *
 generalize wAt ((fIn l).take 32) 2 = y2 at *
 have HW := Hq (MWay.of l no y3 y0 y1 y2)
 go_wp2_with fail
 with_reducible refine HG.out.mono ?_
 rintro e w2 ⟨rfl, hb2⟩
 have HB2 := Hq (HB1.out.trans (hb2.mono HB1.out.size))
 clear hb2 HG HB1
 go_wp2_with fail
 obtain ⟨W3, hW3⟩ : ∃ W3, W3 = w2.alloc (.cells #[.int .i64 y3, .int .i64 y0, .int .i64 y1, .int .i64 y2] 49) := ⟨_, rfl⟩
 rw [← hW3]
 have HB3 : Hid (Below W0.heap.size W0 W3) := Hq (by rw [hW3]; exact HB2.out.alloc HB2.out.size _)
 have HM : Hid (∀ w', Below W3.heap.size W3 w' → ∀ i, w'.cell? ⟨w2.heap.size, i, none⟩ = (#[.int .i64 y3, .int .i64 y0, .int .i64 y1, .int .i64 y2] : Array Value)[i]? ∧ w'.frozen? ⟨w2.heap.size, i, none⟩ = false) := Hq fun w' hb i => by rw [hW3] at hb; exact mres_cell hb i
 have HR3 : Hid (∀ w', Below W3.heap.size W3 w' → ∀ i, w'.cell? ⟨w.heap.size, i, none⟩ = (#[.int .i64 0, .int .i64 0, .int .i64 0, .int .i64 0] : Array Value)[i]? ∧ w'.frozen? ⟨w.heap.size, i, none⟩ = false) := Hq fun w' hb i => HR.out w' (HB3.out.trans (hb.mono HB3.out.size)) i
 have HZ3 : Hid (Below w.heap.size w W3) := Hq (HZ.out.trans (HB3.out.mono HZ.out.size))
 have HH0 := HH.out
 clear hW3 HR HB2 HB3 HZ
 rcases HW.out with hbad | ⟨g, r, n, d, rfl, rfl, rfl, rfl, hr, hp⟩ | ⟨g, r, n, d, rfl, rfl, rfl, rfl, hr, hp⟩
 ·
  have hno : ¬ MOk l no := fun hm => by
   obtain ⟨e3, e0, e1, e2⟩ := HY.out hm
   have h5 := hm.2.2.2
   rw [← h5.1] at h5
   rw [e3, e0, e1, e2] at hbad
   exact hbad h5.2
  have hE := mE_not HH0 hno
  have hne : mE l no ≠ 0 := by rw [hE]; decide
  obtain ⟨m1, m2, m3, m4⟩ := m_none hne
  have HX : Hid (mG l no = 0 ∧ mR l no = 0 ∧ mN l no = 0 ∧ mD l no = 0 ∧ mE l no = 11) := Hq ⟨m1, m2, m3, m4, hE⟩
  have HC := Hq (mseal_bad (w := W3) y3 y0 y1 y2 hbad)
  clear HW HY HH HH0 hno hE hne m1 m2 m3 m4 hbad HN HL HT HM
  with_reducible refine HC.out.mono ?_
  rintro e w4 ⟨rfl, hb4⟩
  have HB4 := Hq hb4
  obtain ⟨c0, z0⟩ := HR3.out _ hb4 0
  obtain ⟨c1, z1⟩ := HR3.out _ hb4 1
  obtain ⟨c2, z2⟩ := HR3.out _ hb4 2
  obtain ⟨c3, z3⟩ := HR3.out _ hb4 3
  clear hb4 HC HR3
  replace c0 : w4.cell? ⟨w.heap.size, 0, none⟩ = some (.int .i64 0) := c0
  replace c1 : w4.cell? ⟨w.heap.size, 1, none⟩ = some (.int .i64 0) := c1
  replace c2 : w4.cell? ⟨w.heap.size, 2, none⟩ = some (.int .i64 0) := c2
  replace c3 : w4.cell? ⟨w.heap.size, 3, none⟩ = some (.int .i64 0) := c3
  go_wp2_with fail
  refine bodyPost_ret (v := .tuple #[.agg #[.int .i64 0, .int .i64 0, .int .i64 0, .int .i64 0], .int .i64 11]) (by simp [results, Tryz.results78, go_sem, c0, c1, c2, c3]) rfl ⟨by obtain ⟨x1, x2, x3, x4, x5⟩ := HX.out; rw [x1, x2, x3, x4, x5]; rfl, ?_⟩
  exact ((((HZ3.out.trans (HB4.out.mono HZ3.out.size)).setCell (Nat.le_refl _) _).setCell (Nat.le_refl _) _).setCell (Nat.le_refl _) _).setCell (Nat.le_refl _) _
 ·
  have hno : ¬ MOk l no := fun hm => by
   obtain ⟨e3, e0, e1, e2⟩ := HY.out hm
   obtain ⟨_, _, h5⟩ := (again_page HH0).1 hm
   have i3 : g = fG l := by omega
   have i0 : r = fR l := by omega
   have i1 : n = fN l := by omega
   have i2 : d = fD l := by omega
   rw [← i3, ← i0, ← i1, ← i2] at h5
   exact hp h5
  have hE := mE_not HH0 hno
  have hne : mE l no ≠ 0 := by rw [hE]; decide
  obtain ⟨m1, m2, m3, m4⟩ := m_none hne
  have HX : Hid (mG l no = 0 ∧ mR l no = 0 ∧ mN l no = 0 ∧ mD l no = 0 ∧ mE l no = 11) := Hq ⟨m1, m2, m3, m4, hE⟩
  have HC := Hq (mseal_ok (HT.out W3 HZ3.out) hr)
  have HML := Hq (mPage_length g r n d).symm
  have HPL := Hq hp
  clear HW HY HH HH0 hno hE hne m1 m2 m3 m4 hp hr HT HM
  generalize mPage g r n d = z at *
  with_reducible refine HC.out.mono ?_
  rintro e w4 ⟨v4, rfl, h4, hb4⟩
  have HB4 := Hq hb4
  obtain ⟨p4, c4, rfl, j1, j2, j3, _⟩ := h4.form HML.out
  have HQ : Hid (∀ w' c', w' = w4 → Calls Tryz.prog 112 #[.slice p4 512 c', .slice p 512 c] w' fun e w' => e = .returned (.bool false) ∧ w4 = w') := Hq fun w' c' hw => by
   subst hw
   have h1 := bequal_any (c := c') (d := c) j3 (HL.out w' (HZ3.out.trans (hb4.mono HZ3.out.size))) HML.out HN.out
   rw [decide_eq_false HPL.out] at h1
   exact h1.mono fun e w2 ⟨a, b⟩ => ⟨a, b.symm⟩
  obtain ⟨c0, z0⟩ := HR3.out _ hb4 0
  obtain ⟨c1, z1⟩ := HR3.out _ hb4 1
  obtain ⟨c2, z2⟩ := HR3.out _ hb4 2
  obtain ⟨c3, z3⟩ := HR3.out _ hb4 3
  clear hb4 HC HR3 h4 j1 j2 j3
  replace c0 : w4.cell? ⟨w.heap.size, 0, none⟩ = some (.int .i64 0) := c0
  replace c1 : w4.cell? ⟨w.heap.size, 1, none⟩ = some (.int .i64 0) := c1
  replace c2 : w4.cell? ⟨w.heap.size, 2, none⟩ = some (.int .i64 0) := c2
  replace c3 : w4.cell? ⟨w.heap.size, 3, none⟩ = some (.int .i64 0) := c3
  go_wp2_with fail
  with_reducible refine (HQ.out _ _ rfl).mono ?_
  rintro e w5 ⟨rfl, rfl⟩
  go_wp2_with fail
  refine bodyPost_ret (v := .tuple #[.agg #[.int .i64 0, .int .i64 0, .int .i64 0, .int .i64 0], .int .i64 11]) (by simp [results, Tryz.results78, go_sem, c0, c1, c2, c3]) rfl ⟨by obtain ⟨x1, x2, x3, x4, x5⟩ := HX.out; rw [x1, x2, x3, x4, x5]; rfl, ?_⟩
  exact ((((HZ3.out.trans (HB4.out.mono HZ3.out.size)).setCell (Nat.le_refl _) _).setCell (Nat.le_refl _) _).setCell (Nat.le_refl _) _).setCell (Nat.le_refl _) _
 ·
  have hok : MOk l no := ok_of HH0 hr hp
  have hE : mE l no = 0 := mE_zero.2 ⟨HH0, hok⟩
  obtain ⟨m1, m2, m3, m4⟩ := m_some hE
  obtain ⟨q1, q2, q3, q4, q5, _⟩ := page_own hr
  rw [hp] at q1 q2 q3 q4 q5
  have HX : Hid (mG l no = g ∧ mR l no = r ∧ mN l no = n ∧ mD l no = d ∧ mE l no = 0) := Hq ⟨m1.trans q1, m2.trans q3, m3.trans q4, m4.trans q5, hE⟩
  have HC := Hq (mseal_ok (HT.out W3 HZ3.out) hr)
  have HML := Hq (mPage_length g r n d).symm
  have HPL := Hq hp
  clear HW HY HH HH0 hok hE m1 m2 m3 m4 hp hr HT q1 q2 q3 q4 q5
  generalize mPage g r n d = z at *
  with_reducible refine HC.out.mono ?_
  rintro e w4 ⟨v4, rfl, h4, hb4⟩
  have HB4 := Hq hb4
  obtain ⟨p4, c4, rfl, j1, j2, j3, _⟩ := h4.form HML.out
  have HQ : Hid (∀ w' c', w' = w4 → Calls Tryz.prog 112 #[.slice p4 512 c', .slice p 512 c] w' fun e w' => e = .returned (.bool true) ∧ w4 = w') := Hq fun w' c' hw => by
   subst hw
   have h1 := bequal_any (c := c') (d := c) j3 (HL.out w' (HZ3.out.trans (hb4.mono HZ3.out.size))) HML.out HN.out
   rw [decide_eq_true HPL.out] at h1
   exact h1.mono fun e w2 ⟨a, b⟩ => ⟨a, b.symm⟩
  obtain ⟨c0, z0⟩ := HR3.out _ hb4 0
  obtain ⟨c1, z1⟩ := HR3.out _ hb4 1
  obtain ⟨c2, z2⟩ := HR3.out _ hb4 2
  obtain ⟨c3, z3⟩ := HR3.out _ hb4 3
  obtain ⟨b0, _⟩ := HM.out _ hb4 0
  obtain ⟨b1, _⟩ := HM.out _ hb4 1
  obtain ⟨b2, _⟩ := HM.out _ hb4 2
  obtain ⟨b3, _⟩ := HM.out _ hb4 3
  clear hb4 HC HR3 h4 j1 j2 j3 HM
  replace c0 : w4.cell? ⟨w.heap.size, 0, none⟩ = some (.int .i64 0) := c0
  replace c1 : w4.cell? ⟨w.heap.size, 1, none⟩ = some (.int .i64 0) := c1
  replace c2 : w4.cell? ⟨w.heap.size, 2, none⟩ = some (.int .i64 0) := c2
  replace c3 : w4.cell? ⟨w.heap.size, 3, none⟩ = some (.int .i64 0) := c3
  replace b0 : w4.cell? ⟨w2.heap.size, 0, none⟩ = some (.int .i64 (g : Int)) := b0
  replace b1 : w4.cell? ⟨w2.heap.size, 1, none⟩ = some (.int .i64 (r : Int)) := b1
  replace b2 : w4.cell? ⟨w2.heap.size, 2, none⟩ = some (.int .i64 (n : Int)) := b2
  replace b3 : w4.cell? ⟨w2.heap.size, 3, none⟩ = some (.int .i64 (d : Int)) := b3
  go_wp2_with fail
  with_reducible refine (HQ.out _ _ rfl).mono ?_
  rintro e w5 ⟨rfl, rfl⟩
  go_wp2_with fail
  refine bodyPost_ret (v := .tuple #[.agg #[.int .i64 (g : Int), .int .i64 (r : Int), .int .i64 (n : Int), .int .i64 (d : Int)], .int .i64 0]) (by simp [results, Tryz.results78, go_sem, c0, c1, c2, c3]) rfl ⟨by obtain ⟨x1, x2, x3, x4, x5⟩ := HX.out; rw [x1, x2, x3, x4, x5]; rfl, ?_⟩
  exact ((((HZ3.out.trans (HB4.out.mono HZ3.out.size)).setCell (Nat.le_refl _) _).setCell (Nat.le_refl _) _).setCell (Nat.le_refl _) _).setCell (Nat.le_refl _) _
theorem mopen_any {w : World} (hT : Tab w) {p : Option Addr} {l : List UInt8} (hl : Bs w p l) {n c : Nat} (hn : n = l.length) (hnc : n ≤ c) (hc : c ≤ 9223372036854775807) (no : Int) :
  Calls Tryz.prog 78 #[.slice p n c, .int .i64 no] w (MOpPost w (mG l no) (mR l no) (mN l no) (mD l no) (mE l no)) := by
 by_cases h : openE l no = 0
 ·
  exact mopen_page hT hl hn hnc hc no h
 ·
  have hE := mE_bad h
  have hne : mE l no ≠ 0 := by rw [hE]; exact h
  obtain ⟨m1, m2, m3, m4⟩ := m_none hne
  rw [m1, m2, m3, m4, hE]
  exact mopen_err hT hl hn hnc hc no h
end Go.Proofs.YtbbgdbnjmonbgaaGreatDoor

set_option linter.unusedVariables false
set_option maxRecDepth 100000
namespace Go.Proofs.YtbbgdbnjmonbgaaGreatDoor
open Go.RowKit
theorem set4 {w : World} {g : Nat} {x0 x1 x2 x3 : Value} {t : TypeId} (h : w.heap[g]? = some (.cells #[x0, x1, x2, x3] t (0, 0))) (a b c d : Value) :
  ((((w.setCell ⟨g, 0, none⟩ a).setCell ⟨g, 1, none⟩ b).setCell ⟨g, 2, none⟩ c).setCell ⟨g, 3, none⟩ d).heap[g]? = some (.cells #[a, b, c, d] t (0, 0)) :=
 heap_setCell_same _ g 3 _ t d (heap_setCell_same _ g 2 _ t c (heap_setCell_same _ g 1 _ t b (heap_setCell_same w g 0 _ t a h)))
theorem set4_other {w : World} {g k : Nat} (hk : k ≠ g) (a b c d : Value) :
  ((((w.setCell ⟨g, 0, none⟩ a).setCell ⟨g, 1, none⟩ b).setCell ⟨g, 2, none⟩ c).setCell ⟨g, 3, none⟩ d).heap[k]? = w.heap[k]? := by
 rw [heap_setCell_other _ _ _ _ hk, heap_setCell_other _ _ _ _ hk, heap_setCell_other _ _ _ _ hk, heap_setCell_other _ _ _ _ hk]
theorem set4_below {B g : Nat} {w0 w : World} (h : Below B w0 w) (hg : B ≤ g) (a b c d : Value) :
  Below B w0 ((((w.setCell ⟨g, 0, none⟩ a).setCell ⟨g, 1, none⟩ b).setCell ⟨g, 2, none⟩ c).setCell ⟨g, 3, none⟩ d) :=
 (((h.setCell hg _).setCell hg _).setCell hg _).setCell hg _
def m4 (g r n d : Nat) : Array Value := #[.int .i64 (g : Int), .int .i64 (r : Int), .int .i64 (n : Int), .int .i64 (d : Int)]
def bestC (a b : Array Value) : Nat → Array Value
 | 0 => #[.int .i64 0, .int .i64 0, .int .i64 0, .int .i64 0]
 | 1 => a
 | _ => b
set_option maxHeartbeats 1600000 in
theorem mnewest_any {w : World} {g : Nat} {ga ra na da gb rb nb db G R N D : Nat} (hg : g < w.heap.size)
  (k0 : w.cell? ⟨g, 0, none⟩ = some (.int .i64 (ga : Int))) (k1 : w.cell? ⟨g, 1, none⟩ = some (.int .i64 (ra : Int))) (k2 : w.cell? ⟨g, 2, none⟩ = some (.int .i64 (na : Int))) (k3 : w.cell? ⟨g, 3, none⟩ = some (.int .i64 (da : Int)))
  (k4 : w.cell? ⟨g, 4, none⟩ = some (.int .i64 (gb : Int))) (k5 : w.cell? ⟨g, 5, none⟩ = some (.int .i64 (rb : Int))) (k6 : w.cell? ⟨g, 6, none⟩ = some (.int .i64 (nb : Int))) (k7 : w.cell? ⟨g, 7, none⟩ = some (.int .i64 (db : Int)))
  (hz : ga = 0 → ra = 0 ∧ na = 0 ∧ da = 0) (hs : (ga < gb ∧ G = gb ∧ R = rb ∧ N = nb ∧ D = db) ∨ (¬ ga < gb ∧ G = ga ∧ R = ra ∧ N = na ∧ D = da)) :
  Calls Tryz.prog 79 #[.slice (some ⟨g, 0, none⟩) 2 2] w fun e w' => e = .returned (.agg #[.int .i64 (G : Int), .int .i64 (R : Int), .int .i64 (N : Int), .int .i64 (D : Int)]) ∧ Below w.heap.size w w' := by
 have HK : Hid (∀ w', Below w.heap.size w w' → ∀ i, w'.cell? ⟨g, i, none⟩ = w.cell? ⟨g, i, none⟩) := Hq fun w' hb i => hb.cell (p := ⟨g, i, none⟩) hg
 have HZ := Hq hz
 have HS := Hq hs
 have K0 := Hq k0
 have K1 := Hq k1
 have K2 := Hq k2
 have K3 := Hq k3
 have K4 := Hq k4
 have K5 := Hq k5
 have K6 := Hq k6
 have K7 := Hq k7
 clear k0 k1 k2 k3 k4 k5 k6 k7 hz hs hg
 go_enter Tryz.func79, Tryz.ntmps79
 go_wp2_with fail
 go_loopw [5, 8] (fun _ i wr => ∃ j : Nat, i = .int .i64 j ∧ j ≤ 2 ∧ wr.heap[w.heap.size + 1]? = some (.cells (bestC (m4 ga ra na da) (m4 G R N D) j) 49 (0, 0)) ∧ wr.heap[w.heap.size]? = some (.cells #[.int .i64 0, .int .i64 0, .int .i64 0, .int .i64 0] 49 (0, 0)) ∧ w.heap.size + 2 ≤ wr.heap.size ∧ Below w.heap.size w wr) (fun _ i _ => 2 - (intOf i).toNat)
 case atStart =>
  obtain ⟨b0, b1, b2, b3⟩ := boxes w #[.int .i64 0, .int .i64 0, .int .i64 0, .int .i64 0] #[.int .i64 0, .int .i64 0, .int .i64 0, .int .i64 0] 49 49
  exact ⟨0, rfl, by omega, b1, b0, by omega, b2⟩
 case round =>
  obtain ⟨j, rfl, hj, hA, hR, hsz, hb⟩ := hrel
  have HB := Hq hb
  have HR := Hq hR
  have hlt : w.heap.size + 1 < wr.heap.size := by omega
  have hlt0 : w.heap.size < wr.heap.size := by omega
  rcases (show j = 0 ∨ j = 1 ∨ j = 2 from by omega) with rfl | rfl | rfl
  ·
   have i0 := (HK.out _ HB.out 0).trans K0.out
   have i1 := (HK.out _ HB.out 1).trans K1.out
   have i2 := (HK.out _ HB.out 2).trans K2.out
   have i3 := (HK.out _ HB.out 3).trans K3.out
   replace hA : wr.heap[w.heap.size + 1]? = some (.cells #[.int .i64 0, .int .i64 0, .int .i64 0, .int .i64 0] 49 (0, 0)) := hA
   have HA := Hq hA
   have d0 : wr.cell? ⟨w.heap.size + 1, 0, none⟩ = some (.int .i64 0) := by rw [jC hA]; rfl
   have d1 : wr.cell? ⟨w.heap.size + 1, 1, none⟩ = some (.int .i64 0) := by rw [jC hA]; rfl
   have d2 : wr.cell? ⟨w.heap.size + 1, 2, none⟩ = some (.int .i64 0) := by rw [jC hA]; rfl
   have d3 : wr.cell? ⟨w.heap.size + 1, 3, none⟩ = some (.int .i64 0) := by rw [jC hA]; rfl
   have z0 : wr.frozen? ⟨w.heap.size + 1, 0, none⟩ = false := jU hA 0
   have z1 : wr.frozen? ⟨w.heap.size + 1, 1, none⟩ = false := jU hA 1
   have z2 : wr.frozen? ⟨w.heap.size + 1, 2, none⟩ = false := jU hA 2
   have z3 : wr.frozen? ⟨w.heap.size + 1, 3, none⟩ = false := jU hA 3
   clear hA hR hb
   by_cases h0 : ga = 0
   ·
    obtain ⟨e1, e2, e3⟩ := HZ.out h0
    subst h0 e1 e2 e3
    go_wp2_with fail
    go_roundw
    case rel => exact ⟨1, rfl, by omega, by rw [Below.heap_alloc _ _ _ (by omega)]; exact HA.out, by rw [Below.heap_alloc _ _ _ (by omega)]; exact HR.out, by simp; omega, HB.out.alloc HB.out.size _⟩
    case measure => simp [intOf]
   ·
    have hgt : (0 : Int) < (ga : Int) := by omega
    have hgt2 : 0 < ga := by omega
    go_wp2_with fail
    go_roundw
    case rel => exact ⟨1, rfl, by omega, by rw [Below.heap_alloc _ _ _ (by simp; omega)]; exact set4 HA.out _ _ _ _, by rw [Below.heap_alloc _ _ _ (by simp; omega), set4_other (by omega)]; exact HR.out, by simp; omega, (set4_below HB.out (by omega) _ _ _ _).alloc (by simp; omega) _⟩
    case measure => simp [intOf]
  ·
   have i4 := (HK.out _ HB.out 4).trans K4.out
   have i5 := (HK.out _ HB.out 5).trans K5.out
   have i6 := (HK.out _ HB.out 6).trans K6.out
   have i7 := (HK.out _ HB.out 7).trans K7.out
   replace hA : wr.heap[w.heap.size + 1]? = some (.cells #[.int .i64 (ga : Int), .int .i64 (ra : Int), .int .i64 (na : Int), .int .i64 (da : Int)] 49 (0, 0)) := hA
   have HA := Hq hA
   have d0 : wr.cell? ⟨w.heap.size + 1, 0, none⟩ = some (.int .i64 (ga : Int)) := by rw [jC hA]; rfl
   have d1 : wr.cell? ⟨w.heap.size + 1, 1, none⟩ = some (.int .i64 (ra : Int)) := by rw [jC hA]; rfl
   have d2 : wr.cell? ⟨w.heap.size + 1, 2, none⟩ = some (.int .i64 (na : Int)) := by rw [jC hA]; rfl
   have d3 : wr.cell? ⟨w.heap.size + 1, 3, none⟩ = some (.int .i64 (da : Int)) := by rw [jC hA]; rfl
   have z0 : wr.frozen? ⟨w.heap.size + 1, 0, none⟩ = false := jU hA 0
   have z1 : wr.frozen? ⟨w.heap.size + 1, 1, none⟩ = false := jU hA 1
   have z2 : wr.frozen? ⟨w.heap.size + 1, 2, none⟩ = false := jU hA 2
   have z3 : wr.frozen? ⟨w.heap.size + 1, 3, none⟩ = false := jU hA 3
   clear hA hR hb
   rcases HS.out with ⟨h0, rfl, rfl, rfl, rfl⟩ | ⟨h0, rfl, rfl, rfl, rfl⟩
   ·
    have hgt : decide ((ga : Int) < (G : Int)) = true := decide_eq_true (by omega)
    have hgt2 : decide (ga < G) = true := decide_eq_true h0
    clear h0
    go_wp2_with fail
    go_roundw
    case rel => exact ⟨2, rfl, by omega, by rw [Below.heap_alloc _ _ _ (by simp; omega)]; exact set4 HA.out _ _ _ _, by rw [Below.heap_alloc _ _ _ (by simp; omega), set4_other (by omega)]; exact HR.out, by simp; omega, (set4_below HB.out (by omega) _ _ _ _).alloc (by simp; omega) _⟩
    case measure => simp [intOf]
   ·
    have hgt : decide ((G : Int) < (gb : Int)) = false := decide_eq_false (by omega)
    have hgt2 : decide (G < gb) = false := decide_eq_false h0
    clear h0
    go_wp2_with fail
    go_roundw
    case rel => exact ⟨2, rfl, by omega, by rw [Below.heap_alloc _ _ _ (by omega)]; exact HA.out, by rw [Below.heap_alloc _ _ _ (by omega)]; exact HR.out, by simp; omega, HB.out.alloc HB.out.size _⟩
    case measure => simp [intOf]
  ·
   replace hA : wr.heap[w.heap.size + 1]? = some (.cells #[.int .i64 (G : Int), .int .i64 (R : Int), .int .i64 (N : Int), .int .i64 (D : Int)] 49 (0, 0)) := hA
   have d0 : wr.cell? ⟨w.heap.size + 1, 0, none⟩ = some (.int .i64 (G : Int)) := by rw [jC hA]; rfl
   have d1 : wr.cell? ⟨w.heap.size + 1, 1, none⟩ = some (.int .i64 (R : Int)) := by rw [jC hA]; rfl
   have d2 : wr.cell? ⟨w.heap.size + 1, 2, none⟩ = some (.int .i64 (N : Int)) := by rw [jC hA]; rfl
   have d3 : wr.cell? ⟨w.heap.size + 1, 3, none⟩ = some (.int .i64 (D : Int)) := by rw [jC hA]; rfl
   have c0 : wr.cell? ⟨w.heap.size, 0, none⟩ = some (.int .i64 0) := by rw [jC hR]; rfl
   have c1 : wr.cell? ⟨w.heap.size, 1, none⟩ = some (.int .i64 0) := by rw [jC hR]; rfl
   have c2 : wr.cell? ⟨w.heap.size, 2, none⟩ = some (.int .i64 0) := by rw [jC hR]; rfl
   have c3 : wr.cell? ⟨w.heap.size, 3, none⟩ = some (.int .i64 0) := by rw [jC hR]; rfl
   have z0 : wr.frozen? ⟨w.heap.size, 0, none⟩ = false := jU hR 0
   have z1 : wr.frozen? ⟨w.heap.size, 1, none⟩ = false := jU hR 1
   have z2 : wr.frozen? ⟨w.heap.size, 2, none⟩ = false := jU hR 2
   have z3 : wr.frozen? ⟨w.heap.size, 3, none⟩ = false := jU hR 3
   clear hA hR hb
   go_wp2_with fail
   refine bodyPost_ret (v := .agg #[.int .i64 (G : Int), .int .i64 (R : Int), .int .i64 (N : Int), .int .i64 (D : Int)]) (by simp [results, Tryz.results79, go_sem, c0, c1, c2, c3]) rfl ⟨rfl, ?_⟩
   exact set4_below HB.out (Nat.le_refl _) _ _ _ _
end Go.Proofs.YtbbgdbnjmonbgaaGreatDoor

set_option linter.unusedVariables false
set_option maxRecDepth 100000
namespace Go.Proofs.YtbbgdbnjmonbgaaGreatDoor
open Go.RowKit
def MNewPost (w : World) (G R N D : Nat) (e : Ending) (w' : World) : Prop :=
 e = .returned (.tuple #[.agg #[.int .i64 (G : Int), .int .i64 (R : Int), .int .i64 (N : Int), .int .i64 (D : Int)], .bool (decide (G ≠ 0))]) ∧ Below w.heap.size w w'
structure MTwo (ga ra na da ea gb rb nb db eb G R N D : Nat) : Prop where
 za : ga = 0 → ra = 0 ∧ na = 0 ∧ da = 0
 zb : gb = 0 → rb = 0 ∧ nb = 0 ∧ db = 0
 ea : ea = 0 ↔ ga ≠ 0
 eb : eb = 0 ↔ gb ≠ 0
 sel : (ga < gb ∧ G = gb ∧ R = rb ∧ N = nb ∧ D = db) ∨ (¬ ga < gb ∧ G = ga ∧ R = ra ∧ N = na ∧ D = da)
theorem m_zero {l : List UInt8} {no : Int} (h : mG l no = 0) : mR l no = 0 ∧ mN l no = 0 ∧ mD l no = 0 := by
 by_cases h1 : mE l no = 0
 ·
  exact absurd h (m_gen.1 h1)
 ·
  exact (m_none h1).2
theorem mTwo (a b : List UInt8) : MTwo (mG a 0) (mR a 0) (mN a 0) (mD a 0) (mE a 0) (mG b 1) (mR b 1) (mN b 1) (mD b 1) (mE b 1) (newG a b) (newR a b) (newN a b) (newD a b) := by
 refine ⟨m_zero, m_zero, m_gen, m_gen, ?_⟩
 unfold newG newR newN newD
 by_cases h : mG a 0 < mG b 1
 ·
  left
  simp [h]
 ·
  right
  simp [h]
set_option maxHeartbeats 1600000 in
theorem mNewest_any {w : World} (hT : Tab w) {p : Option Addr} {a : List UInt8} (ha : Bs w p a) {n c : Nat} (hn : n = a.length) (hnc : n ≤ c) (hc : c ≤ 9223372036854775807)
  {q : Option Addr} {b : List UInt8} (hb : Bs w q b) {k d : Nat} (hk : k = b.length) (hkd : k ≤ d) (hd : d ≤ 9223372036854775807) :
  Calls Tryz.prog 40 #[.slice p n c, .slice q k d] w (MNewPost w (newG a b) (newR a b) (newN a b) (newD a b)) := by
 obtain ⟨W0, hW0⟩ : ∃ W0, W0 = w.alloc (.cells #[.int .i64 0, .int .i64 0, .int .i64 0, .int .i64 0] 49) := ⟨_, rfl⟩
 have HZ : Hid (Below w.heap.size w W0) := Hq (by rw [hW0]; exact (Below.refl _ _).alloc (Nat.le_refl _) _)
 have HR : Hid (∀ w', Below W0.heap.size W0 w' → ∀ i, w'.cell? ⟨w.heap.size, i, none⟩ = (#[.int .i64 0, .int .i64 0, .int .i64 0, .int .i64 0] : Array Value)[i]? ∧ w'.frozen? ⟨w.heap.size, i, none⟩ = false) := Hq fun w' hb i => by rw [hW0] at hb; exact mres_cell hb i
 have HX := Hq (mTwo a b)
 have HCa : Hid (Calls Tryz.prog 78 #[.slice p n c, .int .i64 0] W0 (MOpPost W0 (mG a 0) (mR a 0) (mN a 0) (mD a 0) (mE a 0))) := Hq (mopen_any (hT.below hT.lt HZ.out) (ha.below HZ.out) hn hnc hc 0)
 have HCb : Hid (∀ w', Below w.heap.size w w' → Calls Tryz.prog 78 #[.slice q k d, .int .i64 1] w' (MOpPost w' (mG b 1) (mR b 1) (mN b 1) (mD b 1) (mE b 1))) := Hq fun w' hw => mopen_any (hT.below hT.lt hw) (hb.below hw) hk hkd hd 1
 clear hT ha hn hnc hc hb hk hkd hd
 generalize newG a b = G at *
 generalize newR a b = R at *
 generalize newN a b = N at *
 generalize newD a b = D at *
 generalize mG a 0 = ga at *
 generalize mR a 0 = ra at *
 generalize mN a 0 = na at *
 generalize mD a 0 = da at *
 generalize mE a 0 = ea at *
 generalize mG b 1 = gb at *
 generalize mR b 1 = rb at *
 generalize mN b 1 = nb at *
 generalize mD b 1 = db at *
 generalize mE b 1 = eb at *
 go_enter Tryz.func40, Tryz.ntmps40
 go_wp2_with fail
 rw [← hW0]
 clear hW0
 with_reducible refine HCa.out.mono ?_
 rintro e w1 ⟨rfl, hb1⟩
 have HB1 := Hq hb1
 clear hb1 HCa
 go_wp2_with fail
 obtain ⟨W1, hW1⟩ : ∃ W1, W1 = w1.alloc (.cells #[.int .i64 (ga : Int), .int .i64 (ra : Int), .int .i64 (na : Int), .int .i64 (da : Int)] 49) := ⟨_, rfl⟩
 rw [← hW1]
 have HB1' : Hid (Below W0.heap.size W0 W1) := Hq (by rw [hW1]; exact HB1.out.alloc HB1.out.size _)
 have HMa : Hid (∀ w', Below W1.heap.size W1 w' → ∀ i, w'.cell? ⟨w1.heap.size, i, none⟩ = (#[.int .i64 (ga : Int), .int .i64 (ra : Int), .int .i64 (na : Int), .int .i64 (da : Int)] : Array Value)[i]? ∧ w'.frozen? ⟨w1.heap.size, i, none⟩ = false) := Hq fun w' hb i => by rw [hW1] at hb; exact mres_cell hb i
 clear hW1 HB1
 with_reducible refine (HCb.out _ (HZ.out.trans (HB1'.out.mono HZ.out.size))).mono ?_
 rintro e w2 ⟨rfl, hb2⟩
 have HB2 := Hq hb2
 obtain ⟨i0, _⟩ := HMa.out _ hb2 0
 obtain ⟨i1, _⟩ := HMa.out _ hb2 1
 obtain ⟨i2, _⟩ := HMa.out _ hb2 2
 obtain ⟨i3, _⟩ := HMa.out _ hb2 3
 replace i0 : w2.cell? ⟨w1.heap.size, 0, none⟩ = some (.int .i64 (ga : Int)) := i0
 replace i1 : w2.cell? ⟨w1.heap.size, 1, none⟩ = some (.int .i64 (ra : Int)) := i1
 replace i2 : w2.cell? ⟨w1.heap.size, 2, none⟩ = some (.int .i64 (na : Int)) := i2
 replace i3 : w2.cell? ⟨w1.heap.size, 3, none⟩ = some (.int .i64 (da : Int)) := i3
 have hlt : w1.heap.size < w2.heap.size := World.block_lt_of_cell? _ _ i0
 clear hb2 HCb
 go_wp2_with fail
 obtain ⟨W2, hW2⟩ : ∃ W2, W2 = (w2.alloc (.cells #[.int .i64 (gb : Int), .int .i64 (rb : Int), .int .i64 (nb : Int), .int .i64 (db : Int)] 49)).alloc (.cells #[.int .i64 (ga : Int), .int .i64 (ra : Int), .int .i64 (na : Int), .int .i64 (da : Int), .int .i64 (gb : Int), .int .i64 (rb : Int), .int .i64 (nb : Int), .int .i64 (db : Int)] 49) := ⟨_, rfl⟩
 rw [← hW2]
 obtain ⟨_, x1, x2, x3⟩ := boxes w2 #[.int .i64 (gb : Int), .int .i64 (rb : Int), .int .i64 (nb : Int), .int .i64 (db : Int)] #[.int .i64 (ga : Int), .int .i64 (ra : Int), .int .i64 (na : Int), .int .i64 (da : Int), .int .i64 (gb : Int), .int .i64 (rb : Int), .int .i64 (nb : Int), .int .i64 (db : Int)] 49 49
 rw [← hW2] at x1 x2 x3
 have HC := Hq (mnewest_any (w := W2) (g := w2.heap.size + 1) (ga := ga) (ra := ra) (na := na) (da := da) (gb := gb) (rb := rb) (nb := nb) (db := db) (by omega)
  (by rw [jC x1]; rfl) (by rw [jC x1]; rfl) (by rw [jC x1]; rfl) (by rw [jC x1]; rfl)
  (by rw [jC x1]; rfl) (by rw [jC x1]; rfl) (by rw [jC x1]; rfl) (by rw [jC x1]; rfl) HX.out.za HX.out.sel)
 have HB3 : Hid (Below W0.heap.size W0 W2) := Hq ((HB1'.out.trans (HB2.out.mono HB1'.out.size)).trans (x2.mono (HB1'.out.trans (HB2.out.mono HB1'.out.size)).size))
 clear hW2 x1 x2 x3 i0 i1 i2 i3 hlt HMa HB2 HB1'
 with_reducible refine HC.out.mono ?_
 rintro e w3 ⟨rfl, hb3⟩
 have HB4 : Hid (Below W0.heap.size W0 w3) := Hq (HB3.out.trans (hb3.mono HB3.out.size))
 clear hb3 HC HB3
 go_wp2_with fail
 obtain ⟨W3, hW3⟩ : ∃ W3, W3 = w3.alloc (.cells #[.int .i64 (G : Int), .int .i64 (R : Int), .int .i64 (N : Int), .int .i64 (D : Int)] 49) := ⟨_, rfl⟩
 rw [← hW3]
 have HB5 : Hid (Below W0.heap.size W0 W3) := Hq (by rw [hW3]; exact HB4.out.alloc HB4.out.size _)
 have hm : ∀ i, W3.cell? ⟨w3.heap.size, i, none⟩ = (#[.int .i64 (G : Int), .int .i64 (R : Int), .int .i64 (N : Int), .int .i64 (D : Int)] : Array Value)[i]? ∧ W3.frozen? ⟨w3.heap.size, i, none⟩ = false := fun i => by rw [hW3]; exact mres_cell (Below.refl _ _) i
 obtain ⟨b0, _⟩ := hm 0
 obtain ⟨b1, _⟩ := hm 1
 obtain ⟨b2, _⟩ := hm 2
 obtain ⟨b3, _⟩ := hm 3
 obtain ⟨c0, z0⟩ := HR.out _ HB5.out 0
 obtain ⟨c1, z1⟩ := HR.out _ HB5.out 1
 obtain ⟨c2, z2⟩ := HR.out _ HB5.out 2
 obtain ⟨c3, z3⟩ := HR.out _ HB5.out 3
 have hlt : w.heap.size < w3.heap.size := by
  have h1 := World.block_lt_of_cell? _ _ c0
  have h2 := (HR.out _ HB4.out 0).1
  exact World.block_lt_of_cell? _ _ h2
 have hne : w.heap.size ≠ w3.heap.size := by omega
 replace b0 : W3.cell? ⟨w3.heap.size, 0, none⟩ = some (.int .i64 (G : Int)) := b0
 replace b1 : W3.cell? ⟨w3.heap.size, 1, none⟩ = some (.int .i64 (R : Int)) := b1
 replace b2 : W3.cell? ⟨w3.heap.size, 2, none⟩ = some (.int .i64 (N : Int)) := b2
 replace b3 : W3.cell? ⟨w3.heap.size, 3, none⟩ = some (.int .i64 (D : Int)) := b3
 replace c0 : W3.cell? ⟨w.heap.size, 0, none⟩ = some (.int .i64 0) := c0
 replace c1 : W3.cell? ⟨w.heap.size, 1, none⟩ = some (.int .i64 0) := c1
 replace c2 : W3.cell? ⟨w.heap.size, 2, none⟩ = some (.int .i64 0) := c2
 replace c3 : W3.cell? ⟨w.heap.size, 3, none⟩ = some (.int .i64 0) := c3
 have HZ3 : Hid (Below w.heap.size w W3) := Hq (HZ.out.trans (HB5.out.mono HZ.out.size))
 clear hm hW3 HR HB4 HB5 hlt
 by_cases hG : G = 0
 ·
  obtain ⟨rfl, rfl, rfl⟩ : R = 0 ∧ N = 0 ∧ D = 0 := by
   rcases HX.out.sel with ⟨_, h1, h2, h3, h4⟩ | ⟨_, h1, h2, h3, h4⟩
   ·
    have := HX.out.zb (by omega)
    omega
   ·
    have := HX.out.za (by omega)
    omega
  subst hG
  clear HX
  go_region
  go_wp2_with fail
  refine bodyPost_ret (v := .tuple #[.agg #[.int .i64 0, .int .i64 0, .int .i64 0, .int .i64 0], .bool false]) (by simp [results, Tryz.results40, go_sem, c0, c1, c2, c3]) rfl ⟨rfl, ?_⟩
  exact set4_below HZ3.out.drew (Nat.le_refl _) _ _ _ _
 ·
  have HG : Hid (decide (G ≠ 0) = true) := Hq (decide_eq_true hG)
  have hg1 : ((G : Int) == 0) = false := by rw [beq_eq_false_iff_ne]; omega
  have hg2 : ¬ (G : Int) = 0 := by omega
  clear HX
  go_region
  go_wp2_with fail
  refine bodyPost_ret (v := .tuple #[.agg #[.int .i64 (G : Int), .int .i64 (R : Int), .int .i64 (N : Int), .int .i64 (D : Int)], .bool true]) (by simp [results, Tryz.results40, go_sem, c0, c1, c2, c3]) rfl ⟨by rw [HG.out], ?_⟩
  exact set4_below HZ3.out.drew (Nat.le_refl _) _ _ _ _
end Go.Proofs.YtbbgdbnjmonbgaaGreatDoor

set_option linter.unusedVariables false
set_option maxRecDepth 100000
namespace Go.Proofs.YtbbgdbnjmonbgaaGreatDoor
open Go.RowKit
set_option maxHeartbeats 400000 in
theorem grMade_yes {w : World} {p : Nat} {a : Addr} (hc : w.cell? ⟨p, 0, none⟩ = some (.pointer (some a))) :
  Calls Tryz.prog 50 #[.pointer (some ⟨p, 0, none⟩)] w fun e w' => e = .returned (.bool true) ∧ w = w' := by
 go_enter Tryz.func50, Tryz.ntmps50
 go_wp2
 go_ret
 exact ⟨rfl, rfl⟩
end Go.Proofs.YtbbgdbnjmonbgaaGreatDoor

