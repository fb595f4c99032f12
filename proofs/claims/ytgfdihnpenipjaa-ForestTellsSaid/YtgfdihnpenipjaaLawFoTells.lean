/-
  The law ForestTells: its walk.
-/
import Derived.Test.YtgfdihnpenipjaaFoRef
set_option linter.unusedVariables false
set_option maxRecDepth 100000
namespace Go.Proofs.Ytgfdihnpenipjaa
open Go.RowKit

theorem key_n (w : World) : Calls Try.prog 6 #[.string ⟨#[110]⟩, .slice (some ⟨w.heap.size, 0, none⟩) 1 1] (w.alloc (.cells #[.int .u8 7] 5)) fun e w' => (∃ p c, e = .returned (.tuple #[.slice p 3 c, .int .i64 0]) ∧ Bs w' p [1, 110, 7]) ∧ Below w.heap.size w w' := by
  refine (fkey_any (w := w.alloc (.cells #[.int .u8 7] 5)) ⟨#[110]⟩ (by decide) (k := [7]) (Bs.one w _ _ rfl rfl) 1 1 rfl (fun h => by cases h)).mono ?_
  rintro e w' ⟨v, rfl, ho, hb⟩
  have hw : wrongF (⟨#[110]⟩ : ByteArray).data.toList [[7]] = 0 := by decide
  rw [hw, if_pos rfl] at ho
  obtain ⟨p, c, rfl, _, _, hbs, _⟩ := ho.form (n := 3) rfl
  exact ⟨⟨p, c, by rw [hw], hbs⟩, below_call hb⟩

set_option maxHeartbeats 6400000 in
theorem lawFoTells {w : World} (s : ByteArray) (hs : s.size ≤ 9223372036854775807) {p0 p1 q : Option Addr} {k0 k1 b : List UInt8} (n0 c0 n1 c1 m d : Nat)
    (hk0 : Bs w p0 k0) (hn0 : n0 = k0.length) (hp0 : p0 = none → c0 = 0) (hk1 : Bs w p1 k1) (hn1 : n1 = k1.length) (hp1 : p1 = none → c1 = 0)
    (hb : Bs w q b) (hm : m = b.length) (hmd : m ≤ d) (hd : d ≤ 9223372036854775807) (b0 : n0 ≤ 9223372036854775807) (b1 : n1 ≤ 9223372036854775807) :
    Calls Try.prog 3 #[.string s, .agg #[.slice p0 n0 c0, .slice p1 n1 c1], .slice q m d] w fun e w' => e = .returned (.bool true) ∧ Below w.heap.size w w' := by
  have HXA := Lib.hid (fun w (h : Bs w p0 k0) => fkey_any (w := w) s hs h n0 c0 hn0 hp0)
  have HYA := Lib.hid (fun w (h : Bs w p0 k0) => rkey_any (w := w) s hs h n0 c0 hn0 hp0)
  have HSA := Lib.hid (fun w (h : Bs w q b) => fsplit_any (w := w) h m d hm hmd hd)
  have HTA := Lib.hid (fun w (h : Bs w q b) => rsplit_any (w := w) h m d hm hmd hd)
  have HPA := Lib.hid (fun w (h : Bs w p0 k0) (h2 : Bs w p1 k1) => fspan_any (w := w) s hs h n0 c0 hn0 hp0 h2 n1 c1 hn1 hp1)
  have HQA := Lib.hid (fun w (h : Bs w p0 k0) (h2 : Bs w p1 k1) => rspan_any (w := w) s hs h n0 c0 hn0 hp0 h2 n1 c1 hn1 hp1)
  have HMA := Lib.hid (fun w => most_any (w := w) s hs)
  have HMB := Lib.hid (fun w => rmost_any (w := w) s hs)
  obtain ⟨mo, hmo⟩ : ∃ mo, mo = mostF s.data.toList := ⟨_, rfl⟩
  rw [← hmo] at HMA HMB
  have HK0 := Lib.hid hk0
  have HK1 := Lib.hid hk1
  have HBB := Lib.hid hb
  have hm63 : m ≤ 9223372036854775807 := by omega
  clear hs hk0 hn0 hp0 hk1 hn1 hp1 hb hm hmd hd hmo
  go_enter Try.func3, Try.ntmps3
  go_wp2_with fail
  · go_ret
    exact ⟨rfl, Below.alloc (Below.refl _ _) (Nat.le_refl _) _⟩
  have hx := heap_alloc_new w (.cells #[.slice p0 n0 c0, .slice p1 n1 c1] 23)
  have hbw : Below w.heap.size w (w.alloc (.cells #[.slice p0 n0 c0, .slice p1 n1 c1] 23)) := Below.alloc (Below.refl _ _) (Nat.le_refl _) _
  have hsz : (w.alloc (.cells #[.slice p0 n0 c0, .slice p1 n1 c1] 23)).heap.size = w.heap.size + 1 := by simp
  generalize w.alloc (.cells #[.slice p0 n0 c0, .slice p1 n1 c1] 23) = W at hx hbw hsz ⊢
  have HW := Lib.hid hbw
  have HK0 := Lib.hid (HK0.out.below hbw)
  have HK1 := Lib.hid (HK1.out.below hbw)
  have HBB := Lib.hid (HBB.out.below hbw)
  obtain ⟨N, hN⟩ : ∃ N, w.heap.size = N := ⟨_, rfl⟩
  rw [hN] at hx hsz ⊢
  have HKN : Hid (∀ w', Below W.heap.size W w' → w'.cell? ⟨N, 0, none⟩ = some (.slice p0 n0 c0) ∧ w'.cell? ⟨N, 1, none⟩ = some (.slice p1 n1 c1)) := Lib.hid (by
    intro w' hb
    have e1 : w'.heap[N]? = W.heap[N]? := hb.block _ (by omega)
    rw [hx] at e1
    exact ⟨Joins.cell_of_block e1 0, Joins.cell_of_block e1 1⟩)
  have HN := Lib.hid hN
  clear hx hbw hsz hN
  obtain ⟨y1, y2⟩ := HKN.out W (Below.refl _ _)
  obtain ⟨wx, hwx⟩ : ∃ x, x = wrongF s.data.toList [k0] := ⟨_, rfl⟩
  obtain ⟨wp, hwp⟩ : ∃ x, x = wrongF s.data.toList [k0, k1] := ⟨_, rfl⟩
  obtain ⟨lx, hlx⟩ : ∃ x, x = (if wx = 0 then keyF s.data.toList k0 else []) := ⟨_, rfl⟩
  obtain ⟨lp, hlp⟩ : ∃ x, x = (if wp = 0 then keyF s.data.toList k0 else []) := ⟨_, rfl⟩
  obtain ⟨lq, hlq⟩ : ∃ x, x = (if wp = 0 then spanB s.data.toList k1 else []) := ⟨_, rfl⟩
  unfold FKPost at HXA HYA
  unfold FSPost at HPA HQA
  rw [← hwx, ← hlx] at HXA HYA
  rw [← hwp, ← hlp, ← hlq] at HPA HQA
  obtain ⟨nx, hnx⟩ : ∃ n, lx.length = n := ⟨_, rfl⟩
  obtain ⟨np, hnp⟩ : ∃ n, lp.length = n := ⟨_, rfl⟩
  obtain ⟨nq, hnq⟩ : ∃ n, lq.length = n := ⟨_, rfl⟩
  have HNX := Lib.hid hnx
  have HNP := Lib.hid hnp
  have HNQ := Lib.hid hnq
  clear hwx hwp hlx hlp hlq hnx hnp hnq
  obtain ⟨sx, hsx⟩ : ∃ s, s = (⟨lx.toArray⟩ : ByteArray) := ⟨_, rfl⟩
  obtain ⟨sp, hsp⟩ : ∃ s, s = (⟨lp.toArray⟩ : ByteArray) := ⟨_, rfl⟩
  obtain ⟨sq, hsq⟩ : ∃ s, s = (⟨lq.toArray⟩ : ByteArray) := ⟨_, rfl⟩
  have HSX := Lib.hid hsx
  have HSP := Lib.hid hsp
  have HSQ := Lib.hid hsq
  clear hsx hsp hsq
  refine (HXA.out _ (HK0.out)).mono ?_
  rintro e w1 ⟨v1, rfl, ho, hb⟩
  have HB1 : Hid (Below W.heap.size W w1) := Lib.hid ((Below.refl W.heap.size W).trans (hb.mono (Below.refl W.heap.size W).size))
  obtain ⟨rx, ox, rfl, _, _, hbs, _⟩ := ho.form HNX.out.symm
  have HOx := Lib.hid hbs
  clear ho hbs hb
  clear y1 y2
  obtain ⟨y1, y2⟩ := HKN.out _ HB1.out
  go_wp2_with fail
  refine (HYA.out _ (HK0.out.below HB1.out)).mono ?_
  rintro e w2 ⟨v2, rfl, ho, hb⟩
  have HB2 : Hid (Below W.heap.size W w2) := Lib.hid (HB1.out.trans (hb.mono HB1.out.size))
  have HOx := Lib.hid (HOx.out.below hb)
  obtain ⟨ry, oy, rfl, _, _, hbs, _⟩ := ho.form HNX.out.symm
  have HOy := Lib.hid hbs
  clear ho hbs hb
  clear y1 y2
  obtain ⟨y1, y2⟩ := HKN.out _ HB2.out
  cases hsl : splitF b with
  | none =>
    have HSL := Lib.hid hsl
    clear hsl
    go_wp2_with fail
    refine (HSA.out _ (HBB.out.below HB2.out)).mono ?_
    rintro e w3 ⟨hb, ⟨_, rfl⟩ | ⟨nn, kk, vv, h, _⟩⟩
    rotate_left
    · rw [HSL.out] at h; cases h
    have HB3 : Hid (Below W.heap.size W w3) := Lib.hid (HB2.out.trans (hb.mono HB2.out.size))
    have HOx := Lib.hid (HOx.out.below hb)
    have HOy := Lib.hid (HOy.out.below hb)
    clear hb
    clear y1 y2
    obtain ⟨y1, y2⟩ := HKN.out _ HB3.out
    go_wp2_with fail
    refine (HTA.out _ (HBB.out.below HB3.out)).mono ?_
    rintro e w4 ⟨hb, ⟨_, rfl⟩ | ⟨nn, kk, vv, h, _⟩⟩
    rotate_left
    · rw [HSL.out] at h; cases h
    have HB4 : Hid (Below W.heap.size W w4) := Lib.hid (HB3.out.trans (hb.mono HB3.out.size))
    have HOx := Lib.hid (HOx.out.below hb)
    have HOy := Lib.hid (HOy.out.below hb)
    clear hb
    clear y1 y2
    obtain ⟨y1, y2⟩ := HKN.out _ HB4.out
    go_wp2_with fail
    refine (HPA.out _ (HK0.out.below HB4.out) (HK1.out.below HB4.out)).mono ?_
    rintro e w5 ⟨u5, v5, rfl, ho, ho2, hb⟩
    have HB5 : Hid (Below W.heap.size W w5) := Lib.hid (HB4.out.trans (hb.mono HB4.out.size))
    have HOx := Lib.hid (HOx.out.below hb)
    have HOy := Lib.hid (HOy.out.below hb)
    obtain ⟨rp, op, rfl, _, _, hbs, _⟩ := ho.form HNP.out.symm
    have HOp := Lib.hid hbs
    clear ho hbs
    obtain ⟨ra, oa, rfl, _, _, hbs, _⟩ := ho2.form HNQ.out.symm
    have HOa := Lib.hid hbs
    clear ho2 hbs hb
    clear y1 y2
    obtain ⟨y1, y2⟩ := HKN.out _ HB5.out
    go_wp2_with fail
    refine (HQA.out _ (HK0.out.below HB5.out) (HK1.out.below HB5.out)).mono ?_
    rintro e w6 ⟨u6, v6, rfl, ho, ho2, hb⟩
    have HB6 : Hid (Below W.heap.size W w6) := Lib.hid (HB5.out.trans (hb.mono HB5.out.size))
    have HOx := Lib.hid (HOx.out.below hb)
    have HOy := Lib.hid (HOy.out.below hb)
    have HOp := Lib.hid (HOp.out.below hb)
    have HOa := Lib.hid (HOa.out.below hb)
    obtain ⟨rr, or, rfl, _, _, hbs, _⟩ := ho.form HNP.out.symm
    have HOr := Lib.hid hbs
    clear ho hbs
    obtain ⟨rc, oc, rfl, _, _, hbs, _⟩ := ho2.form HNQ.out.symm
    have HOc := Lib.hid hbs
    clear ho2 hbs hb
    clear y1 y2
    obtain ⟨y1, y2⟩ := HKN.out _ HB6.out
    have HKN7 := Lib.hid (key_n w6)
    go_wp2_with fail
    refine HKN7.out.mono ?_
    rintro e w7 ⟨⟨r7, o7, rfl, hbs⟩, hb⟩
    have HB7 : Hid (Below W.heap.size W w7) := Lib.hid (HB6.out.trans (hb.mono HB6.out.size))
    have HOx := Lib.hid (HOx.out.below hb)
    have HOy := Lib.hid (HOy.out.below hb)
    have HOp := Lib.hid (HOp.out.below hb)
    have HOa := Lib.hid (HOa.out.below hb)
    have HOr := Lib.hid (HOr.out.below hb)
    have HOc := Lib.hid (HOc.out.below hb)
    have HO7 := Lib.hid hbs
    clear hb hbs
    have cx : (convert 22 9 (.slice rx nx ox)).run Try.prog w7 = .ok (.string sx) w7 := by rw [HSX.out]; exact str_of HOx.out HNX.out.symm
    have cy : (convert 22 9 (.slice ry nx oy)).run Try.prog w7 = .ok (.string sx) w7 := by rw [HSX.out]; exact str_of HOy.out HNX.out.symm
    have ct : (convert 22 9 (.slice none 0 0)).run Try.prog w7 = .ok (.string ⟨#[]⟩) w7 := str_of (l := []) (Bs.nil _ _) rfl
    have cp : (convert 22 9 (.slice rp np op)).run Try.prog w7 = .ok (.string sp) w7 := by rw [HSP.out]; exact str_of HOp.out HNP.out.symm
    have cr : (convert 22 9 (.slice rr np or)).run Try.prog w7 = .ok (.string sp) w7 := by rw [HSP.out]; exact str_of HOr.out HNP.out.symm
    have ca : (convert 22 9 (.slice ra nq oa)).run Try.prog w7 = .ok (.string sq) w7 := by rw [HSQ.out]; exact str_of HOa.out HNQ.out.symm
    have cc : (convert 22 9 (.slice rc nq oc)).run Try.prog w7 = .ok (.string sq) w7 := by rw [HSQ.out]; exact str_of HOc.out HNQ.out.symm
    clear y1 y2
    go_wp2_with fail
    refine (HMA.out _).mono ?_; rintro e w8 ⟨rfl, hb⟩
    have HB8 : Hid (Below W.heap.size W w8) := Lib.hid (HB7.out.trans (hb.mono HB7.out.size))
    have c7 : (convert 22 9 (.slice r7 3 o7)).run Try.prog w8 = .ok (.string ⟨#[1, 110, 7]⟩) w8 := str_of (HO7.out.below hb) rfl
    clear hb
    go_wp2_with fail
    refine (HMB.out _).mono ?_; rintro e w9 ⟨rfl, rfl⟩
    go_wp2
    go_ret
    exact ⟨rfl, HW.out.trans (HB8.out.mono HW.out.size)⟩
  | some sr =>
    obtain ⟨sn, sk⟩ := sr
    have HSL := Lib.hid hsl
    clear hsl
    obtain ⟨sn1, hsn1⟩ : ∃ s, s = (⟨sn.toArray⟩ : ByteArray) := ⟨_, rfl⟩
    obtain ⟨sk1, hsk1⟩ : ∃ s, s = (⟨sk.toArray⟩ : ByteArray) := ⟨_, rfl⟩
    obtain ⟨nk, hnk⟩ : ∃ n, sk.length = n := ⟨_, rfl⟩
    have HSN := Lib.hid hsn1
    have HSK := Lib.hid hsk1
    have HNK := Lib.hid hnk
    clear hsn1 hsk1 hnk
    go_wp2_with fail
    refine (HSA.out _ (HBB.out.below HB2.out)).mono ?_
    rintro e w3 ⟨hb, ⟨h, _⟩ | ⟨nn, kk, vv, h, rfl, ho⟩⟩
    · rw [HSL.out] at h; cases h
    have HB3 : Hid (Below W.heap.size W w3) := Lib.hid (HB2.out.trans (hb.mono HB2.out.size))
    have HOx := Lib.hid (HOx.out.below hb)
    have HOy := Lib.hid (HOy.out.below hb)
    obtain ⟨rfl, rfl⟩ : sn = nn ∧ sk = kk := by rw [HSL.out] at h; simpa using h
    rw [← HSN.out]
    obtain ⟨rt, ot, rfl, _, _, hbs, _⟩ := ho.form HNK.out.symm
    have HOt := Lib.hid hbs
    clear hb ho hbs h
    clear y1 y2
    obtain ⟨y1, y2⟩ := HKN.out _ HB3.out
    go_wp2_with fail
    refine (HTA.out _ (HBB.out.below HB3.out)).mono ?_
    rintro e w4 ⟨hb, ⟨h, _⟩ | ⟨nn, kk, vv, h, rfl, ho⟩⟩
    · rw [HSL.out] at h; cases h
    have HB4 : Hid (Below W.heap.size W w4) := Lib.hid (HB3.out.trans (hb.mono HB3.out.size))
    have HOx := Lib.hid (HOx.out.below hb)
    have HOy := Lib.hid (HOy.out.below hb)
    have HOt := Lib.hid (HOt.out.below hb)
    obtain ⟨rfl, rfl⟩ : sn = nn ∧ sk = kk := by rw [HSL.out] at h; simpa using h
    rw [← HSN.out]
    obtain ⟨ru, ou, rfl, _, _, hbs, _⟩ := ho.form HNK.out.symm
    have HOu := Lib.hid hbs
    clear hb ho hbs h
    clear y1 y2
    obtain ⟨y1, y2⟩ := HKN.out _ HB4.out
    go_wp2_with fail
    refine (HPA.out _ (HK0.out.below HB4.out) (HK1.out.below HB4.out)).mono ?_
    rintro e w5 ⟨u5, v5, rfl, ho, ho2, hb⟩
    have HB5 : Hid (Below W.heap.size W w5) := Lib.hid (HB4.out.trans (hb.mono HB4.out.size))
    have HOx := Lib.hid (HOx.out.below hb)
    have HOy := Lib.hid (HOy.out.below hb)
    have HOt := Lib.hid (HOt.out.below hb)
    have HOu := Lib.hid (HOu.out.below hb)
    obtain ⟨rp, op, rfl, _, _, hbs, _⟩ := ho.form HNP.out.symm
    have HOp := Lib.hid hbs
    clear ho hbs
    obtain ⟨ra, oa, rfl, _, _, hbs, _⟩ := ho2.form HNQ.out.symm
    have HOa := Lib.hid hbs
    clear ho2 hbs hb
    clear y1 y2
    obtain ⟨y1, y2⟩ := HKN.out _ HB5.out
    go_wp2_with fail
    refine (HQA.out _ (HK0.out.below HB5.out) (HK1.out.below HB5.out)).mono ?_
    rintro e w6 ⟨u6, v6, rfl, ho, ho2, hb⟩
    have HB6 : Hid (Below W.heap.size W w6) := Lib.hid (HB5.out.trans (hb.mono HB5.out.size))
    have HOx := Lib.hid (HOx.out.below hb)
    have HOy := Lib.hid (HOy.out.below hb)
    have HOt := Lib.hid (HOt.out.below hb)
    have HOu := Lib.hid (HOu.out.below hb)
    have HOp := Lib.hid (HOp.out.below hb)
    have HOa := Lib.hid (HOa.out.below hb)
    obtain ⟨rr, or, rfl, _, _, hbs, _⟩ := ho.form HNP.out.symm
    have HOr := Lib.hid hbs
    clear ho hbs
    obtain ⟨rc, oc, rfl, _, _, hbs, _⟩ := ho2.form HNQ.out.symm
    have HOc := Lib.hid hbs
    clear ho2 hbs hb
    clear y1 y2
    obtain ⟨y1, y2⟩ := HKN.out _ HB6.out
    have HKN7 := Lib.hid (key_n w6)
    go_wp2_with fail
    refine HKN7.out.mono ?_
    rintro e w7 ⟨⟨r7, o7, rfl, hbs⟩, hb⟩
    have HB7 : Hid (Below W.heap.size W w7) := Lib.hid (HB6.out.trans (hb.mono HB6.out.size))
    have HOx := Lib.hid (HOx.out.below hb)
    have HOy := Lib.hid (HOy.out.below hb)
    have HOt := Lib.hid (HOt.out.below hb)
    have HOu := Lib.hid (HOu.out.below hb)
    have HOp := Lib.hid (HOp.out.below hb)
    have HOa := Lib.hid (HOa.out.below hb)
    have HOr := Lib.hid (HOr.out.below hb)
    have HOc := Lib.hid (HOc.out.below hb)
    have HO7 := Lib.hid hbs
    clear hb hbs
    have cx : (convert 22 9 (.slice rx nx ox)).run Try.prog w7 = .ok (.string sx) w7 := by rw [HSX.out]; exact str_of HOx.out HNX.out.symm
    have cy : (convert 22 9 (.slice ry nx oy)).run Try.prog w7 = .ok (.string sx) w7 := by rw [HSX.out]; exact str_of HOy.out HNX.out.symm
    have ct : (convert 22 9 (.slice rt nk ot)).run Try.prog w7 = .ok (.string sk1) w7 := by rw [HSK.out]; exact str_of HOt.out HNK.out.symm
    have cu : (convert 22 9 (.slice ru nk ou)).run Try.prog w7 = .ok (.string sk1) w7 := by rw [HSK.out]; exact str_of HOu.out HNK.out.symm
    have cp : (convert 22 9 (.slice rp np op)).run Try.prog w7 = .ok (.string sp) w7 := by rw [HSP.out]; exact str_of HOp.out HNP.out.symm
    have cr : (convert 22 9 (.slice rr np or)).run Try.prog w7 = .ok (.string sp) w7 := by rw [HSP.out]; exact str_of HOr.out HNP.out.symm
    have ca : (convert 22 9 (.slice ra nq oa)).run Try.prog w7 = .ok (.string sq) w7 := by rw [HSQ.out]; exact str_of HOa.out HNQ.out.symm
    have cc : (convert 22 9 (.slice rc nq oc)).run Try.prog w7 = .ok (.string sq) w7 := by rw [HSQ.out]; exact str_of HOc.out HNQ.out.symm
    clear y1 y2
    go_wp2_with fail
    refine (HMA.out _).mono ?_; rintro e w8 ⟨rfl, hb⟩
    have HB8 : Hid (Below W.heap.size W w8) := Lib.hid (HB7.out.trans (hb.mono HB7.out.size))
    have c7 : (convert 22 9 (.slice r7 3 o7)).run Try.prog w8 = .ok (.string ⟨#[1, 110, 7]⟩) w8 := str_of (HO7.out.below hb) rfl
    clear hb
    go_wp2_with fail
    refine (HMB.out _).mono ?_; rintro e w9 ⟨rfl, rfl⟩
    go_wp2
    go_ret
    exact ⟨rfl, HW.out.trans (HB8.out.mono HW.out.size)⟩

end Go.Proofs.Ytgfdihnpenipjaa
