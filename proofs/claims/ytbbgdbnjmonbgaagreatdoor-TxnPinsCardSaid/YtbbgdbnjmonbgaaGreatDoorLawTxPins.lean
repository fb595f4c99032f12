/-
  TxnPins.
-/
import Derived.Test.YtbbgdbnjmonbgaaGreatDoorH00
import Derived.Test.YtbbgdbnjmonbgaaGreatDoorH33
import Derived.Test.YtbbgdbnjmonbgaaGreatDoorH34
import Derived.Test.YtbbgdbnjmonbgaaGreatDoorH22
import Derived.LoopTactic
set_option linter.unusedVariables false
set_option linter.unusedSimpArgs false
set_option maxRecDepth 100000
namespace Go.Proofs.YtbbgdbnjmonbgaaGreatDoor
open Go.RowKit
def byI (x : Int) : UInt8 := UInt8.ofNat (x % 256).toNat
structure PnM (w wr : World) (pd s P pm : Nat) (X : PG) (f : Int → Option (Int × Int)) (v : Value) (gens : List Int) (u : Value) (ws : List Int) : Prop where
 g : GrAt wr w.heap.size P pd X
 t : TxBox wr s P (.pointer none) pm false
 m : PM wr P pm f
 bl : Below w.heap.size w wr
 hs : w.heap.size ≤ s
 hp : w.heap.size ≤ pm
 two : Two wr w.heap.size v gens u ws
theorem byI_int (x : Int) : ((byI x).toNat : Int) = x % 256 := by unfold byI; rw [byte_nat (by omega)]; omega
theorem kb_one {w : World} {b : Nat} {u : UInt8} {t : TypeId} {fr : Nat × Nat} (h : w.heap[b]? = some (.cells #[.int .u8 u.toNat] t fr)) : Kb.Ok w ⟨some ⟨b, 0, none⟩, 1, [u]⟩ :=
 ⟨fun _ => ⟨b, 0, rfl, fun i y hi => by
  match i, hi with
  | 0, hi => cases hi; exact (jC h 0).trans rfl
  | i + 1, hi => cases hi⟩, Nat.le_refl _, by show 1 ≤ _; omega, fun h => by cases h⟩
def PnH (w wr : World) (pd s P pm i : Nat) (v u : Value) : Prop :=
 ∃ X f gens ws now pins W, PnM w wr pd s P pm X f v gens u ws ∧ PX X i now pins gens W ∧ VF f pins gens (ws.map byI) ∧ gens.length = i
theorem PM.tp {w : World} {P pm : Nat} {f : Int → Option (Int × Int)} (h : PM w P pm f) (i : Nat) (c : Array Value) (fr : Nat × Nat) (hi : w.heap[i]? = some (.cells c 3 fr)) : ofTp P pm i (.cells c 3 fr) = false := by
 obtain ⟨⟨es, n, hb, _⟩, _⟩ := h.m
 have hne : (i == pm) = false := by
  rw [beq_eq_false_iff_ne]
  rintro rfl
  rw [hb] at hi
  cases hi
 unfold ofTp
 rw [hne, ofTx_int]
 rfl
theorem pnm_own {w w9 u : World} {pd s P pm : Nat} {X : PG} {f : Int → Option (Int × Int)} {v' u' : Value} {gens ws : List Int} (hg : GrAt w9 w.heap.size P pd X) (ht : TxBox w9 s P (.pointer none) pm false) (hm : PM w9 P pm f) (hb : Below w.heap.size w u) (hs : w.heap.size ≤ s) (hp : w.heap.size ≤ pm) (hk9 : Keep9 w w9 u) (htw : Two u w.heap.size v' gens u' ws) :
  PnM w u pd s P pm X f v' gens u' ws := by
 have hk : Keeps (isTy 3) w9 u := Keeps.mono hk9 fun i o h => by
  rw [Bool.and_eq_true] at h
  exact h.2
 refine ⟨?_, hk.stay ht rfl, ⟨hm.m.keeps hk (fun _ _ => rfl), hm.h⟩, hb, hs, hp, htw⟩
 obtain ⟨lm, fm, pl, um, wm, la, v, hg⟩ := hg
 exact ⟨lm, fm, pl, um, wm, la, v, ⟨hk.stay hg.blk rfl, hg.disk.keeps hk (fun _ _ _ => rfl) (fun _ _ _ => rfl) (fun _ _ _ => rfl) (fun _ _ => rfl) (fun _ _ => rfl), hg.list.keeps hk (fun _ => rfl) (fun _ _ => rfl) (fun _ _ => rfl), hg.mla.keeps hk (fun _ _ => rfl), pins_keeps hg.pins hk (fun _ _ _ => rfl), hg.bP, hg.bu, hg.bw, hg.ba, hg.nlm, hg.nfm, hg.nla, hg.g0, hg.mP⟩⟩
def QnH (w wr : World) (pd s P pm n : Nat) (v u : Value) : Prop :=
 ∃ X f gens ws now pins, PnM w wr pd s P pm X f v gens u ws ∧ PQ X now pins gens ∧ VF f pins gens (ws.map byI) ∧ gens.length = n
theorem mod_two (r : Int) {n : Nat} (hn : 0 < n) (h20 : n ≤ 20) : ∃ (a : Int) (kk : Nat), r.tmod (n : Int) = a ∧ wrap64 (a + (n : Int)) = a + (n : Int) ∧ (a + (n : Int)).tmod (n : Int) = (kk : Int) ∧ kk < n := by
 have h1 := Int.tmod_lt_of_pos r (show (0 : Int) < (n : Int) by omega)
 have h2 := Int.lt_tmod_of_pos r (show (0 : Int) < (n : Int) by omega)
 have h3 := Int.emod_nonneg (r.tmod (n : Int) + (n : Int)) (show (n : Int) ≠ 0 by omega)
 have h4 := Int.emod_lt_of_pos (r.tmod (n : Int) + (n : Int)) (show (0 : Int) < (n : Int) by omega)
 refine ⟨_, ((r.tmod (n : Int) + (n : Int)) % (n : Int)).toNat, rfl, IntWalk.wrap64_in _ (by omega), ?_, by omega⟩
 rw [Int.tmod_eq_emod_of_nonneg (by omega)]
 omega
theorem Two.len {w : World} {B : Nat} {v u : Value} {l m : List Int} (h : Two w B v l u m) : lenV v = l.length := by
 obtain ⟨q, c, rfl, _⟩ := h.a.form
 rfl
theorem two_less (l : List Int) {n kk : Nat} (hl : l.length = n) (hk : kk < n) : (([] ++ (l.take kk)) ++ (l.drop (kk + 1))).length < n := by
 simp only [List.length_append, List.length_take, List.length_drop, List.length_nil]
 omega
theorem two_few (l : List Int) {n kk : Nat} (hl : l.length = n) (hn : n ≤ 20) : ([] : List Int).length + (l.take kk).length ≤ 1000000000 ∧ ([] ++ (l.take kk)).length + (l.drop (kk + 1)).length ≤ 1000000000 := by
 simp only [List.length_append, List.length_take, List.length_drop, List.length_nil]
 omega
theorem meas_less {n kx : Nat} (h : kx < n) : n - (intOf (.int .i64 ((kx : Int) + 1))).toNat < n - (intOf (.int .i64 (kx : Int))).toNat := by
 show n - ((kx : Int) + 1).toNat < n - (kx : Int).toNat
 omega
set_option maxHeartbeats 25600000 in
theorem law_txpins {w : World} (hT : Tab w) {q0 : Option Addr} {m0 c0 : Nat} {l0 : List Int} (h0 : KsOk w q0 m0 c0 l0) {q1 : Option Addr} {m1 c1 : Nat} {l1 : List Int} (h1 : KsOk w q1 m1 c1 l1) :
  Calls Tryz.prog 3 #[.slice q0 m0 c0, .slice q1 m1 c1] w fun e w' => e = .returned (.bool true) ∧ Below w.heap.size w w' := by
 have HT := Hq hT
 have HL0 := Hq h0
 have HL1 := Hq h1
 have HNEW := Hq (new_yes (w := w) (n := 300) (by omega) (by omega))
 have hm63 : m0 ≤ 9223372036854775807 := Nat.le_trans h0.h1 h0.h2
 have hm64 : m1 ≤ 9223372036854775807 := Nat.le_trans h1.h1 h1.h2
 clear hT h0 h1
 go_enter Tryz.func3, Tryz.ntmps3
 go_wp2_with fail
 refine HNEW.out.mono ?_; rintro e w1 ⟨p, lm, fm, rfl, hd, hb, hp⟩
 have HB1 := Hq hb
 have HF := Hq (txCreate_any (grFormat_ok (HT.out.below HT.out.lt hb) HT.out.lt hd rfl (by show (0 : Int) ≤ _; decide) (by show (4 : Int) ≤ 300; omega)))
 clear hd hb hp
 go_wp2_with fail
 refine HF.out.mono ?_; rintro e w2 ⟨rfl, hs⟩
 have HB2 := Hq (HB1.out.trans hs.below)
 have HOK := Hq hs.disk.ok
 have HO := Hq (txOpenP_ok (HT.out.below HT.out.lt HB2.out) HB2.out.size HT.out.lt (grOpen_fmt (HT.out.below HT.out.lt HB2.out) hs.disk HB2.out.size rfl (by show (0 : Int) ≤ _; decide) (by show (4 : Int) ≤ 300; omega)) rfl rfl rfl rfl)
 clear hs
 go_wp2_with fail
 refine HO.out.mono ?_; rintro e w3 ⟨s, P, pm, rfl, hts, hgs, hb3, hk3, hs3, hm3, hp3⟩
 have HB3 := Hq (HB2.out.trans hb3)
 have HTS := Hq hts
 have HGS := Hq hgs
 have HSS := Hq (Nat.le_trans HB2.out.size hs3)
 have HK3 := Hq hk3
 have HM3 := Hq hm3
 have HP3 := Hq (Nat.le_trans HB2.out.size hp3)
 clear hts hgs hb3 hk3 hs3 hm3 hp3
 have HH : Hid (PnH w w3 p s P pm 0 (.slice none 0 0) (.slice none 0 0)) := Hq ⟨_, _, [], [], [], [], [], ⟨HGS.out, HTS.out, HM3.out, HB3.out, HSS.out, HP3.out, Two.nil⟩, PX.start rfl rfl rfl HOK.out, VF.start, rfl⟩
 clear HNEW HF HO HOK HTS HGS HSS HM3 HP3 HB1 HB2 HB3
 go_wp2_with fail
 go_loopw [8, 9, 10] (fun v u i wr => ∃ j : Nat, i = .int .i64 j ∧ j ≤ m0 ∧ j ≤ 20 ∧ PnH w wr p s P pm j v u) (fun _ _ i _ => 20 - (intOf i).toNat)
 case atStart => exact ⟨0, rfl, by omega, by omega, HH.out⟩
 case round =>
  obtain ⟨j, rfl, hj0, hj1, hH⟩ := hrel
  clear HH
  by_cases hlt : j < m0 ∧ j < 20
  ·
   obtain ⟨hlt0, hlt1⟩ := hlt
   obtain ⟨x, hx⟩ : ∃ x, l0[j]? = some x := ⟨_, List.getElem?_eq_getElem (by have := HL0.out.hn; omega)⟩
   obtain ⟨X, f, gens, ws, now, pins, W, hM, hX, hV, hgl⟩ := hH
   have HX := Hq hX
   have HV := Hq hV
   have HM := Hq hM
   have HGL := Hq hgl
   obtain ⟨a0, o0, rfl, hc0⟩ := HL0.out.hl (by intro e; rw [e] at hx; simp at hx)
   have HXC : Hid (∀ u, Below w.heap.size w u → u.cell? ⟨a0, o0 + j, none⟩ = some (.int .i64 x)) := Hq fun u hb => (hb.cell (World.block_lt_of_cell? _ _ (hc0 j x hx))).trans (hc0 j x hx)
   have i0 : (0 : Int) ≤ (j : Int) := by omega
   have i1 : (j : Int) < (m0 : Int) := by omega
   have i2 : (j : Int) < 20 := by omega
   have HBG := Hq (txBegin_yes HM.out.t HM.out.g HM.out.hs)
   clear hc0 hx hM hX hV hgl
   go_wp2_with fail
   refine HBG.out.mono ?_; rintro e w5 ⟨rfl, k, ht5, hk5, hg5, hb5, hkp5, hs5⟩
   clear HBG
   have HT5 := Hq ht5
   have HK5 := Hq hk5
   have HG5 := Hq hg5
   have HB5 := Hq hb5
   have HKP5 := Hq hkp5
   have x5 := HXC.out w5 (HM.out.bl.trans hb5)
   clear ht5 hk5 hg5 hb5 hkp5
   have hcv := fun (w : World) => Lib.run_convert_bytes_const (P := Tryz.prog) w 33 5 #[.int .u8 107] 1 1 Tryz.underlying33 Tryz.underlying5
   have x6 := HXC.out (w5.alloc (.cells #[.int .u8 107] 5 (1, 2))) ((HM.out.bl.trans HB5.out).trans ((sbox1 _ _).mono (HM.out.bl.trans HB5.out).size))
   obtain ⟨W6, hW6⟩ : ∃ W6, W6 = (w5.alloc (.cells #[.int .u8 107] 5 (1, 2))).alloc (.cells #[.int .u8 (x % 256)] 5) := ⟨_, rfl⟩
   have hb6 : Below w5.heap.size w5 W6 := by rw [hW6]; exact sbox2 _ _ _
   have HB6 : Hid (Below w.heap.size w W6) := Hq ((HM.out.bl.trans HB5.out).trans (hb6.mono (HM.out.bl.trans HB5.out).size))
   have HK6 : Hid (Keeps (ofTx P) wr W6) := Hq ((HKP5.out.mono (isTy_ofTx (by decide))).trans (Keeps.below hb6))
   have HKB : Hid (KeyOf W6 ⟨#[97]⟩ ⟨some ⟨w5.heap.size, 0, none⟩, 1, [107]⟩) := Hq ⟨by show 1 ≤ _; omega, kb_one (u := 107) (by rw [hW6]; exact (Below.refl (w5.heap.size + 1) (w5.alloc _)).alloc (by simp) _ |>.block _ (by simp) |>.trans (heap_alloc_new w5 _)), (by show wrongF [97] [[107]] = 0; decide)⟩
   have HVB : Hid (Kb.Ok W6 ⟨some ⟨w5.heap.size + 1, 0, none⟩, 1, [byI x]⟩) := Hq (kb_one (u := byI x) (t := 5) (fr := (0, 0)) (by
    rw [hW6, byI_int]
    have := heap_alloc_new (w5.alloc (.cells #[.int .u8 107] 5 (1, 2))) (.cells #[.int .u8 (x % 256)] 5)
    simpa using this))
   obtain ⟨th, hget⟩ := HX.out.got
   obtain ⟨kn, Y, W', hY, hput⟩ := HX.out.round (by omega) (byI x)
   have HY := Hq hY
   have HTA : Hid (TA W6 w.heap.size P p s k pm X X.r X.n X.d (.slice none 0 0)) := Hq ⟨HT5.out.low hb6, HK5.out.low hb6, HG5.out.below hb6, HM.out.hs, by have := HM.out.bl.size; omega, by
    have h1 := HM.out.m.h
    have h2 := HM.out.m.m.lt
    have h3 := HB5.out.size
    have h4 := hb6.size
    omega⟩
   have HPU := Hq (txPutS_yes HTA.out (l := []) (World.ownsRow_nil W6 _ _ _) (by simp) HKB.out (val := ⟨some ⟨w5.heap.size + 1, 0, none⟩, 1, [byI x]⟩) (by show 1 ≤ 4096; omega) (no := kn) (th := th) (Y := Y)
    (fun w1 kb hb hkb hkl => hget w1 _ P p kb (HT.out.below HT.out.lt (HB6.out.trans (hb.mono HB6.out.size))) (HTA.out.g.below hb) HT.out.lt hkb hkl)
    (fun w1 kb hb hkb hkl => hput w1 _ P p kb _ (HT.out.below HT.out.lt (HB6.out.trans (hb.mono HB6.out.size))) (HTA.out.g.below hb) HT.out.lt hkb hkl (HVB.out.below hb) rfl))
   clear hget hput hY hb6
   go_wp2_with fail
   rw [← hW6]
   replace hW6 := Hq hW6
   clear x5 x6 hcv
   refine HPU.out.mono ?_; rintro e w7 ⟨rfl, ⟨bq, bm, bc, _, _, _, hta7, _⟩, hb7, hk7⟩
   rw [HX.out.n, HX.out.d] at hta7
   have HTA7 := Hq hta7
   have HB7 := Hq (HB6.out.trans hb7)
   clear hta7 hb7 HPU
   have HK7 := Hq (HK6.out.trans hk7)
   obtain ⟨c1, c2, c3, c4, c5, c6, c7, c8⟩ := HY.out.commit (by omega)
   have HCM := Hq (txCommit_yes HTA7.out.t (r := kn) (n := 1) (d := 1) HTA7.out.wk HTA7.out.g HM.out.hs fun w1 hb1 g1 => (by
    obtain ⟨lm, fm, pl, um, wm, la, v, hg⟩ := g1
    exact grCommit_ok (HT.out.below HT.out.lt (HB7.out.trans hb1)) HT.out.lt hg c3 c2 (by have := HY.out.z; omega) HY.out.lf c1))
   obtain ⟨Z, hZ⟩ : ∃ Z, Z = Y.commit kn 1 1 := ⟨_, rfl⟩
   rw [← hZ] at HCM c4 c5 c6 c7 c8
   have HZR := Hq c4
   have HZG : Hid ((Z.g : Int) = 3 + (j : Int)) := Hq (by have := HY.out.g; omega)
   have HC6 := Hq c6
   have HC7 := Hq c7
   have HX9 := Hq c8
   have HFG : Hid ((Z.g : Int) ∉ gens) := Hq fun hm => by
    have h1 := HX.out.v.po.le _ hm
    have h2 := HX.out.g
    have h3 := HZG.out
    omega
   clear hk7 hZ c1 c2 c3 c4 c5 c6 c7 c8
   go_wp2_with fail
   refine HCM.out.mono ?_; rintro e w8 ⟨rfl, ht8, hg8, hb8, hk8⟩
   have HK8 := Hq (HK7.out.trans hk8)
   have HB8 := Hq (HB7.out.trans hb8)
   have hf0 : ((f (Z.g : Int)).getD (0, 0)).2 = 0 := by rw [HV.out.fn _ HFG.out]; rfl
   have HPI := Hq (txPin_yes ht8 (HM.out.m.tx HK8.out) hg8 HM.out.hp hf0 ⟨by omega, by omega⟩ (by
    obtain ⟨lm, fm, pl, um, wm, la, v, hg⟩ := hg8
    exact grPin_new hg HC6.out HC7.out))
   have HTW8 := Hq (HM.out.two.keeps HK8.out ofTx_int)
   have HMP8 := Hq (HM.out.m.tx HK8.out)
   clear ht8 hg8 hb8 hk8 hf0 HCM
   go_wp2_with fail
   refine HPI.out.mono ?_; rintro e w9 ⟨rfl, ht9, hm9, hg9, hb9, hk9⟩
   have HT9 := Hq ht9
   have HM9 := Hq hm9
   have HG9 := Hq hg9
   have HB9 := Hq (HB8.out.trans hb9)
   have HTW9 := Hq (HTW8.out.keepsQ hk9 (HMP8.out.tp))
   clear ht9 hm9 hg9 hb9 hk9 HPI HTW8
   go_wp2_with fail
   have HWL : Hid (ws.length ≤ 20) := Hq (by have := HV.out.lb; have h2 := HGL.out; rw [List.length_map] at this; omega)
   have HEND : Hid (∀ (v' u' : Value) (u : World), Below w.heap.size w u → Keep9 w w9 u → Two u w.heap.size v' (gens ++ [(Z.g : Int)]) u' (ws ++ [x]) → PnH w u p s P pm (j + 1) v' u') := Hq fun v' u' u hb hk ht => by
    have hV := HV.out.pin HFG.out (by have := HZG.out; omega) kn (byI x)
    refine ⟨_, _, _, _, _, _, W', pnm_own HG9.out HT9.out HM9.out hb HM.out.hs HM.out.hp hk ht, HX9.out, ?_, by rw [List.length_append, HGL.out]; rfl⟩
    rw [HZR.out, List.map_append]
    exact hV
   clear HX9 HV HM HC6 HC7 HFG
   -- REGION 16
   refine wp_region_held_drew (S := fun w' => w'.cell? ⟨a0, o0 + j, none⟩ = some (.int .i64 x)) (by kernel_rfl) (HXC.out _ (HB9.out.trans (Below.drew (Below.refl _ _)))) (fun hHeld => ?_)
   refine wpAnyH_take (i := 0) (v := ?_) rfl (by kernel_rfl) (by kernel_rfl) (by kernel_rfl) (fun _ _ _ h => h) (Or.inl ⟨by rfl, ?_⟩) (by assumption) ?_
   rotate_left
   ·
    intro w hSw; (try dsimp only at hSw); go_simp; try with_reducible rfl
   simp only [Act.put, List.getElem_toArray, List.getElem_cons_zero, List.setIfInBounds_toArray, List.set_cons_zero, List.set_cons_succ]
   refine wpAnyH_take (i := 1) (v := ?_) rfl (by kernel_rfl) (by kernel_rfl) (by kernel_rfl) (fun _ _ _ h => h) (Or.inl ⟨by rfl, ?_⟩) (by assumption) ?_
   rotate_left
   ·
    intro w hSw; (try dsimp only at hSw); go_simp; try with_reducible rfl
   simp only [Act.put, zA, zB, zC, zD, zE, zF]
   refine wpAnyH_take (i := 4) (v := ?_) rfl (by kernel_rfl) (by kernel_rfl) (by kernel_rfl) (fun _ _ _ h => h) (Or.inl ⟨by rfl, ?_⟩) (by assumption) ?_
   rotate_left
   ·
    intro w hSw; (try dsimp only at hSw); go_simp; try with_reducible rfl
   simp only [Act.put, zA, zB, zC, zD, zE, zF]
   refine wpAnyH_take (i := 5) (v := ?_) rfl (by kernel_rfl) (by kernel_rfl) (by kernel_rfl) (fun _ _ _ h => h) (Or.inl ⟨by rfl, ?_⟩) (by assumption) ?_
   rotate_left
   ·
    intro w hSw; (try dsimp only at hSw); go_simp; try with_reducible rfl
   simp only [Act.put, zA, zB, zC, zD, zE, zF]
   refine wpAnyH_take (i := 6) (v := ?_) rfl (by kernel_rfl) (by kernel_rfl) (by kernel_rfl) (fun _ _ _ h => h) (Or.inl ⟨by rfl, ?_⟩) (by assumption) ?_
   rotate_left
   ·
    intro w hSw; (try dsimp only at hSw); go_simp; try with_reducible rfl
   simp only [Act.put, zA, zB, zC, zD, zE, zF]
   refine wpAnyH_take (i := 7) (v := ?_) rfl (by kernel_rfl) (by kernel_rfl) (by kernel_rfl) (fun _ _ _ h => h) (Or.inl ⟨by rfl, ?_⟩) (by assumption) ?_
   rotate_left
   ·
    intro w hSw; (try dsimp only at hSw); go_simp; try with_reducible rfl
   simp only [Act.put, zA, zB, zC, zD, zE, zF]
   refine wpAnyH_take (i := 8) (v := ?_) rfl (by kernel_rfl) (by kernel_rfl) (by kernel_rfl) (fun _ _ _ h => h) (Or.inl ⟨by rfl, ?_⟩) (by assumption) ?_
   rotate_left
   ·
    intro w hSw; (try dsimp only at hSw); go_simp; try with_reducible rfl
   simp only [Act.put, zA, zB, zC, zD, zE, zF]
   obtain ⟨y_0, hu0⟩ : ∃ y_0, y_0 = w9.drew := ⟨_, rfl⟩
   have hb0 : Below w9.heap.size w9 y_0 := by rw [hu0]; exact Below.drew (Below.refl _ _)
   have HU0 : Hid (Below w.heap.size w y_0) := Hq (HB9.out.trans (hb0.mono HB9.out.size))
   have HG0 : Hid (Keep9 w w9 y_0) := Hq ((Keep9.refl w w9).low hb0)
   have HW0 : Hid (Two y_0 w.heap.size u8 gens u9 ws) := Hq (HTW9.out.low hb0)
   rw [← hu0] at hHeld ⊢
   clear hu0 hb0
   refine wpAnyH_ready (rs := [2, 9]) (by kernel_rfl) (by simp) ?_
   refine AllReadyH.cons rfl (fun K hK => ?_) (AllReadyH.cons rfl (fun K hK => ?_) AllReadyH.nil)
   ·
    skip
    go_simp
    try dsimp only
    obtain ⟨y_1, hu1⟩ : ∃ y_1, y_1 = y_0.alloc (.cells #[.int .i64 (Z.g : Int)] 3) := ⟨_, rfl⟩
    obtain ⟨b1, hb1⟩ : ∃ b1, b1 = y_0.heap.size := ⟨_, rfl⟩
    have hbl : Below y_0.heap.size y_0 y_1 := by rw [hu1]; exact sbox1 _ _
    have HU1 : Hid (Below w.heap.size w y_1) := Hq (HU0.out.trans (hbl.mono HU0.out.size))
    have HG1 : Hid (Keep9 w w9 y_1) := Hq (HG0.out.low hbl)
    have HW1 : Hid (Two y_1 w.heap.size u8 gens u9 ws) := Hq (HW0.out.low hbl)
    have HN1 : Hid (y_1.heap[b1]? = some (.cells #[.int .i64 (Z.g : Int)] 3 (0, 0))) := Hq (by rw [hu1, hb1]; exact heap_alloc_new _ _)
    rw [← hu1, ← hb1]
    clear hu1 hb1 hbl
    refine hK.out _ _ (HXC.out _ HU1.out) (fun hHeld => ?_)
    clear hK K
    try simp only [Act.put, zA, zB, zC, zD, zE, zF]
    refine wpAnyH_ready (rs := [3, 9]) (by kernel_rfl) (by simp) ?_
    refine AllReadyH.cons rfl (fun K hK => ?_) (AllReadyH.cons rfl (fun K hK => ?_) AllReadyH.nil)
    ·
     skip
     refine step_two rfl (.tmp 79) (.tmp 81) rfl rfl HW1.out rfl (lie_one HN1.out) (by have := HGL.out; simp only [List.length_cons, List.length_nil]; omega) HU1.out.size ?_
     intro v2 y_2 ho hg
     have HU2 : Hid (Below w.heap.size w y_2) := Hq (HU1.out.grown hg HU1.out.size fun k hk => (World.ownsRow.lt HW1.out.a k hk).1)
     have HG2 : Hid (Keep9 w w9 y_2) := Hq (HG1.out.row hg HW1.out.a)
     have HW2 := Hq ho
     clear ho hg
     refine hK.out _ _ (HXC.out _ HU2.out) (fun hHeld => ?_)
     clear hK K
     try simp only [Act.put, zA, zB, zC, zD, zE, zF]
     refine wpAnyH_ready (rs := [9]) (by kernel_rfl) (by simp) ?_
     refine AllReadyH.cons rfl (fun K hK => ?_) AllReadyH.nil
     ·
      skip
      go_simp
      try dsimp only
      obtain ⟨y_3, hu3⟩ : ∃ y_3, y_3 = y_2.alloc (.cells #[.int .i64 x] 3) := ⟨_, rfl⟩
      obtain ⟨b3, hb3⟩ : ∃ b3, b3 = y_2.heap.size := ⟨_, rfl⟩
      have hbl : Below y_2.heap.size y_2 y_3 := by rw [hu3]; exact sbox1 _ _
      have HU3 : Hid (Below w.heap.size w y_3) := Hq (HU2.out.trans (hbl.mono HU2.out.size))
      have HG3 : Hid (Keep9 w w9 y_3) := Hq (HG2.out.low hbl)
      have HW3 : Hid (Two y_3 w.heap.size v2 (gens ++ [(Z.g : Int)]) u9 ws) := Hq (HW2.out.low hbl)
      have HN3 : Hid (y_3.heap[b3]? = some (.cells #[.int .i64 x] 3 (0, 0))) := Hq (by rw [hu3, hb3]; exact heap_alloc_new _ _)
      rw [← hu3, ← hb3]
      clear hu3 hb3 hbl
      refine hK.out _ _ (HXC.out _ HU3.out) (fun hHeld => ?_)
      clear hK K
      try simp only [Act.put, zA, zB, zC, zD, zE, zF]
      refine wpAnyH_ready (rs := [10]) (by kernel_rfl) (by simp) ?_
      refine AllReadyH.cons rfl (fun K hK => ?_) AllReadyH.nil
      ·
       skip
       refine step_two rfl (.tmp 83) (.tmp 88) rfl rfl HW3.out.symm rfl (lie_one HN3.out) (by have := HWL.out; simp only [List.length_cons, List.length_nil]; omega) HU3.out.size ?_
       intro v4 y_4 ho hg
       have HU4 : Hid (Below w.heap.size w y_4) := Hq (HU3.out.grown hg HU3.out.size fun k hk => (World.ownsRow.lt HW3.out.b k hk).1)
       have HG4 : Hid (Keep9 w w9 y_4) := Hq (HG3.out.row hg HW3.out.b)
       have HW4 := Hq ho.symm
       clear ho hg
       refine hK.out _ _ (HXC.out _ HU4.out) (fun hHeld => ?_)
       clear hK K
       try simp only [Act.put, zA, zB, zC, zD, zE, zF]
       refine wpAnyH_take (i := 11) (v := ?_) rfl (by kernel_rfl) (by kernel_rfl) (by kernel_rfl) (fun _ _ _ h => h) (Or.inl ⟨by rfl, ?_⟩) (by assumption) ?_
       rotate_left
       ·
        intro w hSw; (try dsimp only at hSw); go_simp; try with_reducible rfl
       simp only [Act.put, zA, zB, zC, zD, zE, zF]
       refine wpAnyH_take (i := 12) (v := ?_) rfl (by kernel_rfl) (by kernel_rfl) (by kernel_rfl) (fun _ _ _ h => h) (Or.inl ⟨by rfl, ?_⟩) (by assumption) ?_
       rotate_left
       ·
        intro w hSw; (try dsimp only at hSw); go_simp; try with_reducible rfl
       simp only [Act.put, zA, zB, zC, zD, zE, zF]
       refine wpAnyH_done (by kernel_rfl) ?_ _
       clear hHeld
       go_wp2
       go_roundw
       case rel => exact ⟨j + 1, by go_num, by omega, by omega, HEND.out _ _ _ HU4.out HG4.out HW4.out⟩
       case measure => simp [intOf]; omega
    ·
     skip
     go_simp
     try dsimp only
     obtain ⟨y_5, hu5⟩ : ∃ y_5, y_5 = y_1.alloc (.cells #[.int .i64 x] 3) := ⟨_, rfl⟩
     obtain ⟨b5, hb5⟩ : ∃ b5, b5 = y_1.heap.size := ⟨_, rfl⟩
     have hbl : Below y_1.heap.size y_1 y_5 := by rw [hu5]; exact sbox1 _ _
     have HU5 : Hid (Below w.heap.size w y_5) := Hq (HU1.out.trans (hbl.mono HU1.out.size))
     have HG5 : Hid (Keep9 w w9 y_5) := Hq (HG1.out.low hbl)
     have HW5 : Hid (Two y_5 w.heap.size u8 gens u9 ws) := Hq (HW1.out.low hbl)
     have HN5 : Hid (y_5.heap[b5]? = some (.cells #[.int .i64 x] 3 (0, 0))) := Hq (by rw [hu5, hb5]; exact heap_alloc_new _ _)
     have HM5 : Hid (y_5.heap[b1]? = some (.cells #[.int .i64 (Z.g : Int)] 3 (0, 0))) := Hq (box_carry HN1.out hbl)
     have HNE5 : Hid (u8.ownBlock ≠ some b5) := Hq (fun e => by have := (World.ownsRow.lt HW1.out.a _ e).2; rw [hb5] at this; omega)
     rw [← hu5, ← hb5]
     clear hu5 hb5 hbl
     refine hK.out _ _ (HXC.out _ HU5.out) (fun hHeld => ?_)
     clear hK K
     try simp only [Act.put, zA, zB, zC, zD, zE, zF]
     refine wpAnyH_ready (rs := [3]) (by kernel_rfl) (by simp) ?_
     refine AllReadyH.cons rfl (fun K hK => ?_) AllReadyH.nil
     ·
      skip
      refine step_two rfl (.tmp 79) (.tmp 81) rfl rfl HW5.out rfl (lie_one HM5.out) (by have := HGL.out; simp only [List.length_cons, List.length_nil]; omega) HU5.out.size ?_
      intro v6 y_6 ho hg
      have HU6 : Hid (Below w.heap.size w y_6) := Hq (HU5.out.grown hg HU5.out.size fun k hk => (World.ownsRow.lt HW5.out.a k hk).1)
      have HG6 : Hid (Keep9 w w9 y_6) := Hq (HG5.out.row hg HW5.out.a)
      have HW6 := Hq ho
      have HN6 : Hid (y_6.heap[b5]? = some (.cells #[.int .i64 x] 3 (0, 0))) := Hq (box_row hg HN5.out HNE5.out)
      clear ho hg
      refine hK.out _ _ (HXC.out _ HU6.out) (fun hHeld => ?_)
      clear hK K
      try simp only [Act.put, zA, zB, zC, zD, zE, zF]
      refine wpAnyH_ready (rs := [10]) (by kernel_rfl) (by simp) ?_
      refine AllReadyH.cons rfl (fun K hK => ?_) AllReadyH.nil
      ·
       skip
       refine step_two rfl (.tmp 83) (.tmp 88) rfl rfl HW6.out.symm rfl (lie_one HN6.out) (by have := HWL.out; simp only [List.length_cons, List.length_nil]; omega) HU6.out.size ?_
       intro v7 y_7 ho hg
       have HU7 : Hid (Below w.heap.size w y_7) := Hq (HU6.out.grown hg HU6.out.size fun k hk => (World.ownsRow.lt HW6.out.b k hk).1)
       have HG7 : Hid (Keep9 w w9 y_7) := Hq (HG6.out.row hg HW6.out.b)
       have HW7 := Hq ho.symm
       clear ho hg
       refine hK.out _ _ (HXC.out _ HU7.out) (fun hHeld => ?_)
       clear hK K
       try simp only [Act.put, zA, zB, zC, zD, zE, zF]
       refine wpAnyH_take (i := 11) (v := ?_) rfl (by kernel_rfl) (by kernel_rfl) (by kernel_rfl) (fun _ _ _ h => h) (Or.inl ⟨by rfl, ?_⟩) (by assumption) ?_
       rotate_left
       ·
        intro w hSw; (try dsimp only at hSw); go_simp; try with_reducible rfl
       simp only [Act.put, zA, zB, zC, zD, zE, zF]
       refine wpAnyH_take (i := 12) (v := ?_) rfl (by kernel_rfl) (by kernel_rfl) (by kernel_rfl) (fun _ _ _ h => h) (Or.inl ⟨by rfl, ?_⟩) (by assumption) ?_
       rotate_left
       ·
        intro w hSw; (try dsimp only at hSw); go_simp; try with_reducible rfl
       simp only [Act.put, zA, zB, zC, zD, zE, zF]
       refine wpAnyH_done (by kernel_rfl) ?_ _
       clear hHeld
       go_wp2
       go_roundw
       case rel => exact ⟨j + 1, by go_num, by omega, by omega, HEND.out _ _ _ HU7.out HG7.out HW7.out⟩
       case measure => simp [intOf]; omega
   ·
    skip
    go_simp
    try dsimp only
    obtain ⟨y_8, hu8⟩ : ∃ y_8, y_8 = y_0.alloc (.cells #[.int .i64 x] 3) := ⟨_, rfl⟩
    obtain ⟨b8, hb8⟩ : ∃ b8, b8 = y_0.heap.size := ⟨_, rfl⟩
    have hbl : Below y_0.heap.size y_0 y_8 := by rw [hu8]; exact sbox1 _ _
    have HU8 : Hid (Below w.heap.size w y_8) := Hq (HU0.out.trans (hbl.mono HU0.out.size))
    have HG8 : Hid (Keep9 w w9 y_8) := Hq (HG0.out.low hbl)
    have HW8 : Hid (Two y_8 w.heap.size u8 gens u9 ws) := Hq (HW0.out.low hbl)
    have HN8 : Hid (y_8.heap[b8]? = some (.cells #[.int .i64 x] 3 (0, 0))) := Hq (by rw [hu8, hb8]; exact heap_alloc_new _ _)
    have HNE8 : Hid (u8.ownBlock ≠ some b8) := Hq (fun e => by have := (World.ownsRow.lt HW0.out.a _ e).2; rw [hb8] at this; omega)
    rw [← hu8, ← hb8]
    clear hu8 hb8 hbl
    refine hK.out _ _ (HXC.out _ HU8.out) (fun hHeld => ?_)
    clear hK K
    try simp only [Act.put, zA, zB, zC, zD, zE, zF]
    refine wpAnyH_ready (rs := [2]) (by kernel_rfl) (by simp) ?_
    refine AllReadyH.cons rfl (fun K hK => ?_) AllReadyH.nil
    ·
     skip
     go_simp
     try dsimp only
     obtain ⟨y_9, hu9⟩ : ∃ y_9, y_9 = y_8.alloc (.cells #[.int .i64 (Z.g : Int)] 3) := ⟨_, rfl⟩
     obtain ⟨b9, hb9⟩ : ∃ b9, b9 = y_8.heap.size := ⟨_, rfl⟩
     have hbl : Below y_8.heap.size y_8 y_9 := by rw [hu9]; exact sbox1 _ _
     have HU9 : Hid (Below w.heap.size w y_9) := Hq (HU8.out.trans (hbl.mono HU8.out.size))
     have HG9 : Hid (Keep9 w w9 y_9) := Hq (HG8.out.low hbl)
     have HW9 : Hid (Two y_9 w.heap.size u8 gens u9 ws) := Hq (HW8.out.low hbl)
     have HN9 : Hid (y_9.heap[b9]? = some (.cells #[.int .i64 (Z.g : Int)] 3 (0, 0))) := Hq (by rw [hu9, hb9]; exact heap_alloc_new _ _)
     have HM9 : Hid (y_9.heap[b8]? = some (.cells #[.int .i64 x] 3 (0, 0))) := Hq (box_carry HN8.out hbl)
     rw [← hu9, ← hb9]
     clear hu9 hb9 hbl
     refine hK.out _ _ (HXC.out _ HU9.out) (fun hHeld => ?_)
     clear hK K
     try simp only [Act.put, zA, zB, zC, zD, zE, zF]
     refine wpAnyH_ready (rs := [3]) (by kernel_rfl) (by simp) ?_
     refine AllReadyH.cons rfl (fun K hK => ?_) AllReadyH.nil
     ·
      skip
      refine step_two rfl (.tmp 79) (.tmp 81) rfl rfl HW9.out rfl (lie_one HN9.out) (by have := HGL.out; simp only [List.length_cons, List.length_nil]; omega) HU9.out.size ?_
      intro v10 y_10 ho hg
      have HU10 : Hid (Below w.heap.size w y_10) := Hq (HU9.out.grown hg HU9.out.size fun k hk => (World.ownsRow.lt HW9.out.a k hk).1)
      have HG10 : Hid (Keep9 w w9 y_10) := Hq (HG9.out.row hg HW9.out.a)
      have HW10 := Hq ho
      have HN10 : Hid (y_10.heap[b8]? = some (.cells #[.int .i64 x] 3 (0, 0))) := Hq (box_row hg HM9.out HNE8.out)
      clear ho hg
      refine hK.out _ _ (HXC.out _ HU10.out) (fun hHeld => ?_)
      clear hK K
      try simp only [Act.put, zA, zB, zC, zD, zE, zF]
      refine wpAnyH_ready (rs := [10]) (by kernel_rfl) (by simp) ?_
      refine AllReadyH.cons rfl (fun K hK => ?_) AllReadyH.nil
      ·
       skip
       refine step_two rfl (.tmp 83) (.tmp 88) rfl rfl HW10.out.symm rfl (lie_one HN10.out) (by have := HWL.out; simp only [List.length_cons, List.length_nil]; omega) HU10.out.size ?_
       intro v11 y_11 ho hg
       have HU11 : Hid (Below w.heap.size w y_11) := Hq (HU10.out.grown hg HU10.out.size fun k hk => (World.ownsRow.lt HW10.out.b k hk).1)
       have HG11 : Hid (Keep9 w w9 y_11) := Hq (HG10.out.row hg HW10.out.b)
       have HW11 := Hq ho.symm
       clear ho hg
       refine hK.out _ _ (HXC.out _ HU11.out) (fun hHeld => ?_)
       clear hK K
       try simp only [Act.put, zA, zB, zC, zD, zE, zF]
       refine wpAnyH_take (i := 11) (v := ?_) rfl (by kernel_rfl) (by kernel_rfl) (by kernel_rfl) (fun _ _ _ h => h) (Or.inl ⟨by rfl, ?_⟩) (by assumption) ?_
       rotate_left
       ·
        intro w hSw; (try dsimp only at hSw); go_simp; try with_reducible rfl
       simp only [Act.put, zA, zB, zC, zD, zE, zF]
       refine wpAnyH_take (i := 12) (v := ?_) rfl (by kernel_rfl) (by kernel_rfl) (by kernel_rfl) (fun _ _ _ h => h) (Or.inl ⟨by rfl, ?_⟩) (by assumption) ?_
       rotate_left
       ·
        intro w hSw; (try dsimp only at hSw); go_simp; try with_reducible rfl
       simp only [Act.put, zA, zB, zC, zD, zE, zF]
       refine wpAnyH_done (by kernel_rfl) ?_ _
       clear hHeld
       go_wp2
       go_roundw
       case rel => exact ⟨j + 1, by go_num, by omega, by omega, HEND.out _ _ _ HU11.out HG11.out HW11.out⟩
       case measure => simp [intOf]; omega
   -- END 16
  ·
   have HQ : Hid (QnH w wr p s P pm j u8 u9) := Hq (by
    obtain ⟨X, f, gens, ws, now, pins, W, hM, hX, hV, hgl⟩ := hH
    exact ⟨X, f, gens, ws, now, pins, hM, hX.q hj1 hgl, hV, hgl⟩)
   clear hH
   rcases Nat.lt_or_ge j m0 with hl0 | hl0
   ·
    have i1 : (j : Int) < (m0 : Int) := by omega
    have i2 : ¬ (j : Int) < 20 := by omega
    -- TAIL A
    go_wp2_with fail
    go_loopw [8, 9, 13] (fun v u i wr => ∃ n ii : Nat, i = .int .i64 ii ∧ ii + n ≤ 20 ∧ QnH w wr p s P pm n v u) (fun v _ _ _ => lenV v)
    case atStart => exact ⟨j, 0, rfl, by omega, HQ.out⟩
    case round =>
     obtain ⟨n, ii, rfl, hin, X, f, gens, ws, now, pins, hM, hX, hV, hgl⟩ := hrel
     clear HQ
     have hwl : ws.length = n := by have := hV.lb; rw [List.length_map] at this; omega
     obtain ⟨gq, gc, hge, hgk⟩ := hM.two.a.form
     obtain ⟨wq, wc, hwe, hwk⟩ := hM.two.b.form
     subst hge
     subst hwe
     rw [hgl, hwl]
     have HM := Hq hM
     have HX := Hq hX
     have HV := Hq hV
     have HGL := Hq hgl
     have HWL := Hq hwl
     have HGK := Hq hgk
     have HWK := Hq hwk
     have HIN := Hq hin
     clear hM hX hV hgl hwl hgk hwk hin
     by_cases hn : n = 0
     ·
      subst hn
      have hg0 : gens = [] := List.eq_nil_of_length_eq_zero HGL.out
      subst hg0
      obtain ⟨f1, f2, f3⟩ := HX.out.fin
      obtain ⟨U, hU⟩ : ∃ U, U = X.F.nUsed := ⟨_, rfl⟩
      obtain ⟨F0, hF0⟩ : ∃ F0, F0 = X.F.nFree := ⟨_, rfl⟩
      have HWT := Hq (txWaiting_yes HM.out.t HM.out.g)
      have HUS := Hq (txUsed_yes HM.out.t HM.out.g)
      have HRL := Hq (txRelease_none HM.out.t HM.out.m (HV.out.fn 1 (by simp)))
      rw [f1] at HWT
      rw [← hU] at HUS f2 f3
      rw [← hF0] at f3
      have f2 : (U : Int) ≤ 1 := by omega
      replace hU := Hq hU
      replace hF0 := Hq hF0
      have e1 : wrap64 (F0 + (U : Int)) = 298 := by rw [IntWalk.wrap64_in _ (by omega)]; exact f3
      go_wp2_with fail
      refine HWT.out.mono ?_; rintro e w5 ⟨rfl, rfl⟩
      go_wp2_with fail
      refine HUS.out.mono ?_; rintro e w5 ⟨rfl, rfl⟩
      go_wp2_with fail
      refine HRL.out.mono ?_; rintro e w5 ⟨rfl, hb5⟩
      have HFR := Hq (txFree_yes (HM.out.t.low hb5) (HM.out.g.below hb5))
      rw [← hF0.out] at HFR
      have HB5 := Hq (HM.out.bl.trans (hb5.mono HM.out.bl.size))
      have HT5 := Hq (HM.out.t.low hb5)
      have HG5 := Hq (HM.out.g.below hb5)
      clear hb5 HWT HUS HRL
      go_wp2_with fail
      refine HFR.out.mono ?_; rintro e w6 ⟨rfl, hb6⟩
      have HUS := Hq (txUsed_yes (HT5.out.low hb6) (HG5.out.below hb6))
      rw [← hU.out] at HUS
      have HB6 := Hq (HB5.out.trans (hb6.mono HB5.out.size))
      clear hb6 HFR
      go_wp2_with fail
      refine HUS.out.mono ?_; rintro e w7 ⟨rfl, rfl⟩
      go_wp2
      go_ret
      exact ⟨rfl, HB6.out⟩
     ·
      have hgl2 := HGL.out
      have hwl2 := HWL.out
      obtain ⟨gb, go, rfl, hgc⟩ := HGK.out (by intro e; rw [e] at hgl2; exact hn hgl2.symm)
      obtain ⟨wb, wo, rfl, hwc⟩ := HWK.out (by intro e; rw [e] at hwl2; exact hn hwl2.symm)
      obtain rfl := row_zero HM.out.two.a
      obtain rfl := row_zero HM.out.two.b
      simp only [Nat.zero_add] at hgc hwc
      have HGC : Hid (∀ u, Below wr.heap.size wr u → ∀ (k : Nat) y, gens[k]? = some y → u.cell? ⟨gb, k, none⟩ = some (.int .i64 y)) := Hq fun u hb k y hk => (hb.cell (World.block_lt_of_cell? _ _ (hgc k y hk))).trans (hgc k y hk)
      have HWC : Hid (∀ u, Below wr.heap.size wr u → ∀ (k : Nat) y, ws[k]? = some y → u.cell? ⟨wb, k, none⟩ = some (.int .i64 y)) := Hq fun u hb k y hk => (hb.cell (World.block_lt_of_cell? _ _ (hwc k y hk))).trans (hwc k y hk)
      have i0 : (0 : Int) < (n : Int) := by omega
      have n0 : 0 < n := by omega
      clear hgc hwc hgl2 hwl2
      go_wp2_with fail
      go_loopw [14] (fun k w' => ∃ kx : Nat, k = .int .i64 kx ∧ kx ≤ n ∧ Below wr.heap.size wr w') (fun k _ => n - (intOf k).toNat)
      case atStart => exact ⟨0, rfl, by omega, Below.refl _ _⟩
      case round =>
       obtain ⟨kx, rfl, hkn, hb⟩ := hrel
       by_cases hk : kx < n
       ·
        have h0k : (0 : Int) ≤ (kx : Int) := by omega
        have hkn2 : (kx : Int) < (n : Int) := by omega
        obtain ⟨y, hy⟩ : ∃ y, gens[kx]? = some y := ⟨_, List.getElem?_eq_getElem (by have := HGL.out; omega)⟩
        obtain ⟨z, hz⟩ : ∃ z, ws[kx]? = some z := ⟨_, List.getElem?_eq_getElem (by have := HWL.out; omega)⟩
        have g0 := HGC.out _ hb kx y hy
        have hcv := fun (w : World) => Lib.run_convert_bytes_const (P := Tryz.prog) w 33 5 #[.int .u8 107] 1 1 Tryz.underlying33 Tryz.underlying5
        obtain ⟨lx, bx, hpx, hbx, hfx⟩ := HV.out.at_ kx y hy
        have hbz : bx = byI z := by
         rw [List.getElem?_map, hz] at hbx
         exact (Option.some.inj hbx).symm
        have h3y := HV.out.lo y (List.mem_of_getElem? hy)
        obtain ⟨W1, hW1⟩ : ∃ W1, W1 = wr.alloc (.cells #[.int .u8 107] 5 (1, 2)) := ⟨_, rfl⟩
        have hbw : Below wr.heap.size wr W1 := by rw [hW1]; exact sbox1 _ _
        have hb1 := hb.trans (hbw.mono hb.size)
        have HB1 := Hq hb1
        have HGT := Hq (txGet_pin (HM.out.t.low hb1) (HM.out.m.low hb1) (nm := ⟨#[97]⟩) (key := ⟨some ⟨wr.heap.size, 0, none⟩, 1, [107]⟩) ⟨by show 1 ≤ _; omega, kb_one (u := 107) (by rw [hW1]; exact heap_alloc_new wr _), (by show wrongF [97] [[107]] = 0; decide)⟩ (by omega) hfx (out := [bx])
         (fun w1 kb hbb hkb hkl => HX.out.get_ok hpx (HT.out.below HT.out.lt ((HM.out.bl.trans (hb1.mono HM.out.bl.size)).trans (hbb.mono (HM.out.bl.trans (hb1.mono HM.out.bl.size)).size))) ((HM.out.g.below hb1).below hbb) HT.out.lt hkb hkl))
        have HZ := Hq hz
        have HBZ := Hq hbz
        clear hpx hbx hfx h3y hbw hb1 hb hz hbz
        go_wp2_with fail
        rw [← hW1]
        replace hW1 := Hq hW1
        refine HGT.out.mono ?_; rintro e w6 ⟨⟨yq, yc, yl⟩, rfl, hyl, hyo, hb6⟩
        have hyl : yl = [bx] := hyl
        subst hyl
        obtain ⟨bb, bo, hq, hcl⟩ := hyo.bs (by simp)
        have hq : yq = some ⟨bb, bo, none⟩ := hq
        subst hq
        have HB6 := Hq (HB1.out.trans (hb6.mono HB1.out.size))
        obtain ⟨t, ht⟩ : ∃ t : Int, t = z % 256 := ⟨_, rfl⟩
        have c6 : w6.cell? ⟨bb, bo, none⟩ = some (.int .u8 t) := by
         have := hcl 0 bx rfl
         rw [HBZ.out, byI_int, ← ht] at this
         exact this
        have d6 := HWC.out _ HB6.out kx z HZ.out
        clear hyo hb6 hcl HGT g0 hcv
        have e2 : wrap64 ((kx : Int) + 1) = (kx : Int) + 1 := by have := HIN.out; exact IntWalk.wrap64_in _ (by omega)
        have hzz : (t != IntKind.u8.wrap z) = false := by rw [IntKind.wrap_u8, ht]; simp
        replace ht := Hq ht
        have HCX : Hid (w6.cell? ⟨bb, bo, none⟩ = some (.int .u8 t) ∧ w6.cell? ⟨wb, kx, none⟩ = some (.int .i64 z)) := Hq ⟨c6, d6⟩
        have HCD : Hid (w6.drew.cell? ⟨bb, bo, none⟩ = some (.int .u8 t) ∧ w6.drew.cell? ⟨wb, kx, none⟩ = some (.int .i64 z)) := Hq ⟨c6, d6⟩
        go_wp2_with fail
        go_region_held3 (fun w' => w'.cell? ⟨bb, bo, none⟩ = some (.int .u8 t) ∧ w'.cell? ⟨wb, kx, none⟩ = some (.int .i64 z))
         (with_reducible first | exact HCX.out | exact HCD.out)
         (fail)
        clear HCX HCD c6 d6
        go_wp2
        go_roundw
        case rel => exact ⟨kx + 1, by go_num, by omega, HB6.out.drew⟩
        case measure => rw [e2]; exact meas_less hk
       ·
        have h0k : (0 : Int) ≤ (kx : Int) := by omega
        have hkn2 : ¬ (kx : Int) < (n : Int) := by omega
        have HB := Hq hb
        clear hb
        by_cases hii : ii < m1
        ·
         obtain ⟨r, hr⟩ : ∃ r, l1[ii]? = some r := ⟨_, List.getElem?_eq_getElem (by have := HL1.out.hn; omega)⟩
         obtain ⟨rb, ro, rfl, hrc⟩ := HL1.out.hl (by intro e; rw [e] at hr; simp at hr)
         have hbw := HM.out.bl.trans (HB.out.mono HM.out.bl.size)
         have r0 : wr.cell? ⟨rb, ro + ii, none⟩ = some (.int .i64 r) := (hbw.cell (World.block_lt_of_cell? _ _ (hrc ii r hr))).trans (hrc ii r hr)
         obtain ⟨a, kk, ha, ha2, ha3, hkk⟩ := mod_two r (show 0 < n by omega) (by have := HIN.out; omega)
         have j0 : (0 : Int) ≤ (ii : Int) := by omega
         have j1 : (ii : Int) < (m1 : Int) := by omega
         have hnz : ((n : Int) == 0) = false := by rw [beq_eq_false_iff_ne]; omega
         have hnz2 : (n : Int) ≠ 0 := by omega
         clear hrc hr hbw
         obtain ⟨y, hy⟩ : ∃ y, gens[kk]? = some y := ⟨_, List.getElem?_eq_getElem (by have := HGL.out; omega)⟩
         obtain ⟨z, hz⟩ : ∃ z, ws[kk]? = some z := ⟨_, List.getElem?_eq_getElem (by have := HWL.out; omega)⟩
         have g0 := HGC.out _ HB.out kk y hy
         have k0 : (0 : Int) ≤ (kk : Int) := by omega
         have k1 : (kk : Int) < (n : Int) := by omega
         obtain ⟨Y, hY, hun⟩ := HX.out.unpin hy
         obtain ⟨lx, bx, hpx, hbx, hfx⟩ := HV.out.at_ kk y hy
         have HRL := Hq (txRelease_one (HM.out.t.low HB.out) (HM.out.m.low HB.out) (HM.out.g.below HB.out) HM.out.hp hfx (fun w1 _ hg1 => hun w1 _ P p hg1))
         have HY := Hq hY
         have HYG := Hq hy
         have HZW := Hq hz
         clear hY hun hpx hbx hfx hy hz
         go_wp2_with fail
         refine HRL.out.mono ?_; rintro e w7 ⟨rfl, ht7, hm7, hg7, hb7, hk7⟩
         have HT7 := Hq ht7
         have HM7 := Hq hm7
         have HG7 := Hq hg7
         have HB7 := Hq ((HM.out.bl.trans (HB.out.mono HM.out.bl.size)).trans hb7)
         have HTW7 := Hq ((HM.out.two.low HB.out).keepsQ hk7 (HM.out.m.low HB.out).tp)
         clear ht7 hm7 hg7 hb7 hk7 HRL g0 r0
         have htw := HTW7.out
         rw [HGL.out, HWL.out] at htw
         have hca := own_block HM.out.two.a
         have hcb := own_block HM.out.two.b
         rw [HGL.out] at hca
         rw [HWL.out] at hcb
         obtain ⟨A1, hA1, hl1⟩ := lie_tail htw.a HGL.out.symm (k := kk) (by omega)
         obtain ⟨A2, hA2, hl2⟩ := lie_tail htw.b HWL.out.symm (k := kk) (by omega)
         have HS1 := Hq (lie_head htw.a HGL.out.symm (k := kk) (by omega))
         have HS2 := Hq hl1
         have HS3 := Hq (lie_head htw.b HWL.out.symm (k := kk) (by omega))
         have HS4 := Hq hl2
         have b0 : (0 : Int) ≤ (kk : Int) + 1 := by omega
         have b1 : (kk : Int) + 1 ≤ (n : Int) := by omega
         have b2 : (kk : Int) + 1 ≤ (gc : Int) := by omega
         have b4 : (kk : Int) + 1 ≤ (wc : Int) := by omega
         have b5 : (kk : Int) ≤ (n : Int) := by omega
         have b6 : (kk : Int) ≤ (gc : Int) := by omega
         have b8 : (kk : Int) ≤ (wc : Int) := by omega
         have n1' : kk ≤ n := by omega
         have n2' : kk ≤ gc := by omega
         have n4' : kk ≤ wc := by omega
         have n5' : kk + 1 ≤ n := by omega
         have n6' : kk + 1 ≤ gc := by omega
         have n8' : kk + 1 ≤ wc := by omega
         have hw1 : IntKind.i64.wrap ((kk : Int) + 1) = (kk : Int) + 1 := by have := HIN.out; rw [IntKind.wrap_i64]; omega
         have hw2 : wrap64 ((kk : Int) + 1) = (kk : Int) + 1 := by have := HIN.out; exact IntWalk.wrap64_in _ (by omega)
         have HEND : Hid (∀ (v' u' : Value) (u : World), Below w7.heap.size w7 u → Two u w7.heap.size v' (([] ++ (gens.take kk)) ++ (gens.drop (kk + 1))) u' (([] ++ (ws.take kk)) ++ (ws.drop (kk + 1))) → QnH w u p s P pm (n - 1) v' u') := Hq fun v' u' u hb ht => by
          rw [List.nil_append, List.nil_append, ← List.eraseIdx_eq_take_drop_succ, ← List.eraseIdx_eq_take_drop_succ] at ht
          have hv := HV.out.gone HYG.out
          have hmp : (ws.map byI).eraseIdx kk = (ws.eraseIdx kk).map byI := by simp only [List.eraseIdx_eq_take_drop_succ, List.map_append, List.map_take, List.map_drop]
          rw [hmp] at hv
          exact ⟨Y, _, _, _, _, _, ⟨HG7.out.below hb, HT7.out.low hb, HM7.out.low hb, HB7.out.trans (hb.mono HB7.out.size), HM.out.hs, HM.out.hp, ht.mono HB7.out.size⟩, HY.out, hv, by rw [List.length_eraseIdx, if_pos (by rw [HGL.out]; exact hkk), HGL.out]⟩
         have HMS : Hid (∀ (v' u' : Value) (u : World), Two u w7.heap.size v' (([] ++ (gens.take kk)) ++ (gens.drop (kk + 1))) u' (([] ++ (ws.take kk)) ++ (ws.drop (kk + 1))) → lenV v' < n) := Hq fun v' u' u ht => by
          rw [ht.len]
          exact two_less gens HGL.out hkk
         have HQ4 : Hid (([] : List Int).length + (gens.take kk).length ≤ 1000000000) := Hq (two_few gens HGL.out (by have := HIN.out; omega)).1
         have HQ9 : Hid (([] ++ (gens.take kk)).length + (gens.drop (kk + 1)).length ≤ 1000000000) := Hq (two_few gens HGL.out (by have := HIN.out; omega)).2
         have HQ14 : Hid (([] : List Int).length + (ws.take kk).length ≤ 1000000000) := Hq (two_few ws HWL.out (by have := HIN.out; omega)).1
         have HQ19 : Hid (([] ++ (ws.take kk)).length + (ws.drop (kk + 1)).length ≤ 1000000000) := Hq (two_few ws HWL.out (by have := HIN.out; omega)).2
         clear htw hca hcb hl1 hl2
         go_wp2_with fail
         refine wp_region_held_drew (S := fun w' => w7.heap.size ≤ w'.heap.size) (by kernel_rfl) (Nat.le_refl _) (fun hHeld => ?_)
         refine wpAnyH_take (i := 1) (v := ?_) rfl (by kernel_rfl) (by kernel_rfl) (by kernel_rfl) (fun _ _ _ h => h) (Or.inl ⟨by rfl, ?_⟩) (by assumption) ?_
         rotate_left
         ·
          intro w hSw; (try dsimp only at hSw); go_simp; try with_reducible rfl
         simp only [Act.put, zA, zB, zC, zD, zE, zF]
         refine wpAnyH_take (i := 2) (v := ?_) rfl (by kernel_rfl) (by kernel_rfl) (by kernel_rfl) (fun _ _ _ h => h) (Or.inl ⟨by rfl, ?_⟩) (by assumption) ?_
         rotate_left
         ·
          intro w hSw; (try dsimp only at hSw); go_simp; try with_reducible rfl
         simp only [Act.put, zA, zB, zC, zD, zE, zF]
         refine wpAnyH_take (i := 3) (v := ?_) rfl (by kernel_rfl) (by kernel_rfl) (by kernel_rfl) (fun _ _ _ h => h) (Or.inl ⟨by rfl, ?_⟩) (by assumption) ?_
         rotate_left
         ·
          intro w hSw; (try dsimp only at hSw); go_simp; try with_reducible rfl
         simp only [Act.put, zA, zB, zC, zD, zE, zF]
         refine wpAnyH_take (i := 5) (v := ?_) rfl (by kernel_rfl) (by kernel_rfl) (by kernel_rfl) (fun _ _ _ h => h) (Or.inl ⟨by rfl, ?_⟩) (by assumption) ?_
         rotate_left
         ·
          intro w hSw; (try dsimp only at hSw); go_simp; try with_reducible rfl
         simp only [Act.put, zA, zB, zC, zD, zE, zF]
         refine wpAnyH_take (i := 6) (v := ?_) rfl (by kernel_rfl) (by kernel_rfl) (by kernel_rfl) (fun _ _ _ h => h) (Or.inl ⟨by rfl, ?_⟩) (by assumption) ?_
         rotate_left
         ·
          intro w hSw; (try dsimp only at hSw); go_simp; try with_reducible rfl
         simp only [Act.put, zA, zB, zC, zD, zE, zF]
         refine wpAnyH_take (i := 7) (v := ?_) rfl (by kernel_rfl) (by kernel_rfl) (by kernel_rfl) (fun _ _ _ h => h) (Or.inl ⟨by rfl, ?_⟩) (by assumption) ?_
         rotate_left
         ·
          intro w hSw; (try dsimp only at hSw); go_simp; try with_reducible rfl
         simp only [Act.put, zA, zB, zC, zD, zE, zF]
         refine wpAnyH_take (i := 8) (v := ?_) rfl (by kernel_rfl) (by kernel_rfl) (by kernel_rfl) (fun _ _ _ h => h) (Or.inl ⟨by rfl, ?_⟩) (by assumption) ?_
         rotate_left
         ·
          intro w hSw; (try dsimp only at hSw); go_simp; try with_reducible rfl
         simp only [Act.put, zA, zB, zC, zD, zE, zF]
         refine wpAnyH_take (i := 11) (v := ?_) rfl (by kernel_rfl) (by kernel_rfl) (by kernel_rfl) (fun _ _ _ h => h) (Or.inl ⟨by rfl, ?_⟩) (by assumption) ?_
         rotate_left
         ·
          intro w hSw; (try dsimp only at hSw); go_simp; try with_reducible rfl
         simp only [Act.put, zA, zB, zC, zD, zE, zF]
         refine wpAnyH_take (i := 12) (v := ?_) rfl (by kernel_rfl) (by kernel_rfl) (by kernel_rfl) (fun _ _ _ h => h) (Or.inl ⟨by rfl, ?_⟩) (by assumption) ?_
         rotate_left
         ·
          intro w hSw; (try dsimp only at hSw); go_simp; try with_reducible rfl
         simp only [Act.put, zA, zB, zC, zD, zE, zF]
         refine wpAnyH_take (i := 13) (v := ?_) rfl (by kernel_rfl) (by kernel_rfl) (by kernel_rfl) (fun _ _ _ h => h) (Or.inl ⟨by rfl, ?_⟩) (by assumption) ?_
         rotate_left
         ·
          intro w hSw; (try dsimp only at hSw); go_simp; try with_reducible rfl
         simp only [Act.put, zA, zB, zC, zD, zE, zF]
         refine wpAnyH_take (i := 15) (v := ?_) rfl (by kernel_rfl) (by kernel_rfl) (by kernel_rfl) (fun _ _ _ h => h) (Or.inl ⟨by rfl, ?_⟩) (by assumption) ?_
         rotate_left
         ·
          intro w hSw; (try dsimp only at hSw); go_simp; try with_reducible rfl
         simp only [Act.put, zA, zB, zC, zD, zE, zF]
         refine wpAnyH_take (i := 16) (v := ?_) rfl (by kernel_rfl) (by kernel_rfl) (by kernel_rfl) (fun _ _ _ h => h) (Or.inl ⟨by rfl, ?_⟩) (by assumption) ?_
         rotate_left
         ·
          intro w hSw; (try dsimp only at hSw); go_simp; try with_reducible rfl
         simp only [Act.put, zA, zB, zC, zD, zE, zF]
         refine wpAnyH_take (i := 17) (v := ?_) rfl (by kernel_rfl) (by kernel_rfl) (by kernel_rfl) (fun _ _ _ h => h) (Or.inl ⟨by rfl, ?_⟩) (by assumption) ?_
         rotate_left
         ·
          intro w hSw; (try dsimp only at hSw); go_simp; try with_reducible rfl
         simp only [Act.put, zA, zB, zC, zD, zE, zF]
         refine wpAnyH_take (i := 18) (v := ?_) rfl (by kernel_rfl) (by kernel_rfl) (by kernel_rfl) (fun _ _ _ h => h) (Or.inl ⟨by rfl, ?_⟩) (by assumption) ?_
         rotate_left
         ·
          intro w hSw; (try dsimp only at hSw); go_simp; try with_reducible rfl
         simp only [Act.put, zA, zB, zC, zD, zE, zF]
         obtain ⟨y_0, hu0⟩ : ∃ y_0, y_0 = w7.drew := ⟨_, rfl⟩
         have HB0 : Hid (Below w7.heap.size w7 y_0) := Hq (by rw [hu0]; exact Below.drew (Below.refl _ _))
         have HW0 : Hid (Two y_0 w7.heap.size (.slice none 0 0) [] (.slice none 0 0) []) := Hq Two.nil
         rw [← hu0] at hHeld ⊢
         clear hu0
         refine wpAnyH_ready (rs := [0, 10]) (by kernel_rfl) (by simp) ?_
         refine AllReadyH.cons rfl (fun K hK => ?_) (AllReadyH.cons rfl (fun K hK => ?_) AllReadyH.nil)
         ·
          skip
          go_simp
          try dsimp only
          obtain ⟨y_22, hu22⟩ : ∃ y_22, y_22 = y_0.alloc (.cells #[] 3) := ⟨_, rfl⟩
          obtain ⟨b22, hb22⟩ : ∃ b22, b22 = y_0.heap.size := ⟨_, rfl⟩
          have HB22 : Hid (Below w7.heap.size w7 y_22) := Hq (by rw [hu22]; exact HB0.out.alloc HB0.out.size _)
          have HW22 : Hid (Two y_22 w7.heap.size (.slice (some ⟨b22, 0, none⟩) 0 0) [] (.slice none 0 0) []) := Hq (by rw [hu22, hb22]; exact HW0.out.make HB0.out.size)
          rw [← hu22, ← hb22]
          clear hu22 hb22
          refine hK.out _ _ HB22.out.size (fun hHeld => ?_)
          clear hK K
          try simp only [Act.put, zA, zB, zC, zD, zE, zF]
          refine wpAnyH_ready (rs := [4, 10]) (by kernel_rfl) (by simp) ?_
          refine AllReadyH.cons rfl (fun K hK => ?_) (AllReadyH.cons rfl (fun K hK => ?_) AllReadyH.nil)
          ·
           skip
           refine step_two rfl (.tmp 159) (.tmp 162) rfl rfl (HW22.out) rfl ⟨_, HS1.out.stay (Stay.below HB22.out)⟩ HQ4.out HB22.out.size ?_
           intro v23 y_23 ho hg
           have HB23 : Hid (Below w7.heap.size w7 y_23) := Hq (HB22.out.grown hg HB22.out.size fun k hk => (World.ownsRow.lt (HW22.out).a k hk).1)
           have HW23 := Hq ho
           clear ho hg
           refine hK.out _ _ HB23.out.size (fun hHeld => ?_)
           clear hK K
           try simp only [Act.put, zA, zB, zC, zD, zE, zF]
           refine wpAnyH_ready (rs := [9, 10]) (by kernel_rfl) (by simp) ?_
           refine AllReadyH.cons rfl (fun K hK => ?_) (AllReadyH.cons rfl (fun K hK => ?_) AllReadyH.nil)
           ·
            skip
            refine step_two rfl (.tmp 163) (.tmp 167) rfl rfl (HW23.out) rfl ⟨_, HS2.out.stay (Stay.below HB23.out)⟩ HQ9.out HB23.out.size ?_
            intro v24 y_24 ho hg
            have HB24 : Hid (Below w7.heap.size w7 y_24) := Hq (HB23.out.grown hg HB23.out.size fun k hk => (World.ownsRow.lt (HW23.out).a k hk).1)
            have HW24 := Hq ho
            clear ho hg
            refine hK.out _ _ HB24.out.size (fun hHeld => ?_)
            clear hK K
            try simp only [Act.put, zA, zB, zC, zD, zE, zF]
            refine wpAnyH_ready (rs := [10]) (by kernel_rfl) (by simp) ?_
            refine AllReadyH.cons rfl (fun K hK => ?_) AllReadyH.nil
            ·
             skip
             go_simp
             try dsimp only
             obtain ⟨y_25, hu25⟩ : ∃ y_25, y_25 = y_24.alloc (.cells #[] 3) := ⟨_, rfl⟩
             obtain ⟨b25, hb25⟩ : ∃ b25, b25 = y_24.heap.size := ⟨_, rfl⟩
             have HB25 : Hid (Below w7.heap.size w7 y_25) := Hq (by rw [hu25]; exact HB24.out.alloc HB24.out.size _)
             have HW25 : Hid (Two y_25 w7.heap.size v24 (([] ++ (gens.take kk)) ++ (gens.drop (kk + 1))) (.slice (some ⟨b25, 0, none⟩) 0 0) []) := Hq (by rw [hu25, hb25]; exact (HW24.out.symm.make HB24.out.size).symm)
             rw [← hu25, ← hb25]
             clear hu25 hb25
             refine hK.out _ _ HB25.out.size (fun hHeld => ?_)
             clear hK K
             try simp only [Act.put, zA, zB, zC, zD, zE, zF]
             refine wpAnyH_ready (rs := [14]) (by kernel_rfl) (by simp) ?_
             refine AllReadyH.cons rfl (fun K hK => ?_) AllReadyH.nil
             ·
              skip
              refine step_two rfl (.tmp 169) (.tmp 172) rfl rfl (HW25.out.symm) rfl ⟨_, HS3.out.stay (Stay.below HB25.out)⟩ HQ14.out HB25.out.size ?_
              intro v26 y_26 ho hg
              have HB26 : Hid (Below w7.heap.size w7 y_26) := Hq (HB25.out.grown hg HB25.out.size fun k hk => (World.ownsRow.lt (HW25.out.symm).a k hk).1)
              have HW26 := Hq ho.symm
              clear ho hg
              refine hK.out _ _ HB26.out.size (fun hHeld => ?_)
              clear hK K
              try simp only [Act.put, zA, zB, zC, zD, zE, zF]
              refine wpAnyH_ready (rs := [19]) (by kernel_rfl) (by simp) ?_
              refine AllReadyH.cons rfl (fun K hK => ?_) AllReadyH.nil
              ·
               skip
               refine step_two rfl (.tmp 173) (.tmp 177) rfl rfl (HW26.out.symm) rfl ⟨_, HS4.out.stay (Stay.below HB26.out)⟩ HQ19.out HB26.out.size ?_
               intro v27 y_27 ho hg
               have HB27 : Hid (Below w7.heap.size w7 y_27) := Hq (HB26.out.grown hg HB26.out.size fun k hk => (World.ownsRow.lt (HW26.out.symm).a k hk).1)
               have HW27 := Hq ho.symm
               clear ho hg
               refine hK.out _ _ HB27.out.size (fun hHeld => ?_)
               clear hK K
               try simp only [Act.put, zA, zB, zC, zD, zE, zF]
               refine wpAnyH_take (i := 20) (v := ?_) rfl (by kernel_rfl) (by kernel_rfl) (by kernel_rfl) (fun _ _ _ h => h) (Or.inl ⟨by rfl, ?_⟩) (by assumption) ?_
               rotate_left
               ·
                intro w hSw; (try dsimp only at hSw); go_simp; try with_reducible rfl
               simp only [Act.put, zA, zB, zC, zD, zE, zF]
               refine wpAnyH_take (i := 21) (v := ?_) rfl (by kernel_rfl) (by kernel_rfl) (by kernel_rfl) (fun _ _ _ h => h) (Or.inl ⟨by rfl, ?_⟩) (by assumption) ?_
               rotate_left
               ·
                intro w hSw; (try dsimp only at hSw); go_simp; try with_reducible rfl
               simp only [Act.put, zA, zB, zC, zD, zE, zF]
               refine wpAnyH_done (by kernel_rfl) ?_ _
               clear hHeld
               go_wp2
               go_roundw
               case rel => exact ⟨n - 1, ii + 1, by go_num, by have := HIN.out; omega, HEND.out _ _ _ HB27.out HW27.out⟩
               case measure => have := HMS.out _ _ _ HW27.out; simpa [lenV] using this
           ·
            skip
            go_simp
            try dsimp only
            obtain ⟨y_28, hu28⟩ : ∃ y_28, y_28 = y_23.alloc (.cells #[] 3) := ⟨_, rfl⟩
            obtain ⟨b28, hb28⟩ : ∃ b28, b28 = y_23.heap.size := ⟨_, rfl⟩
            have HB28 : Hid (Below w7.heap.size w7 y_28) := Hq (by rw [hu28]; exact HB23.out.alloc HB23.out.size _)
            have HW28 : Hid (Two y_28 w7.heap.size v23 ([] ++ (gens.take kk)) (.slice (some ⟨b28, 0, none⟩) 0 0) []) := Hq (by rw [hu28, hb28]; exact (HW23.out.symm.make HB23.out.size).symm)
            rw [← hu28, ← hb28]
            clear hu28 hb28
            refine hK.out _ _ HB28.out.size (fun hHeld => ?_)
            clear hK K
            try simp only [Act.put, zA, zB, zC, zD, zE, zF]
            refine wpAnyH_ready (rs := [9]) (by kernel_rfl) (by simp) ?_
            refine AllReadyH.cons rfl (fun K hK => ?_) AllReadyH.nil
            ·
             skip
             refine step_two rfl (.tmp 163) (.tmp 167) rfl rfl (HW28.out) rfl ⟨_, HS2.out.stay (Stay.below HB28.out)⟩ HQ9.out HB28.out.size ?_
             intro v29 y_29 ho hg
             have HB29 : Hid (Below w7.heap.size w7 y_29) := Hq (HB28.out.grown hg HB28.out.size fun k hk => (World.ownsRow.lt (HW28.out).a k hk).1)
             have HW29 := Hq ho
             clear ho hg
             refine hK.out _ _ HB29.out.size (fun hHeld => ?_)
             clear hK K
             try simp only [Act.put, zA, zB, zC, zD, zE, zF]
             refine wpAnyH_ready (rs := [14]) (by kernel_rfl) (by simp) ?_
             refine AllReadyH.cons rfl (fun K hK => ?_) AllReadyH.nil
             ·
              skip
              refine step_two rfl (.tmp 169) (.tmp 172) rfl rfl (HW29.out.symm) rfl ⟨_, HS3.out.stay (Stay.below HB29.out)⟩ HQ14.out HB29.out.size ?_
              intro v30 y_30 ho hg
              have HB30 : Hid (Below w7.heap.size w7 y_30) := Hq (HB29.out.grown hg HB29.out.size fun k hk => (World.ownsRow.lt (HW29.out.symm).a k hk).1)
              have HW30 := Hq ho.symm
              clear ho hg
              refine hK.out _ _ HB30.out.size (fun hHeld => ?_)
              clear hK K
              try simp only [Act.put, zA, zB, zC, zD, zE, zF]
              refine wpAnyH_ready (rs := [19]) (by kernel_rfl) (by simp) ?_
              refine AllReadyH.cons rfl (fun K hK => ?_) AllReadyH.nil
              ·
               skip
               refine step_two rfl (.tmp 173) (.tmp 177) rfl rfl (HW30.out.symm) rfl ⟨_, HS4.out.stay (Stay.below HB30.out)⟩ HQ19.out HB30.out.size ?_
               intro v31 y_31 ho hg
               have HB31 : Hid (Below w7.heap.size w7 y_31) := Hq (HB30.out.grown hg HB30.out.size fun k hk => (World.ownsRow.lt (HW30.out.symm).a k hk).1)
               have HW31 := Hq ho.symm
               clear ho hg
               refine hK.out _ _ HB31.out.size (fun hHeld => ?_)
               clear hK K
               try simp only [Act.put, zA, zB, zC, zD, zE, zF]
               refine wpAnyH_take (i := 20) (v := ?_) rfl (by kernel_rfl) (by kernel_rfl) (by kernel_rfl) (fun _ _ _ h => h) (Or.inl ⟨by rfl, ?_⟩) (by assumption) ?_
               rotate_left
               ·
                intro w hSw; (try dsimp only at hSw); go_simp; try with_reducible rfl
               simp only [Act.put, zA, zB, zC, zD, zE, zF]
               refine wpAnyH_take (i := 21) (v := ?_) rfl (by kernel_rfl) (by kernel_rfl) (by kernel_rfl) (fun _ _ _ h => h) (Or.inl ⟨by rfl, ?_⟩) (by assumption) ?_
               rotate_left
               ·
                intro w hSw; (try dsimp only at hSw); go_simp; try with_reducible rfl
               simp only [Act.put, zA, zB, zC, zD, zE, zF]
               refine wpAnyH_done (by kernel_rfl) ?_ _
               clear hHeld
               go_wp2
               go_roundw
               case rel => exact ⟨n - 1, ii + 1, by go_num, by have := HIN.out; omega, HEND.out _ _ _ HB31.out HW31.out⟩
               case measure => have := HMS.out _ _ _ HW31.out; simpa [lenV] using this
          ·
           skip
           go_simp
           try dsimp only
           obtain ⟨y_32, hu32⟩ : ∃ y_32, y_32 = y_22.alloc (.cells #[] 3) := ⟨_, rfl⟩
           obtain ⟨b32, hb32⟩ : ∃ b32, b32 = y_22.heap.size := ⟨_, rfl⟩
           have HB32 : Hid (Below w7.heap.size w7 y_32) := Hq (by rw [hu32]; exact HB22.out.alloc HB22.out.size _)
           have HW32 : Hid (Two y_32 w7.heap.size (.slice (some ⟨b22, 0, none⟩) 0 0) [] (.slice (some ⟨b32, 0, none⟩) 0 0) []) := Hq (by rw [hu32, hb32]; exact (HW22.out.symm.make HB22.out.size).symm)
           rw [← hu32, ← hb32]
           clear hu32 hb32
           refine hK.out _ _ HB32.out.size (fun hHeld => ?_)
           clear hK K
           try simp only [Act.put, zA, zB, zC, zD, zE, zF]
           refine wpAnyH_ready (rs := [4]) (by kernel_rfl) (by simp) ?_
           refine AllReadyH.cons rfl (fun K hK => ?_) AllReadyH.nil
           ·
            skip
            refine step_two rfl (.tmp 159) (.tmp 162) rfl rfl (HW32.out) rfl ⟨_, HS1.out.stay (Stay.below HB32.out)⟩ HQ4.out HB32.out.size ?_
            intro v33 y_33 ho hg
            have HB33 : Hid (Below w7.heap.size w7 y_33) := Hq (HB32.out.grown hg HB32.out.size fun k hk => (World.ownsRow.lt (HW32.out).a k hk).1)
            have HW33 := Hq ho
            clear ho hg
            refine hK.out _ _ HB33.out.size (fun hHeld => ?_)
            clear hK K
            try simp only [Act.put, zA, zB, zC, zD, zE, zF]
            refine wpAnyH_ready (rs := [9]) (by kernel_rfl) (by simp) ?_
            refine AllReadyH.cons rfl (fun K hK => ?_) AllReadyH.nil
            ·
             skip
             refine step_two rfl (.tmp 163) (.tmp 167) rfl rfl (HW33.out) rfl ⟨_, HS2.out.stay (Stay.below HB33.out)⟩ HQ9.out HB33.out.size ?_
             intro v34 y_34 ho hg
             have HB34 : Hid (Below w7.heap.size w7 y_34) := Hq (HB33.out.grown hg HB33.out.size fun k hk => (World.ownsRow.lt (HW33.out).a k hk).1)
             have HW34 := Hq ho
             clear ho hg
             refine hK.out _ _ HB34.out.size (fun hHeld => ?_)
             clear hK K
             try simp only [Act.put, zA, zB, zC, zD, zE, zF]
             refine wpAnyH_ready (rs := [14]) (by kernel_rfl) (by simp) ?_
             refine AllReadyH.cons rfl (fun K hK => ?_) AllReadyH.nil
             ·
              skip
              refine step_two rfl (.tmp 169) (.tmp 172) rfl rfl (HW34.out.symm) rfl ⟨_, HS3.out.stay (Stay.below HB34.out)⟩ HQ14.out HB34.out.size ?_
              intro v35 y_35 ho hg
              have HB35 : Hid (Below w7.heap.size w7 y_35) := Hq (HB34.out.grown hg HB34.out.size fun k hk => (World.ownsRow.lt (HW34.out.symm).a k hk).1)
              have HW35 := Hq ho.symm
              clear ho hg
              refine hK.out _ _ HB35.out.size (fun hHeld => ?_)
              clear hK K
              try simp only [Act.put, zA, zB, zC, zD, zE, zF]
              refine wpAnyH_ready (rs := [19]) (by kernel_rfl) (by simp) ?_
              refine AllReadyH.cons rfl (fun K hK => ?_) AllReadyH.nil
              ·
               skip
               refine step_two rfl (.tmp 173) (.tmp 177) rfl rfl (HW35.out.symm) rfl ⟨_, HS4.out.stay (Stay.below HB35.out)⟩ HQ19.out HB35.out.size ?_
               intro v36 y_36 ho hg
               have HB36 : Hid (Below w7.heap.size w7 y_36) := Hq (HB35.out.grown hg HB35.out.size fun k hk => (World.ownsRow.lt (HW35.out.symm).a k hk).1)
               have HW36 := Hq ho.symm
               clear ho hg
               refine hK.out _ _ HB36.out.size (fun hHeld => ?_)
               clear hK K
               try simp only [Act.put, zA, zB, zC, zD, zE, zF]
               refine wpAnyH_take (i := 20) (v := ?_) rfl (by kernel_rfl) (by kernel_rfl) (by kernel_rfl) (fun _ _ _ h => h) (Or.inl ⟨by rfl, ?_⟩) (by assumption) ?_
               rotate_left
               ·
                intro w hSw; (try dsimp only at hSw); go_simp; try with_reducible rfl
               simp only [Act.put, zA, zB, zC, zD, zE, zF]
               refine wpAnyH_take (i := 21) (v := ?_) rfl (by kernel_rfl) (by kernel_rfl) (by kernel_rfl) (fun _ _ _ h => h) (Or.inl ⟨by rfl, ?_⟩) (by assumption) ?_
               rotate_left
               ·
                intro w hSw; (try dsimp only at hSw); go_simp; try with_reducible rfl
               simp only [Act.put, zA, zB, zC, zD, zE, zF]
               refine wpAnyH_done (by kernel_rfl) ?_ _
               clear hHeld
               go_wp2
               go_roundw
               case rel => exact ⟨n - 1, ii + 1, by go_num, by have := HIN.out; omega, HEND.out _ _ _ HB36.out HW36.out⟩
               case measure => have := HMS.out _ _ _ HW36.out; simpa [lenV] using this
         ·
          skip
          go_simp
          try dsimp only
          obtain ⟨y_37, hu37⟩ : ∃ y_37, y_37 = y_0.alloc (.cells #[] 3) := ⟨_, rfl⟩
          obtain ⟨b37, hb37⟩ : ∃ b37, b37 = y_0.heap.size := ⟨_, rfl⟩
          have HB37 : Hid (Below w7.heap.size w7 y_37) := Hq (by rw [hu37]; exact HB0.out.alloc HB0.out.size _)
          have HW37 : Hid (Two y_37 w7.heap.size (.slice none 0 0) [] (.slice (some ⟨b37, 0, none⟩) 0 0) []) := Hq (by rw [hu37, hb37]; exact (HW0.out.symm.make HB0.out.size).symm)
          rw [← hu37, ← hb37]
          clear hu37 hb37
          refine hK.out _ _ HB37.out.size (fun hHeld => ?_)
          clear hK K
          try simp only [Act.put, zA, zB, zC, zD, zE, zF]
          refine wpAnyH_ready (rs := [0]) (by kernel_rfl) (by simp) ?_
          refine AllReadyH.cons rfl (fun K hK => ?_) AllReadyH.nil
          ·
           skip
           go_simp
           try dsimp only
           obtain ⟨y_38, hu38⟩ : ∃ y_38, y_38 = y_37.alloc (.cells #[] 3) := ⟨_, rfl⟩
           obtain ⟨b38, hb38⟩ : ∃ b38, b38 = y_37.heap.size := ⟨_, rfl⟩
           have HB38 : Hid (Below w7.heap.size w7 y_38) := Hq (by rw [hu38]; exact HB37.out.alloc HB37.out.size _)
           have HW38 : Hid (Two y_38 w7.heap.size (.slice (some ⟨b38, 0, none⟩) 0 0) [] (.slice (some ⟨b37, 0, none⟩) 0 0) []) := Hq (by rw [hu38, hb38]; exact HW37.out.make HB37.out.size)
           rw [← hu38, ← hb38]
           clear hu38 hb38
           refine hK.out _ _ HB38.out.size (fun hHeld => ?_)
           clear hK K
           try simp only [Act.put, zA, zB, zC, zD, zE, zF]
           refine wpAnyH_ready (rs := [4]) (by kernel_rfl) (by simp) ?_
           refine AllReadyH.cons rfl (fun K hK => ?_) AllReadyH.nil
           ·
            skip
            refine step_two rfl (.tmp 159) (.tmp 162) rfl rfl (HW38.out) rfl ⟨_, HS1.out.stay (Stay.below HB38.out)⟩ HQ4.out HB38.out.size ?_
            intro v39 y_39 ho hg
            have HB39 : Hid (Below w7.heap.size w7 y_39) := Hq (HB38.out.grown hg HB38.out.size fun k hk => (World.ownsRow.lt (HW38.out).a k hk).1)
            have HW39 := Hq ho
            clear ho hg
            refine hK.out _ _ HB39.out.size (fun hHeld => ?_)
            clear hK K
            try simp only [Act.put, zA, zB, zC, zD, zE, zF]
            refine wpAnyH_ready (rs := [9]) (by kernel_rfl) (by simp) ?_
            refine AllReadyH.cons rfl (fun K hK => ?_) AllReadyH.nil
            ·
             skip
             refine step_two rfl (.tmp 163) (.tmp 167) rfl rfl (HW39.out) rfl ⟨_, HS2.out.stay (Stay.below HB39.out)⟩ HQ9.out HB39.out.size ?_
             intro v40 y_40 ho hg
             have HB40 : Hid (Below w7.heap.size w7 y_40) := Hq (HB39.out.grown hg HB39.out.size fun k hk => (World.ownsRow.lt (HW39.out).a k hk).1)
             have HW40 := Hq ho
             clear ho hg
             refine hK.out _ _ HB40.out.size (fun hHeld => ?_)
             clear hK K
             try simp only [Act.put, zA, zB, zC, zD, zE, zF]
             refine wpAnyH_ready (rs := [14]) (by kernel_rfl) (by simp) ?_
             refine AllReadyH.cons rfl (fun K hK => ?_) AllReadyH.nil
             ·
              skip
              refine step_two rfl (.tmp 169) (.tmp 172) rfl rfl (HW40.out.symm) rfl ⟨_, HS3.out.stay (Stay.below HB40.out)⟩ HQ14.out HB40.out.size ?_
              intro v41 y_41 ho hg
              have HB41 : Hid (Below w7.heap.size w7 y_41) := Hq (HB40.out.grown hg HB40.out.size fun k hk => (World.ownsRow.lt (HW40.out.symm).a k hk).1)
              have HW41 := Hq ho.symm
              clear ho hg
              refine hK.out _ _ HB41.out.size (fun hHeld => ?_)
              clear hK K
              try simp only [Act.put, zA, zB, zC, zD, zE, zF]
              refine wpAnyH_ready (rs := [19]) (by kernel_rfl) (by simp) ?_
              refine AllReadyH.cons rfl (fun K hK => ?_) AllReadyH.nil
              ·
               skip
               refine step_two rfl (.tmp 173) (.tmp 177) rfl rfl (HW41.out.symm) rfl ⟨_, HS4.out.stay (Stay.below HB41.out)⟩ HQ19.out HB41.out.size ?_
               intro v42 y_42 ho hg
               have HB42 : Hid (Below w7.heap.size w7 y_42) := Hq (HB41.out.grown hg HB41.out.size fun k hk => (World.ownsRow.lt (HW41.out.symm).a k hk).1)
               have HW42 := Hq ho.symm
               clear ho hg
               refine hK.out _ _ HB42.out.size (fun hHeld => ?_)
               clear hK K
               try simp only [Act.put, zA, zB, zC, zD, zE, zF]
               refine wpAnyH_take (i := 20) (v := ?_) rfl (by kernel_rfl) (by kernel_rfl) (by kernel_rfl) (fun _ _ _ h => h) (Or.inl ⟨by rfl, ?_⟩) (by assumption) ?_
               rotate_left
               ·
                intro w hSw; (try dsimp only at hSw); go_simp; try with_reducible rfl
               simp only [Act.put, zA, zB, zC, zD, zE, zF]
               refine wpAnyH_take (i := 21) (v := ?_) rfl (by kernel_rfl) (by kernel_rfl) (by kernel_rfl) (fun _ _ _ h => h) (Or.inl ⟨by rfl, ?_⟩) (by assumption) ?_
               rotate_left
               ·
                intro w hSw; (try dsimp only at hSw); go_simp; try with_reducible rfl
               simp only [Act.put, zA, zB, zC, zD, zE, zF]
               refine wpAnyH_done (by kernel_rfl) ?_ _
               clear hHeld
               go_wp2
               go_roundw
               case rel => exact ⟨n - 1, ii + 1, by go_num, by have := HIN.out; omega, HEND.out _ _ _ HB42.out HW42.out⟩
               case measure => have := HMS.out _ _ _ HW42.out; simpa [lenV] using this
        ·
         obtain ⟨kk, hk0⟩ : ∃ kk : Nat, kk = 0 := ⟨0, rfl⟩
         have hkk : kk < n := by omega
         have j0 : (0 : Int) ≤ (ii : Int) := by omega
         have j1 : ¬ (ii : Int) < (m1 : Int) := by omega
         have j2 : ii ≤ 20 := by have := HIN.out; omega
         obtain ⟨y, hy⟩ : ∃ y, gens[kk]? = some y := ⟨_, List.getElem?_eq_getElem (by have := HGL.out; omega)⟩
         obtain ⟨z, hz⟩ : ∃ z, ws[kk]? = some z := ⟨_, List.getElem?_eq_getElem (by have := HWL.out; omega)⟩
         have g0 := HGC.out _ HB.out kk y hy
         rw [hk0] at g0
         have k0 : (0 : Int) ≤ (kk : Int) := by omega
         have k1 : (kk : Int) < (n : Int) := by omega
         obtain ⟨Y, hY, hun⟩ := HX.out.unpin hy
         obtain ⟨lx, bx, hpx, hbx, hfx⟩ := HV.out.at_ kk y hy
         have HRL := Hq (txRelease_one (HM.out.t.low HB.out) (HM.out.m.low HB.out) (HM.out.g.below HB.out) HM.out.hp hfx (fun w1 _ hg1 => hun w1 _ P p hg1))
         have HY := Hq hY
         have HYG := Hq hy
         have HZW := Hq hz
         clear hY hun hpx hbx hfx hy hz
         go_wp2_with fail
         refine HRL.out.mono ?_; rintro e w7 ⟨rfl, ht7, hm7, hg7, hb7, hk7⟩
         rw [show Value.int .i64 0 = Value.int .i64 (kk : Int) by rw [hk0]; rfl]
         have z1 : ((kk : Int) == 0) = true := by rw [hk0]; rfl
         have z2 : ((kk : Int) != 0) = false := by rw [hk0]; rfl
         have HK0 := Hq hk0
         clear hk0
         have HT7 := Hq ht7
         have HM7 := Hq hm7
         have HG7 := Hq hg7
         have HB7 := Hq ((HM.out.bl.trans (HB.out.mono HM.out.bl.size)).trans hb7)
         have HTW7 := Hq ((HM.out.two.low HB.out).keepsQ hk7 (HM.out.m.low HB.out).tp)
         clear ht7 hm7 hg7 hb7 hk7 HRL g0
         have htw := HTW7.out
         rw [HGL.out, HWL.out] at htw
         have hca := own_block HM.out.two.a
         have hcb := own_block HM.out.two.b
         rw [HGL.out] at hca
         rw [HWL.out] at hcb
         obtain ⟨A1, hA1, hl1⟩ := lie_tail htw.a HGL.out.symm (k := kk) (by omega)
         obtain ⟨A2, hA2, hl2⟩ := lie_tail htw.b HWL.out.symm (k := kk) (by omega)
         have HS1 := Hq (lie_head htw.a HGL.out.symm (k := kk) (by omega))
         have HS2 := Hq hl1
         have HS3 := Hq (lie_head htw.b HWL.out.symm (k := kk) (by omega))
         have HS4 := Hq hl2
         have b0 : (0 : Int) ≤ (kk : Int) + 1 := by omega
         have b1 : (kk : Int) + 1 ≤ (n : Int) := by omega
         have b2 : (kk : Int) + 1 ≤ (gc : Int) := by omega
         have b4 : (kk : Int) + 1 ≤ (wc : Int) := by omega
         have b5 : (kk : Int) ≤ (n : Int) := by omega
         have b6 : (kk : Int) ≤ (gc : Int) := by omega
         have b8 : (kk : Int) ≤ (wc : Int) := by omega
         have n1' : kk ≤ n := by omega
         have n2' : kk ≤ gc := by omega
         have n4' : kk ≤ wc := by omega
         have n5' : kk + 1 ≤ n := by omega
         have n6' : kk + 1 ≤ gc := by omega
         have n8' : kk + 1 ≤ wc := by omega
         have hw1 : IntKind.i64.wrap ((kk : Int) + 1) = (kk : Int) + 1 := by have := HIN.out; rw [IntKind.wrap_i64]; omega
         have hw2 : wrap64 ((kk : Int) + 1) = (kk : Int) + 1 := by have := HIN.out; exact IntWalk.wrap64_in _ (by omega)
         have HEND : Hid (∀ (v' u' : Value) (u : World), Below w7.heap.size w7 u → Two u w7.heap.size v' (([] ++ (gens.take kk)) ++ (gens.drop (kk + 1))) u' (([] ++ (ws.take kk)) ++ (ws.drop (kk + 1))) → QnH w u p s P pm (n - 1) v' u') := Hq fun v' u' u hb ht => by
          rw [List.nil_append, List.nil_append, ← List.eraseIdx_eq_take_drop_succ, ← List.eraseIdx_eq_take_drop_succ] at ht
          have hv := HV.out.gone HYG.out
          have hmp : (ws.map byI).eraseIdx kk = (ws.eraseIdx kk).map byI := by simp only [List.eraseIdx_eq_take_drop_succ, List.map_append, List.map_take, List.map_drop]
          rw [hmp] at hv
          exact ⟨Y, _, _, _, _, _, ⟨HG7.out.below hb, HT7.out.low hb, HM7.out.low hb, HB7.out.trans (hb.mono HB7.out.size), HM.out.hs, HM.out.hp, ht.mono HB7.out.size⟩, HY.out, hv, by rw [List.length_eraseIdx, if_pos (by rw [HGL.out]; exact hkk), HGL.out]⟩
         have HMS : Hid (∀ (v' u' : Value) (u : World), Two u w7.heap.size v' (([] ++ (gens.take kk)) ++ (gens.drop (kk + 1))) u' (([] ++ (ws.take kk)) ++ (ws.drop (kk + 1))) → lenV v' < n) := Hq fun v' u' u ht => by
          rw [ht.len]
          exact two_less gens HGL.out hkk
         have HQ4 : Hid (([] : List Int).length + (gens.take kk).length ≤ 1000000000) := Hq (two_few gens HGL.out (by have := HIN.out; omega)).1
         have HQ9 : Hid (([] ++ (gens.take kk)).length + (gens.drop (kk + 1)).length ≤ 1000000000) := Hq (two_few gens HGL.out (by have := HIN.out; omega)).2
         have HQ14 : Hid (([] : List Int).length + (ws.take kk).length ≤ 1000000000) := Hq (two_few ws HWL.out (by have := HIN.out; omega)).1
         have HQ19 : Hid (([] ++ (ws.take kk)).length + (ws.drop (kk + 1)).length ≤ 1000000000) := Hq (two_few ws HWL.out (by have := HIN.out; omega)).2
         clear htw hca hcb hl1 hl2
         go_wp2_with fail
         refine wp_region_held_drew (S := fun w' => w7.heap.size ≤ w'.heap.size) (by kernel_rfl) (Nat.le_refl _) (fun hHeld => ?_)
         refine wpAnyH_take (i := 1) (v := ?_) rfl (by kernel_rfl) (by kernel_rfl) (by kernel_rfl) (fun _ _ _ h => h) (Or.inl ⟨by rfl, ?_⟩) (by assumption) ?_
         rotate_left
         ·
          intro w hSw; (try dsimp only at hSw); go_simp; try with_reducible rfl
         simp only [Act.put, zA, zB, zC, zD, zE, zF]
         refine wpAnyH_take (i := 2) (v := ?_) rfl (by kernel_rfl) (by kernel_rfl) (by kernel_rfl) (fun _ _ _ h => h) (Or.inl ⟨by rfl, ?_⟩) (by assumption) ?_
         rotate_left
         ·
          intro w hSw; (try dsimp only at hSw); go_simp; try with_reducible rfl
         simp only [Act.put, zA, zB, zC, zD, zE, zF]
         refine wpAnyH_take (i := 3) (v := ?_) rfl (by kernel_rfl) (by kernel_rfl) (by kernel_rfl) (fun _ _ _ h => h) (Or.inl ⟨by rfl, ?_⟩) (by assumption) ?_
         rotate_left
         ·
          intro w hSw; (try dsimp only at hSw); go_simp; try with_reducible rfl
         simp only [Act.put, zA, zB, zC, zD, zE, zF]
         refine wpAnyH_take (i := 5) (v := ?_) rfl (by kernel_rfl) (by kernel_rfl) (by kernel_rfl) (fun _ _ _ h => h) (Or.inl ⟨by rfl, ?_⟩) (by assumption) ?_
         rotate_left
         ·
          intro w hSw; (try dsimp only at hSw); go_simp; try with_reducible rfl
         simp only [Act.put, zA, zB, zC, zD, zE, zF]
         refine wpAnyH_take (i := 6) (v := ?_) rfl (by kernel_rfl) (by kernel_rfl) (by kernel_rfl) (fun _ _ _ h => h) (Or.inl ⟨by rfl, ?_⟩) (by assumption) ?_
         rotate_left
         ·
          intro w hSw; (try dsimp only at hSw); go_simp; try with_reducible rfl
         simp only [Act.put, zA, zB, zC, zD, zE, zF]
         refine wpAnyH_take (i := 7) (v := ?_) rfl (by kernel_rfl) (by kernel_rfl) (by kernel_rfl) (fun _ _ _ h => h) (Or.inl ⟨by rfl, ?_⟩) (by assumption) ?_
         rotate_left
         ·
          intro w hSw; (try dsimp only at hSw); go_simp; try with_reducible rfl
         simp only [Act.put, zA, zB, zC, zD, zE, zF]
         refine wpAnyH_take (i := 8) (v := ?_) rfl (by kernel_rfl) (by kernel_rfl) (by kernel_rfl) (fun _ _ _ h => h) (Or.inl ⟨by rfl, ?_⟩) (by assumption) ?_
         rotate_left
         ·
          intro w hSw; (try dsimp only at hSw); go_simp; try with_reducible rfl
         simp only [Act.put, zA, zB, zC, zD, zE, zF]
         refine wpAnyH_take (i := 11) (v := ?_) rfl (by kernel_rfl) (by kernel_rfl) (by kernel_rfl) (fun _ _ _ h => h) (Or.inl ⟨by rfl, ?_⟩) (by assumption) ?_
         rotate_left
         ·
          intro w hSw; (try dsimp only at hSw); go_simp; try with_reducible rfl
         simp only [Act.put, zA, zB, zC, zD, zE, zF]
         refine wpAnyH_take (i := 12) (v := ?_) rfl (by kernel_rfl) (by kernel_rfl) (by kernel_rfl) (fun _ _ _ h => h) (Or.inl ⟨by rfl, ?_⟩) (by assumption) ?_
         rotate_left
         ·
          intro w hSw; (try dsimp only at hSw); go_simp; try with_reducible rfl
         simp only [Act.put, zA, zB, zC, zD, zE, zF]
         refine wpAnyH_take (i := 13) (v := ?_) rfl (by kernel_rfl) (by kernel_rfl) (by kernel_rfl) (fun _ _ _ h => h) (Or.inl ⟨by rfl, ?_⟩) (by assumption) ?_
         rotate_left
         ·
          intro w hSw; (try dsimp only at hSw); go_simp; try with_reducible rfl
         simp only [Act.put, zA, zB, zC, zD, zE, zF]
         refine wpAnyH_take (i := 15) (v := ?_) rfl (by kernel_rfl) (by kernel_rfl) (by kernel_rfl) (fun _ _ _ h => h) (Or.inl ⟨by rfl, ?_⟩) (by assumption) ?_
         rotate_left
         ·
          intro w hSw; (try dsimp only at hSw); go_simp; try with_reducible rfl
         simp only [Act.put, zA, zB, zC, zD, zE, zF]
         refine wpAnyH_take (i := 16) (v := ?_) rfl (by kernel_rfl) (by kernel_rfl) (by kernel_rfl) (fun _ _ _ h => h) (Or.inl ⟨by rfl, ?_⟩) (by assumption) ?_
         rotate_left
         ·
          intro w hSw; (try dsimp only at hSw); go_simp; try with_reducible rfl
         simp only [Act.put, zA, zB, zC, zD, zE, zF]
         refine wpAnyH_take (i := 17) (v := ?_) rfl (by kernel_rfl) (by kernel_rfl) (by kernel_rfl) (fun _ _ _ h => h) (Or.inl ⟨by rfl, ?_⟩) (by assumption) ?_
         rotate_left
         ·
          intro w hSw; (try dsimp only at hSw); go_simp; try with_reducible rfl
         simp only [Act.put, zA, zB, zC, zD, zE, zF]
         refine wpAnyH_take (i := 18) (v := ?_) rfl (by kernel_rfl) (by kernel_rfl) (by kernel_rfl) (fun _ _ _ h => h) (Or.inl ⟨by rfl, ?_⟩) (by assumption) ?_
         rotate_left
         ·
          intro w hSw; (try dsimp only at hSw); go_simp; try with_reducible rfl
         simp only [Act.put, zA, zB, zC, zD, zE, zF]
         obtain ⟨y_0, hu0⟩ : ∃ y_0, y_0 = w7.drew := ⟨_, rfl⟩
         have HB0 : Hid (Below w7.heap.size w7 y_0) := Hq (by rw [hu0]; exact Below.drew (Below.refl _ _))
         have HW0 : Hid (Two y_0 w7.heap.size (.slice none 0 0) [] (.slice none 0 0) []) := Hq Two.nil
         rw [← hu0] at hHeld ⊢
         clear hu0
         refine wpAnyH_ready (rs := [0, 10]) (by kernel_rfl) (by simp) ?_
         refine AllReadyH.cons rfl (fun K hK => ?_) (AllReadyH.cons rfl (fun K hK => ?_) AllReadyH.nil)
         ·
          skip
          go_simp
          try dsimp only
          obtain ⟨y_1, hu1⟩ : ∃ y_1, y_1 = y_0.alloc (.cells #[] 3) := ⟨_, rfl⟩
          obtain ⟨b1, hb1⟩ : ∃ b1, b1 = y_0.heap.size := ⟨_, rfl⟩
          have HB1 : Hid (Below w7.heap.size w7 y_1) := Hq (by rw [hu1]; exact HB0.out.alloc HB0.out.size _)
          have HW1 : Hid (Two y_1 w7.heap.size (.slice (some ⟨b1, 0, none⟩) 0 0) [] (.slice none 0 0) []) := Hq (by rw [hu1, hb1]; exact HW0.out.make HB0.out.size)
          rw [← hu1, ← hb1]
          clear hu1 hb1
          refine hK.out _ _ HB1.out.size (fun hHeld => ?_)
          clear hK K
          try simp only [Act.put, zA, zB, zC, zD, zE, zF]
          refine wpAnyH_ready (rs := [4, 10]) (by kernel_rfl) (by simp) ?_
          refine AllReadyH.cons rfl (fun K hK => ?_) (AllReadyH.cons rfl (fun K hK => ?_) AllReadyH.nil)
          ·
           skip
           refine step_two rfl (.tmp 159) (.tmp 162) rfl rfl (HW1.out) rfl ⟨_, HS1.out.stay (Stay.below HB1.out)⟩ HQ4.out HB1.out.size ?_
           intro v2 y_2 ho hg
           have HB2 : Hid (Below w7.heap.size w7 y_2) := Hq (HB1.out.grown hg HB1.out.size fun k hk => (World.ownsRow.lt (HW1.out).a k hk).1)
           have HW2 := Hq ho
           clear ho hg
           refine hK.out _ _ HB2.out.size (fun hHeld => ?_)
           clear hK K
           try simp only [Act.put, zA, zB, zC, zD, zE, zF]
           refine wpAnyH_ready (rs := [9, 10]) (by kernel_rfl) (by simp) ?_
           refine AllReadyH.cons rfl (fun K hK => ?_) (AllReadyH.cons rfl (fun K hK => ?_) AllReadyH.nil)
           ·
            skip
            refine step_two rfl (.tmp 163) (.tmp 167) rfl rfl (HW2.out) rfl ⟨_, HS2.out.stay (Stay.below HB2.out)⟩ HQ9.out HB2.out.size ?_
            intro v3 y_3 ho hg
            have HB3 : Hid (Below w7.heap.size w7 y_3) := Hq (HB2.out.grown hg HB2.out.size fun k hk => (World.ownsRow.lt (HW2.out).a k hk).1)
            have HW3 := Hq ho
            clear ho hg
            refine hK.out _ _ HB3.out.size (fun hHeld => ?_)
            clear hK K
            try simp only [Act.put, zA, zB, zC, zD, zE, zF]
            refine wpAnyH_ready (rs := [10]) (by kernel_rfl) (by simp) ?_
            refine AllReadyH.cons rfl (fun K hK => ?_) AllReadyH.nil
            ·
             skip
             go_simp
             try dsimp only
             obtain ⟨y_4, hu4⟩ : ∃ y_4, y_4 = y_3.alloc (.cells #[] 3) := ⟨_, rfl⟩
             obtain ⟨b4, hb4⟩ : ∃ b4, b4 = y_3.heap.size := ⟨_, rfl⟩
             have HB4 : Hid (Below w7.heap.size w7 y_4) := Hq (by rw [hu4]; exact HB3.out.alloc HB3.out.size _)
             have HW4 : Hid (Two y_4 w7.heap.size v3 (([] ++ (gens.take kk)) ++ (gens.drop (kk + 1))) (.slice (some ⟨b4, 0, none⟩) 0 0) []) := Hq (by rw [hu4, hb4]; exact (HW3.out.symm.make HB3.out.size).symm)
             rw [← hu4, ← hb4]
             clear hu4 hb4
             refine hK.out _ _ HB4.out.size (fun hHeld => ?_)
             clear hK K
             try simp only [Act.put, zA, zB, zC, zD, zE, zF]
             refine wpAnyH_ready (rs := [14]) (by kernel_rfl) (by simp) ?_
             refine AllReadyH.cons rfl (fun K hK => ?_) AllReadyH.nil
             ·
              skip
              refine step_two rfl (.tmp 169) (.tmp 172) rfl rfl (HW4.out.symm) rfl ⟨_, HS3.out.stay (Stay.below HB4.out)⟩ HQ14.out HB4.out.size ?_
              intro v5 y_5 ho hg
              have HB5 : Hid (Below w7.heap.size w7 y_5) := Hq (HB4.out.grown hg HB4.out.size fun k hk => (World.ownsRow.lt (HW4.out.symm).a k hk).1)
              have HW5 := Hq ho.symm
              clear ho hg
              refine hK.out _ _ HB5.out.size (fun hHeld => ?_)
              clear hK K
              try simp only [Act.put, zA, zB, zC, zD, zE, zF]
              refine wpAnyH_ready (rs := [19]) (by kernel_rfl) (by simp) ?_
              refine AllReadyH.cons rfl (fun K hK => ?_) AllReadyH.nil
              ·
               skip
               refine step_two rfl (.tmp 173) (.tmp 177) rfl rfl (HW5.out.symm) rfl ⟨_, HS4.out.stay (Stay.below HB5.out)⟩ HQ19.out HB5.out.size ?_
               intro v6 y_6 ho hg
               have HB6 : Hid (Below w7.heap.size w7 y_6) := Hq (HB5.out.grown hg HB5.out.size fun k hk => (World.ownsRow.lt (HW5.out.symm).a k hk).1)
               have HW6 := Hq ho.symm
               clear ho hg
               refine hK.out _ _ HB6.out.size (fun hHeld => ?_)
               clear hK K
               try simp only [Act.put, zA, zB, zC, zD, zE, zF]
               refine wpAnyH_take (i := 20) (v := ?_) rfl (by kernel_rfl) (by kernel_rfl) (by kernel_rfl) (fun _ _ _ h => h) (Or.inl ⟨by rfl, ?_⟩) (by assumption) ?_
               rotate_left
               ·
                intro w hSw; (try dsimp only at hSw); go_simp; try with_reducible rfl
               simp only [Act.put, zA, zB, zC, zD, zE, zF]
               refine wpAnyH_take (i := 21) (v := ?_) rfl (by kernel_rfl) (by kernel_rfl) (by kernel_rfl) (fun _ _ _ h => h) (Or.inl ⟨by rfl, ?_⟩) (by assumption) ?_
               rotate_left
               ·
                intro w hSw; (try dsimp only at hSw); go_simp; try with_reducible rfl
               simp only [Act.put, zA, zB, zC, zD, zE, zF]
               refine wpAnyH_done (by kernel_rfl) ?_ _
               clear hHeld
               rw [show ((kk : Nat) : Int) = 0 by rw [HK0.out]; rfl]
               go_wp2
               go_roundw
               case rel => exact ⟨n - 1, ii + 1, by go_num, by have := HIN.out; omega, HEND.out _ _ _ HB6.out HW6.out⟩
               case measure => have := HMS.out _ _ _ HW6.out; simpa [lenV] using this
           ·
            skip
            go_simp
            try dsimp only
            obtain ⟨y_7, hu7⟩ : ∃ y_7, y_7 = y_2.alloc (.cells #[] 3) := ⟨_, rfl⟩
            obtain ⟨b7, hb7⟩ : ∃ b7, b7 = y_2.heap.size := ⟨_, rfl⟩
            have HB7 : Hid (Below w7.heap.size w7 y_7) := Hq (by rw [hu7]; exact HB2.out.alloc HB2.out.size _)
            have HW7 : Hid (Two y_7 w7.heap.size v2 ([] ++ (gens.take kk)) (.slice (some ⟨b7, 0, none⟩) 0 0) []) := Hq (by rw [hu7, hb7]; exact (HW2.out.symm.make HB2.out.size).symm)
            rw [← hu7, ← hb7]
            clear hu7 hb7
            refine hK.out _ _ HB7.out.size (fun hHeld => ?_)
            clear hK K
            try simp only [Act.put, zA, zB, zC, zD, zE, zF]
            refine wpAnyH_ready (rs := [9]) (by kernel_rfl) (by simp) ?_
            refine AllReadyH.cons rfl (fun K hK => ?_) AllReadyH.nil
            ·
             skip
             refine step_two rfl (.tmp 163) (.tmp 167) rfl rfl (HW7.out) rfl ⟨_, HS2.out.stay (Stay.below HB7.out)⟩ HQ9.out HB7.out.size ?_
             intro v8 y_8 ho hg
             have HB8 : Hid (Below w7.heap.size w7 y_8) := Hq (HB7.out.grown hg HB7.out.size fun k hk => (World.ownsRow.lt (HW7.out).a k hk).1)
             have HW8 := Hq ho
             clear ho hg
             refine hK.out _ _ HB8.out.size (fun hHeld => ?_)
             clear hK K
             try simp only [Act.put, zA, zB, zC, zD, zE, zF]
             refine wpAnyH_ready (rs := [14]) (by kernel_rfl) (by simp) ?_
             refine AllReadyH.cons rfl (fun K hK => ?_) AllReadyH.nil
             ·
              skip
              refine step_two rfl (.tmp 169) (.tmp 172) rfl rfl (HW8.out.symm) rfl ⟨_, HS3.out.stay (Stay.below HB8.out)⟩ HQ14.out HB8.out.size ?_
              intro v9 y_9 ho hg
              have HB9 : Hid (Below w7.heap.size w7 y_9) := Hq (HB8.out.grown hg HB8.out.size fun k hk => (World.ownsRow.lt (HW8.out.symm).a k hk).1)
              have HW9 := Hq ho.symm
              clear ho hg
              refine hK.out _ _ HB9.out.size (fun hHeld => ?_)
              clear hK K
              try simp only [Act.put, zA, zB, zC, zD, zE, zF]
              refine wpAnyH_ready (rs := [19]) (by kernel_rfl) (by simp) ?_
              refine AllReadyH.cons rfl (fun K hK => ?_) AllReadyH.nil
              ·
               skip
               refine step_two rfl (.tmp 173) (.tmp 177) rfl rfl (HW9.out.symm) rfl ⟨_, HS4.out.stay (Stay.below HB9.out)⟩ HQ19.out HB9.out.size ?_
               intro v10 y_10 ho hg
               have HB10 : Hid (Below w7.heap.size w7 y_10) := Hq (HB9.out.grown hg HB9.out.size fun k hk => (World.ownsRow.lt (HW9.out.symm).a k hk).1)
               have HW10 := Hq ho.symm
               clear ho hg
               refine hK.out _ _ HB10.out.size (fun hHeld => ?_)
               clear hK K
               try simp only [Act.put, zA, zB, zC, zD, zE, zF]
               refine wpAnyH_take (i := 20) (v := ?_) rfl (by kernel_rfl) (by kernel_rfl) (by kernel_rfl) (fun _ _ _ h => h) (Or.inl ⟨by rfl, ?_⟩) (by assumption) ?_
               rotate_left
               ·
                intro w hSw; (try dsimp only at hSw); go_simp; try with_reducible rfl
               simp only [Act.put, zA, zB, zC, zD, zE, zF]
               refine wpAnyH_take (i := 21) (v := ?_) rfl (by kernel_rfl) (by kernel_rfl) (by kernel_rfl) (fun _ _ _ h => h) (Or.inl ⟨by rfl, ?_⟩) (by assumption) ?_
               rotate_left
               ·
                intro w hSw; (try dsimp only at hSw); go_simp; try with_reducible rfl
               simp only [Act.put, zA, zB, zC, zD, zE, zF]
               refine wpAnyH_done (by kernel_rfl) ?_ _
               clear hHeld
               rw [show ((kk : Nat) : Int) = 0 by rw [HK0.out]; rfl]
               go_wp2
               go_roundw
               case rel => exact ⟨n - 1, ii + 1, by go_num, by have := HIN.out; omega, HEND.out _ _ _ HB10.out HW10.out⟩
               case measure => have := HMS.out _ _ _ HW10.out; simpa [lenV] using this
          ·
           skip
           go_simp
           try dsimp only
           obtain ⟨y_11, hu11⟩ : ∃ y_11, y_11 = y_1.alloc (.cells #[] 3) := ⟨_, rfl⟩
           obtain ⟨b11, hb11⟩ : ∃ b11, b11 = y_1.heap.size := ⟨_, rfl⟩
           have HB11 : Hid (Below w7.heap.size w7 y_11) := Hq (by rw [hu11]; exact HB1.out.alloc HB1.out.size _)
           have HW11 : Hid (Two y_11 w7.heap.size (.slice (some ⟨b1, 0, none⟩) 0 0) [] (.slice (some ⟨b11, 0, none⟩) 0 0) []) := Hq (by rw [hu11, hb11]; exact (HW1.out.symm.make HB1.out.size).symm)
           rw [← hu11, ← hb11]
           clear hu11 hb11
           refine hK.out _ _ HB11.out.size (fun hHeld => ?_)
           clear hK K
           try simp only [Act.put, zA, zB, zC, zD, zE, zF]
           refine wpAnyH_ready (rs := [4]) (by kernel_rfl) (by simp) ?_
           refine AllReadyH.cons rfl (fun K hK => ?_) AllReadyH.nil
           ·
            skip
            refine step_two rfl (.tmp 159) (.tmp 162) rfl rfl (HW11.out) rfl ⟨_, HS1.out.stay (Stay.below HB11.out)⟩ HQ4.out HB11.out.size ?_
            intro v12 y_12 ho hg
            have HB12 : Hid (Below w7.heap.size w7 y_12) := Hq (HB11.out.grown hg HB11.out.size fun k hk => (World.ownsRow.lt (HW11.out).a k hk).1)
            have HW12 := Hq ho
            clear ho hg
            refine hK.out _ _ HB12.out.size (fun hHeld => ?_)
            clear hK K
            try simp only [Act.put, zA, zB, zC, zD, zE, zF]
            refine wpAnyH_ready (rs := [9]) (by kernel_rfl) (by simp) ?_
            refine AllReadyH.cons rfl (fun K hK => ?_) AllReadyH.nil
            ·
             skip
             refine step_two rfl (.tmp 163) (.tmp 167) rfl rfl (HW12.out) rfl ⟨_, HS2.out.stay (Stay.below HB12.out)⟩ HQ9.out HB12.out.size ?_
             intro v13 y_13 ho hg
             have HB13 : Hid (Below w7.heap.size w7 y_13) := Hq (HB12.out.grown hg HB12.out.size fun k hk => (World.ownsRow.lt (HW12.out).a k hk).1)
             have HW13 := Hq ho
             clear ho hg
             refine hK.out _ _ HB13.out.size (fun hHeld => ?_)
             clear hK K
             try simp only [Act.put, zA, zB, zC, zD, zE, zF]
             refine wpAnyH_ready (rs := [14]) (by kernel_rfl) (by simp) ?_
             refine AllReadyH.cons rfl (fun K hK => ?_) AllReadyH.nil
             ·
              skip
              refine step_two rfl (.tmp 169) (.tmp 172) rfl rfl (HW13.out.symm) rfl ⟨_, HS3.out.stay (Stay.below HB13.out)⟩ HQ14.out HB13.out.size ?_
              intro v14 y_14 ho hg
              have HB14 : Hid (Below w7.heap.size w7 y_14) := Hq (HB13.out.grown hg HB13.out.size fun k hk => (World.ownsRow.lt (HW13.out.symm).a k hk).1)
              have HW14 := Hq ho.symm
              clear ho hg
              refine hK.out _ _ HB14.out.size (fun hHeld => ?_)
              clear hK K
              try simp only [Act.put, zA, zB, zC, zD, zE, zF]
              refine wpAnyH_ready (rs := [19]) (by kernel_rfl) (by simp) ?_
              refine AllReadyH.cons rfl (fun K hK => ?_) AllReadyH.nil
              ·
               skip
               refine step_two rfl (.tmp 173) (.tmp 177) rfl rfl (HW14.out.symm) rfl ⟨_, HS4.out.stay (Stay.below HB14.out)⟩ HQ19.out HB14.out.size ?_
               intro v15 y_15 ho hg
               have HB15 : Hid (Below w7.heap.size w7 y_15) := Hq (HB14.out.grown hg HB14.out.size fun k hk => (World.ownsRow.lt (HW14.out.symm).a k hk).1)
               have HW15 := Hq ho.symm
               clear ho hg
               refine hK.out _ _ HB15.out.size (fun hHeld => ?_)
               clear hK K
               try simp only [Act.put, zA, zB, zC, zD, zE, zF]
               refine wpAnyH_take (i := 20) (v := ?_) rfl (by kernel_rfl) (by kernel_rfl) (by kernel_rfl) (fun _ _ _ h => h) (Or.inl ⟨by rfl, ?_⟩) (by assumption) ?_
               rotate_left
               ·
                intro w hSw; (try dsimp only at hSw); go_simp; try with_reducible rfl
               simp only [Act.put, zA, zB, zC, zD, zE, zF]
               refine wpAnyH_take (i := 21) (v := ?_) rfl (by kernel_rfl) (by kernel_rfl) (by kernel_rfl) (fun _ _ _ h => h) (Or.inl ⟨by rfl, ?_⟩) (by assumption) ?_
               rotate_left
               ·
                intro w hSw; (try dsimp only at hSw); go_simp; try with_reducible rfl
               simp only [Act.put, zA, zB, zC, zD, zE, zF]
               refine wpAnyH_done (by kernel_rfl) ?_ _
               clear hHeld
               rw [show ((kk : Nat) : Int) = 0 by rw [HK0.out]; rfl]
               go_wp2
               go_roundw
               case rel => exact ⟨n - 1, ii + 1, by go_num, by have := HIN.out; omega, HEND.out _ _ _ HB15.out HW15.out⟩
               case measure => have := HMS.out _ _ _ HW15.out; simpa [lenV] using this
         ·
          skip
          go_simp
          try dsimp only
          obtain ⟨y_16, hu16⟩ : ∃ y_16, y_16 = y_0.alloc (.cells #[] 3) := ⟨_, rfl⟩
          obtain ⟨b16, hb16⟩ : ∃ b16, b16 = y_0.heap.size := ⟨_, rfl⟩
          have HB16 : Hid (Below w7.heap.size w7 y_16) := Hq (by rw [hu16]; exact HB0.out.alloc HB0.out.size _)
          have HW16 : Hid (Two y_16 w7.heap.size (.slice none 0 0) [] (.slice (some ⟨b16, 0, none⟩) 0 0) []) := Hq (by rw [hu16, hb16]; exact (HW0.out.symm.make HB0.out.size).symm)
          rw [← hu16, ← hb16]
          clear hu16 hb16
          refine hK.out _ _ HB16.out.size (fun hHeld => ?_)
          clear hK K
          try simp only [Act.put, zA, zB, zC, zD, zE, zF]
          refine wpAnyH_ready (rs := [0]) (by kernel_rfl) (by simp) ?_
          refine AllReadyH.cons rfl (fun K hK => ?_) AllReadyH.nil
          ·
           skip
           go_simp
           try dsimp only
           obtain ⟨y_17, hu17⟩ : ∃ y_17, y_17 = y_16.alloc (.cells #[] 3) := ⟨_, rfl⟩
           obtain ⟨b17, hb17⟩ : ∃ b17, b17 = y_16.heap.size := ⟨_, rfl⟩
           have HB17 : Hid (Below w7.heap.size w7 y_17) := Hq (by rw [hu17]; exact HB16.out.alloc HB16.out.size _)
           have HW17 : Hid (Two y_17 w7.heap.size (.slice (some ⟨b17, 0, none⟩) 0 0) [] (.slice (some ⟨b16, 0, none⟩) 0 0) []) := Hq (by rw [hu17, hb17]; exact HW16.out.make HB16.out.size)
           rw [← hu17, ← hb17]
           clear hu17 hb17
           refine hK.out _ _ HB17.out.size (fun hHeld => ?_)
           clear hK K
           try simp only [Act.put, zA, zB, zC, zD, zE, zF]
           refine wpAnyH_ready (rs := [4]) (by kernel_rfl) (by simp) ?_
           refine AllReadyH.cons rfl (fun K hK => ?_) AllReadyH.nil
           ·
            skip
            refine step_two rfl (.tmp 159) (.tmp 162) rfl rfl (HW17.out) rfl ⟨_, HS1.out.stay (Stay.below HB17.out)⟩ HQ4.out HB17.out.size ?_
            intro v18 y_18 ho hg
            have HB18 : Hid (Below w7.heap.size w7 y_18) := Hq (HB17.out.grown hg HB17.out.size fun k hk => (World.ownsRow.lt (HW17.out).a k hk).1)
            have HW18 := Hq ho
            clear ho hg
            refine hK.out _ _ HB18.out.size (fun hHeld => ?_)
            clear hK K
            try simp only [Act.put, zA, zB, zC, zD, zE, zF]
            refine wpAnyH_ready (rs := [9]) (by kernel_rfl) (by simp) ?_
            refine AllReadyH.cons rfl (fun K hK => ?_) AllReadyH.nil
            ·
             skip
             refine step_two rfl (.tmp 163) (.tmp 167) rfl rfl (HW18.out) rfl ⟨_, HS2.out.stay (Stay.below HB18.out)⟩ HQ9.out HB18.out.size ?_
             intro v19 y_19 ho hg
             have HB19 : Hid (Below w7.heap.size w7 y_19) := Hq (HB18.out.grown hg HB18.out.size fun k hk => (World.ownsRow.lt (HW18.out).a k hk).1)
             have HW19 := Hq ho
             clear ho hg
             refine hK.out _ _ HB19.out.size (fun hHeld => ?_)
             clear hK K
             try simp only [Act.put, zA, zB, zC, zD, zE, zF]
             refine wpAnyH_ready (rs := [14]) (by kernel_rfl) (by simp) ?_
             refine AllReadyH.cons rfl (fun K hK => ?_) AllReadyH.nil
             ·
              skip
              refine step_two rfl (.tmp 169) (.tmp 172) rfl rfl (HW19.out.symm) rfl ⟨_, HS3.out.stay (Stay.below HB19.out)⟩ HQ14.out HB19.out.size ?_
              intro v20 y_20 ho hg
              have HB20 : Hid (Below w7.heap.size w7 y_20) := Hq (HB19.out.grown hg HB19.out.size fun k hk => (World.ownsRow.lt (HW19.out.symm).a k hk).1)
              have HW20 := Hq ho.symm
              clear ho hg
              refine hK.out _ _ HB20.out.size (fun hHeld => ?_)
              clear hK K
              try simp only [Act.put, zA, zB, zC, zD, zE, zF]
              refine wpAnyH_ready (rs := [19]) (by kernel_rfl) (by simp) ?_
              refine AllReadyH.cons rfl (fun K hK => ?_) AllReadyH.nil
              ·
               skip
               refine step_two rfl (.tmp 173) (.tmp 177) rfl rfl (HW20.out.symm) rfl ⟨_, HS4.out.stay (Stay.below HB20.out)⟩ HQ19.out HB20.out.size ?_
               intro v21 y_21 ho hg
               have HB21 : Hid (Below w7.heap.size w7 y_21) := Hq (HB20.out.grown hg HB20.out.size fun k hk => (World.ownsRow.lt (HW20.out.symm).a k hk).1)
               have HW21 := Hq ho.symm
               clear ho hg
               refine hK.out _ _ HB21.out.size (fun hHeld => ?_)
               clear hK K
               try simp only [Act.put, zA, zB, zC, zD, zE, zF]
               refine wpAnyH_take (i := 20) (v := ?_) rfl (by kernel_rfl) (by kernel_rfl) (by kernel_rfl) (fun _ _ _ h => h) (Or.inl ⟨by rfl, ?_⟩) (by assumption) ?_
               rotate_left
               ·
                intro w hSw; (try dsimp only at hSw); go_simp; try with_reducible rfl
               simp only [Act.put, zA, zB, zC, zD, zE, zF]
               refine wpAnyH_take (i := 21) (v := ?_) rfl (by kernel_rfl) (by kernel_rfl) (by kernel_rfl) (fun _ _ _ h => h) (Or.inl ⟨by rfl, ?_⟩) (by assumption) ?_
               rotate_left
               ·
                intro w hSw; (try dsimp only at hSw); go_simp; try with_reducible rfl
               simp only [Act.put, zA, zB, zC, zD, zE, zF]
               refine wpAnyH_done (by kernel_rfl) ?_ _
               clear hHeld
               rw [show ((kk : Nat) : Int) = 0 by rw [HK0.out]; rfl]
               go_wp2
               go_roundw
               case rel => exact ⟨n - 1, ii + 1, by go_num, by have := HIN.out; omega, HEND.out _ _ _ HB21.out HW21.out⟩
               case measure => have := HMS.out _ _ _ HW21.out; simpa [lenV] using this
    -- END A
   ·
    have i1 : ¬ (j : Int) < (m0 : Int) := by omega
    -- TAIL B
    go_wp2_with fail
    go_loopw [8, 9, 13] (fun v u i wr => ∃ n ii : Nat, i = .int .i64 ii ∧ ii + n ≤ 20 ∧ QnH w wr p s P pm n v u) (fun v _ _ _ => lenV v)
    case atStart => exact ⟨j, 0, rfl, by omega, HQ.out⟩
    case round =>
     obtain ⟨n, ii, rfl, hin, X, f, gens, ws, now, pins, hM, hX, hV, hgl⟩ := hrel
     clear HQ
     have hwl : ws.length = n := by have := hV.lb; rw [List.length_map] at this; omega
     obtain ⟨gq, gc, hge, hgk⟩ := hM.two.a.form
     obtain ⟨wq, wc, hwe, hwk⟩ := hM.two.b.form
     subst hge
     subst hwe
     rw [hgl, hwl]
     have HM := Hq hM
     have HX := Hq hX
     have HV := Hq hV
     have HGL := Hq hgl
     have HWL := Hq hwl
     have HGK := Hq hgk
     have HWK := Hq hwk
     have HIN := Hq hin
     clear hM hX hV hgl hwl hgk hwk hin
     by_cases hn : n = 0
     ·
      subst hn
      have hg0 : gens = [] := List.eq_nil_of_length_eq_zero HGL.out
      subst hg0
      obtain ⟨f1, f2, f3⟩ := HX.out.fin
      obtain ⟨U, hU⟩ : ∃ U, U = X.F.nUsed := ⟨_, rfl⟩
      obtain ⟨F0, hF0⟩ : ∃ F0, F0 = X.F.nFree := ⟨_, rfl⟩
      have HWT := Hq (txWaiting_yes HM.out.t HM.out.g)
      have HUS := Hq (txUsed_yes HM.out.t HM.out.g)
      have HRL := Hq (txRelease_none HM.out.t HM.out.m (HV.out.fn 1 (by simp)))
      rw [f1] at HWT
      rw [← hU] at HUS f2 f3
      rw [← hF0] at f3
      have f2 : (U : Int) ≤ 1 := by omega
      replace hU := Hq hU
      replace hF0 := Hq hF0
      have e1 : wrap64 (F0 + (U : Int)) = 298 := by rw [IntWalk.wrap64_in _ (by omega)]; exact f3
      go_wp2_with fail
      refine HWT.out.mono ?_; rintro e w5 ⟨rfl, rfl⟩
      go_wp2_with fail
      refine HUS.out.mono ?_; rintro e w5 ⟨rfl, rfl⟩
      go_wp2_with fail
      refine HRL.out.mono ?_; rintro e w5 ⟨rfl, hb5⟩
      have HFR := Hq (txFree_yes (HM.out.t.low hb5) (HM.out.g.below hb5))
      rw [← hF0.out] at HFR
      have HB5 := Hq (HM.out.bl.trans (hb5.mono HM.out.bl.size))
      have HT5 := Hq (HM.out.t.low hb5)
      have HG5 := Hq (HM.out.g.below hb5)
      clear hb5 HWT HUS HRL
      go_wp2_with fail
      refine HFR.out.mono ?_; rintro e w6 ⟨rfl, hb6⟩
      have HUS := Hq (txUsed_yes (HT5.out.low hb6) (HG5.out.below hb6))
      rw [← hU.out] at HUS
      have HB6 := Hq (HB5.out.trans (hb6.mono HB5.out.size))
      clear hb6 HFR
      go_wp2_with fail
      refine HUS.out.mono ?_; rintro e w7 ⟨rfl, rfl⟩
      go_wp2
      go_ret
      exact ⟨rfl, HB6.out⟩
     ·
      have hgl2 := HGL.out
      have hwl2 := HWL.out
      obtain ⟨gb, go, rfl, hgc⟩ := HGK.out (by intro e; rw [e] at hgl2; exact hn hgl2.symm)
      obtain ⟨wb, wo, rfl, hwc⟩ := HWK.out (by intro e; rw [e] at hwl2; exact hn hwl2.symm)
      obtain rfl := row_zero HM.out.two.a
      obtain rfl := row_zero HM.out.two.b
      simp only [Nat.zero_add] at hgc hwc
      have HGC : Hid (∀ u, Below wr.heap.size wr u → ∀ (k : Nat) y, gens[k]? = some y → u.cell? ⟨gb, k, none⟩ = some (.int .i64 y)) := Hq fun u hb k y hk => (hb.cell (World.block_lt_of_cell? _ _ (hgc k y hk))).trans (hgc k y hk)
      have HWC : Hid (∀ u, Below wr.heap.size wr u → ∀ (k : Nat) y, ws[k]? = some y → u.cell? ⟨wb, k, none⟩ = some (.int .i64 y)) := Hq fun u hb k y hk => (hb.cell (World.block_lt_of_cell? _ _ (hwc k y hk))).trans (hwc k y hk)
      have i0 : (0 : Int) < (n : Int) := by omega
      have n0 : 0 < n := by omega
      clear hgc hwc hgl2 hwl2
      go_wp2_with fail
      go_loopw [14] (fun k w' => ∃ kx : Nat, k = .int .i64 kx ∧ kx ≤ n ∧ Below wr.heap.size wr w') (fun k _ => n - (intOf k).toNat)
      case atStart => exact ⟨0, rfl, by omega, Below.refl _ _⟩
      case round =>
       obtain ⟨kx, rfl, hkn, hb⟩ := hrel
       by_cases hk : kx < n
       ·
        have h0k : (0 : Int) ≤ (kx : Int) := by omega
        have hkn2 : (kx : Int) < (n : Int) := by omega
        obtain ⟨y, hy⟩ : ∃ y, gens[kx]? = some y := ⟨_, List.getElem?_eq_getElem (by have := HGL.out; omega)⟩
        obtain ⟨z, hz⟩ : ∃ z, ws[kx]? = some z := ⟨_, List.getElem?_eq_getElem (by have := HWL.out; omega)⟩
        have g0 := HGC.out _ hb kx y hy
        have hcv := fun (w : World) => Lib.run_convert_bytes_const (P := Tryz.prog) w 33 5 #[.int .u8 107] 1 1 Tryz.underlying33 Tryz.underlying5
        obtain ⟨lx, bx, hpx, hbx, hfx⟩ := HV.out.at_ kx y hy
        have hbz : bx = byI z := by
         rw [List.getElem?_map, hz] at hbx
         exact (Option.some.inj hbx).symm
        have h3y := HV.out.lo y (List.mem_of_getElem? hy)
        obtain ⟨W1, hW1⟩ : ∃ W1, W1 = wr.alloc (.cells #[.int .u8 107] 5 (1, 2)) := ⟨_, rfl⟩
        have hbw : Below wr.heap.size wr W1 := by rw [hW1]; exact sbox1 _ _
        have hb1 := hb.trans (hbw.mono hb.size)
        have HB1 := Hq hb1
        have HGT := Hq (txGet_pin (HM.out.t.low hb1) (HM.out.m.low hb1) (nm := ⟨#[97]⟩) (key := ⟨some ⟨wr.heap.size, 0, none⟩, 1, [107]⟩) ⟨by show 1 ≤ _; omega, kb_one (u := 107) (by rw [hW1]; exact heap_alloc_new wr _), (by show wrongF [97] [[107]] = 0; decide)⟩ (by omega) hfx (out := [bx])
         (fun w1 kb hbb hkb hkl => HX.out.get_ok hpx (HT.out.below HT.out.lt ((HM.out.bl.trans (hb1.mono HM.out.bl.size)).trans (hbb.mono (HM.out.bl.trans (hb1.mono HM.out.bl.size)).size))) ((HM.out.g.below hb1).below hbb) HT.out.lt hkb hkl))
        have HZ := Hq hz
        have HBZ := Hq hbz
        clear hpx hbx hfx h3y hbw hb1 hb hz hbz
        go_wp2_with fail
        rw [← hW1]
        replace hW1 := Hq hW1
        refine HGT.out.mono ?_; rintro e w6 ⟨⟨yq, yc, yl⟩, rfl, hyl, hyo, hb6⟩
        have hyl : yl = [bx] := hyl
        subst hyl
        obtain ⟨bb, bo, hq, hcl⟩ := hyo.bs (by simp)
        have hq : yq = some ⟨bb, bo, none⟩ := hq
        subst hq
        have HB6 := Hq (HB1.out.trans (hb6.mono HB1.out.size))
        obtain ⟨t, ht⟩ : ∃ t : Int, t = z % 256 := ⟨_, rfl⟩
        have c6 : w6.cell? ⟨bb, bo, none⟩ = some (.int .u8 t) := by
         have := hcl 0 bx rfl
         rw [HBZ.out, byI_int, ← ht] at this
         exact this
        have d6 := HWC.out _ HB6.out kx z HZ.out
        clear hyo hb6 hcl HGT g0 hcv
        have e2 : wrap64 ((kx : Int) + 1) = (kx : Int) + 1 := by have := HIN.out; exact IntWalk.wrap64_in _ (by omega)
        have hzz : (t != IntKind.u8.wrap z) = false := by rw [IntKind.wrap_u8, ht]; simp
        replace ht := Hq ht
        have HCX : Hid (w6.cell? ⟨bb, bo, none⟩ = some (.int .u8 t) ∧ w6.cell? ⟨wb, kx, none⟩ = some (.int .i64 z)) := Hq ⟨c6, d6⟩
        have HCD : Hid (w6.drew.cell? ⟨bb, bo, none⟩ = some (.int .u8 t) ∧ w6.drew.cell? ⟨wb, kx, none⟩ = some (.int .i64 z)) := Hq ⟨c6, d6⟩
        go_wp2_with fail
        go_region_held3 (fun w' => w'.cell? ⟨bb, bo, none⟩ = some (.int .u8 t) ∧ w'.cell? ⟨wb, kx, none⟩ = some (.int .i64 z))
         (with_reducible first | exact HCX.out | exact HCD.out)
         (fail)
        clear HCX HCD c6 d6
        go_wp2
        go_roundw
        case rel => exact ⟨kx + 1, by go_num, by omega, HB6.out.drew⟩
        case measure => rw [e2]; exact meas_less hk
       ·
        have h0k : (0 : Int) ≤ (kx : Int) := by omega
        have hkn2 : ¬ (kx : Int) < (n : Int) := by omega
        have HB := Hq hb
        clear hb
        by_cases hii : ii < m1
        ·
         obtain ⟨r, hr⟩ : ∃ r, l1[ii]? = some r := ⟨_, List.getElem?_eq_getElem (by have := HL1.out.hn; omega)⟩
         obtain ⟨rb, ro, rfl, hrc⟩ := HL1.out.hl (by intro e; rw [e] at hr; simp at hr)
         have hbw := HM.out.bl.trans (HB.out.mono HM.out.bl.size)
         have r0 : wr.cell? ⟨rb, ro + ii, none⟩ = some (.int .i64 r) := (hbw.cell (World.block_lt_of_cell? _ _ (hrc ii r hr))).trans (hrc ii r hr)
         obtain ⟨a, kk, ha, ha2, ha3, hkk⟩ := mod_two r (show 0 < n by omega) (by have := HIN.out; omega)
         have j0 : (0 : Int) ≤ (ii : Int) := by omega
         have j1 : (ii : Int) < (m1 : Int) := by omega
         have hnz : ((n : Int) == 0) = false := by rw [beq_eq_false_iff_ne]; omega
         have hnz2 : (n : Int) ≠ 0 := by omega
         clear hrc hr hbw
         obtain ⟨y, hy⟩ : ∃ y, gens[kk]? = some y := ⟨_, List.getElem?_eq_getElem (by have := HGL.out; omega)⟩
         obtain ⟨z, hz⟩ : ∃ z, ws[kk]? = some z := ⟨_, List.getElem?_eq_getElem (by have := HWL.out; omega)⟩
         have g0 := HGC.out _ HB.out kk y hy
         have k0 : (0 : Int) ≤ (kk : Int) := by omega
         have k1 : (kk : Int) < (n : Int) := by omega
         obtain ⟨Y, hY, hun⟩ := HX.out.unpin hy
         obtain ⟨lx, bx, hpx, hbx, hfx⟩ := HV.out.at_ kk y hy
         have HRL := Hq (txRelease_one (HM.out.t.low HB.out) (HM.out.m.low HB.out) (HM.out.g.below HB.out) HM.out.hp hfx (fun w1 _ hg1 => hun w1 _ P p hg1))
         have HY := Hq hY
         have HYG := Hq hy
         have HZW := Hq hz
         clear hY hun hpx hbx hfx hy hz
         go_wp2_with fail
         refine HRL.out.mono ?_; rintro e w7 ⟨rfl, ht7, hm7, hg7, hb7, hk7⟩
         have HT7 := Hq ht7
         have HM7 := Hq hm7
         have HG7 := Hq hg7
         have HB7 := Hq ((HM.out.bl.trans (HB.out.mono HM.out.bl.size)).trans hb7)
         have HTW7 := Hq ((HM.out.two.low HB.out).keepsQ hk7 (HM.out.m.low HB.out).tp)
         clear ht7 hm7 hg7 hb7 hk7 HRL g0 r0
         have htw := HTW7.out
         rw [HGL.out, HWL.out] at htw
         have hca := own_block HM.out.two.a
         have hcb := own_block HM.out.two.b
         rw [HGL.out] at hca
         rw [HWL.out] at hcb
         obtain ⟨A1, hA1, hl1⟩ := lie_tail htw.a HGL.out.symm (k := kk) (by omega)
         obtain ⟨A2, hA2, hl2⟩ := lie_tail htw.b HWL.out.symm (k := kk) (by omega)
         have HS1 := Hq (lie_head htw.a HGL.out.symm (k := kk) (by omega))
         have HS2 := Hq hl1
         have HS3 := Hq (lie_head htw.b HWL.out.symm (k := kk) (by omega))
         have HS4 := Hq hl2
         have b0 : (0 : Int) ≤ (kk : Int) + 1 := by omega
         have b1 : (kk : Int) + 1 ≤ (n : Int) := by omega
         have b2 : (kk : Int) + 1 ≤ (gc : Int) := by omega
         have b4 : (kk : Int) + 1 ≤ (wc : Int) := by omega
         have b5 : (kk : Int) ≤ (n : Int) := by omega
         have b6 : (kk : Int) ≤ (gc : Int) := by omega
         have b8 : (kk : Int) ≤ (wc : Int) := by omega
         have n1' : kk ≤ n := by omega
         have n2' : kk ≤ gc := by omega
         have n4' : kk ≤ wc := by omega
         have n5' : kk + 1 ≤ n := by omega
         have n6' : kk + 1 ≤ gc := by omega
         have n8' : kk + 1 ≤ wc := by omega
         have hw1 : IntKind.i64.wrap ((kk : Int) + 1) = (kk : Int) + 1 := by have := HIN.out; rw [IntKind.wrap_i64]; omega
         have hw2 : wrap64 ((kk : Int) + 1) = (kk : Int) + 1 := by have := HIN.out; exact IntWalk.wrap64_in _ (by omega)
         have HEND : Hid (∀ (v' u' : Value) (u : World), Below w7.heap.size w7 u → Two u w7.heap.size v' (([] ++ (gens.take kk)) ++ (gens.drop (kk + 1))) u' (([] ++ (ws.take kk)) ++ (ws.drop (kk + 1))) → QnH w u p s P pm (n - 1) v' u') := Hq fun v' u' u hb ht => by
          rw [List.nil_append, List.nil_append, ← List.eraseIdx_eq_take_drop_succ, ← List.eraseIdx_eq_take_drop_succ] at ht
          have hv := HV.out.gone HYG.out
          have hmp : (ws.map byI).eraseIdx kk = (ws.eraseIdx kk).map byI := by simp only [List.eraseIdx_eq_take_drop_succ, List.map_append, List.map_take, List.map_drop]
          rw [hmp] at hv
          exact ⟨Y, _, _, _, _, _, ⟨HG7.out.below hb, HT7.out.low hb, HM7.out.low hb, HB7.out.trans (hb.mono HB7.out.size), HM.out.hs, HM.out.hp, ht.mono HB7.out.size⟩, HY.out, hv, by rw [List.length_eraseIdx, if_pos (by rw [HGL.out]; exact hkk), HGL.out]⟩
         have HMS : Hid (∀ (v' u' : Value) (u : World), Two u w7.heap.size v' (([] ++ (gens.take kk)) ++ (gens.drop (kk + 1))) u' (([] ++ (ws.take kk)) ++ (ws.drop (kk + 1))) → lenV v' < n) := Hq fun v' u' u ht => by
          rw [ht.len]
          exact two_less gens HGL.out hkk
         have HQ4 : Hid (([] : List Int).length + (gens.take kk).length ≤ 1000000000) := Hq (two_few gens HGL.out (by have := HIN.out; omega)).1
         have HQ9 : Hid (([] ++ (gens.take kk)).length + (gens.drop (kk + 1)).length ≤ 1000000000) := Hq (two_few gens HGL.out (by have := HIN.out; omega)).2
         have HQ14 : Hid (([] : List Int).length + (ws.take kk).length ≤ 1000000000) := Hq (two_few ws HWL.out (by have := HIN.out; omega)).1
         have HQ19 : Hid (([] ++ (ws.take kk)).length + (ws.drop (kk + 1)).length ≤ 1000000000) := Hq (two_few ws HWL.out (by have := HIN.out; omega)).2
         clear htw hca hcb hl1 hl2
         go_wp2_with fail
         refine wp_region_held_drew (S := fun w' => w7.heap.size ≤ w'.heap.size) (by kernel_rfl) (Nat.le_refl _) (fun hHeld => ?_)
         refine wpAnyH_take (i := 1) (v := ?_) rfl (by kernel_rfl) (by kernel_rfl) (by kernel_rfl) (fun _ _ _ h => h) (Or.inl ⟨by rfl, ?_⟩) (by assumption) ?_
         rotate_left
         ·
          intro w hSw; (try dsimp only at hSw); go_simp; try with_reducible rfl
         simp only [Act.put, zA, zB, zC, zD, zE, zF]
         refine wpAnyH_take (i := 2) (v := ?_) rfl (by kernel_rfl) (by kernel_rfl) (by kernel_rfl) (fun _ _ _ h => h) (Or.inl ⟨by rfl, ?_⟩) (by assumption) ?_
         rotate_left
         ·
          intro w hSw; (try dsimp only at hSw); go_simp; try with_reducible rfl
         simp only [Act.put, zA, zB, zC, zD, zE, zF]
         refine wpAnyH_take (i := 3) (v := ?_) rfl (by kernel_rfl) (by kernel_rfl) (by kernel_rfl) (fun _ _ _ h => h) (Or.inl ⟨by rfl, ?_⟩) (by assumption) ?_
         rotate_left
         ·
          intro w hSw; (try dsimp only at hSw); go_simp; try with_reducible rfl
         simp only [Act.put, zA, zB, zC, zD, zE, zF]
         refine wpAnyH_take (i := 5) (v := ?_) rfl (by kernel_rfl) (by kernel_rfl) (by kernel_rfl) (fun _ _ _ h => h) (Or.inl ⟨by rfl, ?_⟩) (by assumption) ?_
         rotate_left
         ·
          intro w hSw; (try dsimp only at hSw); go_simp; try with_reducible rfl
         simp only [Act.put, zA, zB, zC, zD, zE, zF]
         refine wpAnyH_take (i := 6) (v := ?_) rfl (by kernel_rfl) (by kernel_rfl) (by kernel_rfl) (fun _ _ _ h => h) (Or.inl ⟨by rfl, ?_⟩) (by assumption) ?_
         rotate_left
         ·
          intro w hSw; (try dsimp only at hSw); go_simp; try with_reducible rfl
         simp only [Act.put, zA, zB, zC, zD, zE, zF]
         refine wpAnyH_take (i := 7) (v := ?_) rfl (by kernel_rfl) (by kernel_rfl) (by kernel_rfl) (fun _ _ _ h => h) (Or.inl ⟨by rfl, ?_⟩) (by assumption) ?_
         rotate_left
         ·
          intro w hSw; (try dsimp only at hSw); go_simp; try with_reducible rfl
         simp only [Act.put, zA, zB, zC, zD, zE, zF]
         refine wpAnyH_take (i := 8) (v := ?_) rfl (by kernel_rfl) (by kernel_rfl) (by kernel_rfl) (fun _ _ _ h => h) (Or.inl ⟨by rfl, ?_⟩) (by assumption) ?_
         rotate_left
         ·
          intro w hSw; (try dsimp only at hSw); go_simp; try with_reducible rfl
         simp only [Act.put, zA, zB, zC, zD, zE, zF]
         refine wpAnyH_take (i := 11) (v := ?_) rfl (by kernel_rfl) (by kernel_rfl) (by kernel_rfl) (fun _ _ _ h => h) (Or.inl ⟨by rfl, ?_⟩) (by assumption) ?_
         rotate_left
         ·
          intro w hSw; (try dsimp only at hSw); go_simp; try with_reducible rfl
         simp only [Act.put, zA, zB, zC, zD, zE, zF]
         refine wpAnyH_take (i := 12) (v := ?_) rfl (by kernel_rfl) (by kernel_rfl) (by kernel_rfl) (fun _ _ _ h => h) (Or.inl ⟨by rfl, ?_⟩) (by assumption) ?_
         rotate_left
         ·
          intro w hSw; (try dsimp only at hSw); go_simp; try with_reducible rfl
         simp only [Act.put, zA, zB, zC, zD, zE, zF]
         refine wpAnyH_take (i := 13) (v := ?_) rfl (by kernel_rfl) (by kernel_rfl) (by kernel_rfl) (fun _ _ _ h => h) (Or.inl ⟨by rfl, ?_⟩) (by assumption) ?_
         rotate_left
         ·
          intro w hSw; (try dsimp only at hSw); go_simp; try with_reducible rfl
         simp only [Act.put, zA, zB, zC, zD, zE, zF]
         refine wpAnyH_take (i := 15) (v := ?_) rfl (by kernel_rfl) (by kernel_rfl) (by kernel_rfl) (fun _ _ _ h => h) (Or.inl ⟨by rfl, ?_⟩) (by assumption) ?_
         rotate_left
         ·
          intro w hSw; (try dsimp only at hSw); go_simp; try with_reducible rfl
         simp only [Act.put, zA, zB, zC, zD, zE, zF]
         refine wpAnyH_take (i := 16) (v := ?_) rfl (by kernel_rfl) (by kernel_rfl) (by kernel_rfl) (fun _ _ _ h => h) (Or.inl ⟨by rfl, ?_⟩) (by assumption) ?_
         rotate_left
         ·
          intro w hSw; (try dsimp only at hSw); go_simp; try with_reducible rfl
         simp only [Act.put, zA, zB, zC, zD, zE, zF]
         refine wpAnyH_take (i := 17) (v := ?_) rfl (by kernel_rfl) (by kernel_rfl) (by kernel_rfl) (fun _ _ _ h => h) (Or.inl ⟨by rfl, ?_⟩) (by assumption) ?_
         rotate_left
         ·
          intro w hSw; (try dsimp only at hSw); go_simp; try with_reducible rfl
         simp only [Act.put, zA, zB, zC, zD, zE, zF]
         refine wpAnyH_take (i := 18) (v := ?_) rfl (by kernel_rfl) (by kernel_rfl) (by kernel_rfl) (fun _ _ _ h => h) (Or.inl ⟨by rfl, ?_⟩) (by assumption) ?_
         rotate_left
         ·
          intro w hSw; (try dsimp only at hSw); go_simp; try with_reducible rfl
         simp only [Act.put, zA, zB, zC, zD, zE, zF]
         obtain ⟨y_0, hu0⟩ : ∃ y_0, y_0 = w7.drew := ⟨_, rfl⟩
         have HB0 : Hid (Below w7.heap.size w7 y_0) := Hq (by rw [hu0]; exact Below.drew (Below.refl _ _))
         have HW0 : Hid (Two y_0 w7.heap.size (.slice none 0 0) [] (.slice none 0 0) []) := Hq Two.nil
         rw [← hu0] at hHeld ⊢
         clear hu0
         refine wpAnyH_ready (rs := [0, 10]) (by kernel_rfl) (by simp) ?_
         refine AllReadyH.cons rfl (fun K hK => ?_) (AllReadyH.cons rfl (fun K hK => ?_) AllReadyH.nil)
         ·
          skip
          go_simp
          try dsimp only
          obtain ⟨y_22, hu22⟩ : ∃ y_22, y_22 = y_0.alloc (.cells #[] 3) := ⟨_, rfl⟩
          obtain ⟨b22, hb22⟩ : ∃ b22, b22 = y_0.heap.size := ⟨_, rfl⟩
          have HB22 : Hid (Below w7.heap.size w7 y_22) := Hq (by rw [hu22]; exact HB0.out.alloc HB0.out.size _)
          have HW22 : Hid (Two y_22 w7.heap.size (.slice (some ⟨b22, 0, none⟩) 0 0) [] (.slice none 0 0) []) := Hq (by rw [hu22, hb22]; exact HW0.out.make HB0.out.size)
          rw [← hu22, ← hb22]
          clear hu22 hb22
          refine hK.out _ _ HB22.out.size (fun hHeld => ?_)
          clear hK K
          try simp only [Act.put, zA, zB, zC, zD, zE, zF]
          refine wpAnyH_ready (rs := [4, 10]) (by kernel_rfl) (by simp) ?_
          refine AllReadyH.cons rfl (fun K hK => ?_) (AllReadyH.cons rfl (fun K hK => ?_) AllReadyH.nil)
          ·
           skip
           refine step_two rfl (.tmp 159) (.tmp 162) rfl rfl (HW22.out) rfl ⟨_, HS1.out.stay (Stay.below HB22.out)⟩ HQ4.out HB22.out.size ?_
           intro v23 y_23 ho hg
           have HB23 : Hid (Below w7.heap.size w7 y_23) := Hq (HB22.out.grown hg HB22.out.size fun k hk => (World.ownsRow.lt (HW22.out).a k hk).1)
           have HW23 := Hq ho
           clear ho hg
           refine hK.out _ _ HB23.out.size (fun hHeld => ?_)
           clear hK K
           try simp only [Act.put, zA, zB, zC, zD, zE, zF]
           refine wpAnyH_ready (rs := [9, 10]) (by kernel_rfl) (by simp) ?_
           refine AllReadyH.cons rfl (fun K hK => ?_) (AllReadyH.cons rfl (fun K hK => ?_) AllReadyH.nil)
           ·
            skip
            refine step_two rfl (.tmp 163) (.tmp 167) rfl rfl (HW23.out) rfl ⟨_, HS2.out.stay (Stay.below HB23.out)⟩ HQ9.out HB23.out.size ?_
            intro v24 y_24 ho hg
            have HB24 : Hid (Below w7.heap.size w7 y_24) := Hq (HB23.out.grown hg HB23.out.size fun k hk => (World.ownsRow.lt (HW23.out).a k hk).1)
            have HW24 := Hq ho
            clear ho hg
            refine hK.out _ _ HB24.out.size (fun hHeld => ?_)
            clear hK K
            try simp only [Act.put, zA, zB, zC, zD, zE, zF]
            refine wpAnyH_ready (rs := [10]) (by kernel_rfl) (by simp) ?_
            refine AllReadyH.cons rfl (fun K hK => ?_) AllReadyH.nil
            ·
             skip
             go_simp
             try dsimp only
             obtain ⟨y_25, hu25⟩ : ∃ y_25, y_25 = y_24.alloc (.cells #[] 3) := ⟨_, rfl⟩
             obtain ⟨b25, hb25⟩ : ∃ b25, b25 = y_24.heap.size := ⟨_, rfl⟩
             have HB25 : Hid (Below w7.heap.size w7 y_25) := Hq (by rw [hu25]; exact HB24.out.alloc HB24.out.size _)
             have HW25 : Hid (Two y_25 w7.heap.size v24 (([] ++ (gens.take kk)) ++ (gens.drop (kk + 1))) (.slice (some ⟨b25, 0, none⟩) 0 0) []) := Hq (by rw [hu25, hb25]; exact (HW24.out.symm.make HB24.out.size).symm)
             rw [← hu25, ← hb25]
             clear hu25 hb25
             refine hK.out _ _ HB25.out.size (fun hHeld => ?_)
             clear hK K
             try simp only [Act.put, zA, zB, zC, zD, zE, zF]
             refine wpAnyH_ready (rs := [14]) (by kernel_rfl) (by simp) ?_
             refine AllReadyH.cons rfl (fun K hK => ?_) AllReadyH.nil
             ·
              skip
              refine step_two rfl (.tmp 169) (.tmp 172) rfl rfl (HW25.out.symm) rfl ⟨_, HS3.out.stay (Stay.below HB25.out)⟩ HQ14.out HB25.out.size ?_
              intro v26 y_26 ho hg
              have HB26 : Hid (Below w7.heap.size w7 y_26) := Hq (HB25.out.grown hg HB25.out.size fun k hk => (World.ownsRow.lt (HW25.out.symm).a k hk).1)
              have HW26 := Hq ho.symm
              clear ho hg
              refine hK.out _ _ HB26.out.size (fun hHeld => ?_)
              clear hK K
              try simp only [Act.put, zA, zB, zC, zD, zE, zF]
              refine wpAnyH_ready (rs := [19]) (by kernel_rfl) (by simp) ?_
              refine AllReadyH.cons rfl (fun K hK => ?_) AllReadyH.nil
              ·
               skip
               refine step_two rfl (.tmp 173) (.tmp 177) rfl rfl (HW26.out.symm) rfl ⟨_, HS4.out.stay (Stay.below HB26.out)⟩ HQ19.out HB26.out.size ?_
               intro v27 y_27 ho hg
               have HB27 : Hid (Below w7.heap.size w7 y_27) := Hq (HB26.out.grown hg HB26.out.size fun k hk => (World.ownsRow.lt (HW26.out.symm).a k hk).1)
               have HW27 := Hq ho.symm
               clear ho hg
               refine hK.out _ _ HB27.out.size (fun hHeld => ?_)
               clear hK K
               try simp only [Act.put, zA, zB, zC, zD, zE, zF]
               refine wpAnyH_take (i := 20) (v := ?_) rfl (by kernel_rfl) (by kernel_rfl) (by kernel_rfl) (fun _ _ _ h => h) (Or.inl ⟨by rfl, ?_⟩) (by assumption) ?_
               rotate_left
               ·
                intro w hSw; (try dsimp only at hSw); go_simp; try with_reducible rfl
               simp only [Act.put, zA, zB, zC, zD, zE, zF]
               refine wpAnyH_take (i := 21) (v := ?_) rfl (by kernel_rfl) (by kernel_rfl) (by kernel_rfl) (fun _ _ _ h => h) (Or.inl ⟨by rfl, ?_⟩) (by assumption) ?_
               rotate_left
               ·
                intro w hSw; (try dsimp only at hSw); go_simp; try with_reducible rfl
               simp only [Act.put, zA, zB, zC, zD, zE, zF]
               refine wpAnyH_done (by kernel_rfl) ?_ _
               clear hHeld
               go_wp2
               go_roundw
               case rel => exact ⟨n - 1, ii + 1, by go_num, by have := HIN.out; omega, HEND.out _ _ _ HB27.out HW27.out⟩
               case measure => have := HMS.out _ _ _ HW27.out; simpa [lenV] using this
           ·
            skip
            go_simp
            try dsimp only
            obtain ⟨y_28, hu28⟩ : ∃ y_28, y_28 = y_23.alloc (.cells #[] 3) := ⟨_, rfl⟩
            obtain ⟨b28, hb28⟩ : ∃ b28, b28 = y_23.heap.size := ⟨_, rfl⟩
            have HB28 : Hid (Below w7.heap.size w7 y_28) := Hq (by rw [hu28]; exact HB23.out.alloc HB23.out.size _)
            have HW28 : Hid (Two y_28 w7.heap.size v23 ([] ++ (gens.take kk)) (.slice (some ⟨b28, 0, none⟩) 0 0) []) := Hq (by rw [hu28, hb28]; exact (HW23.out.symm.make HB23.out.size).symm)
            rw [← hu28, ← hb28]
            clear hu28 hb28
            refine hK.out _ _ HB28.out.size (fun hHeld => ?_)
            clear hK K
            try simp only [Act.put, zA, zB, zC, zD, zE, zF]
            refine wpAnyH_ready (rs := [9]) (by kernel_rfl) (by simp) ?_
            refine AllReadyH.cons rfl (fun K hK => ?_) AllReadyH.nil
            ·
             skip
             refine step_two rfl (.tmp 163) (.tmp 167) rfl rfl (HW28.out) rfl ⟨_, HS2.out.stay (Stay.below HB28.out)⟩ HQ9.out HB28.out.size ?_
             intro v29 y_29 ho hg
             have HB29 : Hid (Below w7.heap.size w7 y_29) := Hq (HB28.out.grown hg HB28.out.size fun k hk => (World.ownsRow.lt (HW28.out).a k hk).1)
             have HW29 := Hq ho
             clear ho hg
             refine hK.out _ _ HB29.out.size (fun hHeld => ?_)
             clear hK K
             try simp only [Act.put, zA, zB, zC, zD, zE, zF]
             refine wpAnyH_ready (rs := [14]) (by kernel_rfl) (by simp) ?_
             refine AllReadyH.cons rfl (fun K hK => ?_) AllReadyH.nil
             ·
              skip
              refine step_two rfl (.tmp 169) (.tmp 172) rfl rfl (HW29.out.symm) rfl ⟨_, HS3.out.stay (Stay.below HB29.out)⟩ HQ14.out HB29.out.size ?_
              intro v30 y_30 ho hg
              have HB30 : Hid (Below w7.heap.size w7 y_30) := Hq (HB29.out.grown hg HB29.out.size fun k hk => (World.ownsRow.lt (HW29.out.symm).a k hk).1)
              have HW30 := Hq ho.symm
              clear ho hg
              refine hK.out _ _ HB30.out.size (fun hHeld => ?_)
              clear hK K
              try simp only [Act.put, zA, zB, zC, zD, zE, zF]
              refine wpAnyH_ready (rs := [19]) (by kernel_rfl) (by simp) ?_
              refine AllReadyH.cons rfl (fun K hK => ?_) AllReadyH.nil
              ·
               skip
               refine step_two rfl (.tmp 173) (.tmp 177) rfl rfl (HW30.out.symm) rfl ⟨_, HS4.out.stay (Stay.below HB30.out)⟩ HQ19.out HB30.out.size ?_
               intro v31 y_31 ho hg
               have HB31 : Hid (Below w7.heap.size w7 y_31) := Hq (HB30.out.grown hg HB30.out.size fun k hk => (World.ownsRow.lt (HW30.out.symm).a k hk).1)
               have HW31 := Hq ho.symm
               clear ho hg
               refine hK.out _ _ HB31.out.size (fun hHeld => ?_)
               clear hK K
               try simp only [Act.put, zA, zB, zC, zD, zE, zF]
               refine wpAnyH_take (i := 20) (v := ?_) rfl (by kernel_rfl) (by kernel_rfl) (by kernel_rfl) (fun _ _ _ h => h) (Or.inl ⟨by rfl, ?_⟩) (by assumption) ?_
               rotate_left
               ·
                intro w hSw; (try dsimp only at hSw); go_simp; try with_reducible rfl
               simp only [Act.put, zA, zB, zC, zD, zE, zF]
               refine wpAnyH_take (i := 21) (v := ?_) rfl (by kernel_rfl) (by kernel_rfl) (by kernel_rfl) (fun _ _ _ h => h) (Or.inl ⟨by rfl, ?_⟩) (by assumption) ?_
               rotate_left
               ·
                intro w hSw; (try dsimp only at hSw); go_simp; try with_reducible rfl
               simp only [Act.put, zA, zB, zC, zD, zE, zF]
               refine wpAnyH_done (by kernel_rfl) ?_ _
               clear hHeld
               go_wp2
               go_roundw
               case rel => exact ⟨n - 1, ii + 1, by go_num, by have := HIN.out; omega, HEND.out _ _ _ HB31.out HW31.out⟩
               case measure => have := HMS.out _ _ _ HW31.out; simpa [lenV] using this
          ·
           skip
           go_simp
           try dsimp only
           obtain ⟨y_32, hu32⟩ : ∃ y_32, y_32 = y_22.alloc (.cells #[] 3) := ⟨_, rfl⟩
           obtain ⟨b32, hb32⟩ : ∃ b32, b32 = y_22.heap.size := ⟨_, rfl⟩
           have HB32 : Hid (Below w7.heap.size w7 y_32) := Hq (by rw [hu32]; exact HB22.out.alloc HB22.out.size _)
           have HW32 : Hid (Two y_32 w7.heap.size (.slice (some ⟨b22, 0, none⟩) 0 0) [] (.slice (some ⟨b32, 0, none⟩) 0 0) []) := Hq (by rw [hu32, hb32]; exact (HW22.out.symm.make HB22.out.size).symm)
           rw [← hu32, ← hb32]
           clear hu32 hb32
           refine hK.out _ _ HB32.out.size (fun hHeld => ?_)
           clear hK K
           try simp only [Act.put, zA, zB, zC, zD, zE, zF]
           refine wpAnyH_ready (rs := [4]) (by kernel_rfl) (by simp) ?_
           refine AllReadyH.cons rfl (fun K hK => ?_) AllReadyH.nil
           ·
            skip
            refine step_two rfl (.tmp 159) (.tmp 162) rfl rfl (HW32.out) rfl ⟨_, HS1.out.stay (Stay.below HB32.out)⟩ HQ4.out HB32.out.size ?_
            intro v33 y_33 ho hg
            have HB33 : Hid (Below w7.heap.size w7 y_33) := Hq (HB32.out.grown hg HB32.out.size fun k hk => (World.ownsRow.lt (HW32.out).a k hk).1)
            have HW33 := Hq ho
            clear ho hg
            refine hK.out _ _ HB33.out.size (fun hHeld => ?_)
            clear hK K
            try simp only [Act.put, zA, zB, zC, zD, zE, zF]
            refine wpAnyH_ready (rs := [9]) (by kernel_rfl) (by simp) ?_
            refine AllReadyH.cons rfl (fun K hK => ?_) AllReadyH.nil
            ·
             skip
             refine step_two rfl (.tmp 163) (.tmp 167) rfl rfl (HW33.out) rfl ⟨_, HS2.out.stay (Stay.below HB33.out)⟩ HQ9.out HB33.out.size ?_
             intro v34 y_34 ho hg
             have HB34 : Hid (Below w7.heap.size w7 y_34) := Hq (HB33.out.grown hg HB33.out.size fun k hk => (World.ownsRow.lt (HW33.out).a k hk).1)
             have HW34 := Hq ho
             clear ho hg
             refine hK.out _ _ HB34.out.size (fun hHeld => ?_)
             clear hK K
             try simp only [Act.put, zA, zB, zC, zD, zE, zF]
             refine wpAnyH_ready (rs := [14]) (by kernel_rfl) (by simp) ?_
             refine AllReadyH.cons rfl (fun K hK => ?_) AllReadyH.nil
             ·
              skip
              refine step_two rfl (.tmp 169) (.tmp 172) rfl rfl (HW34.out.symm) rfl ⟨_, HS3.out.stay (Stay.below HB34.out)⟩ HQ14.out HB34.out.size ?_
              intro v35 y_35 ho hg
              have HB35 : Hid (Below w7.heap.size w7 y_35) := Hq (HB34.out.grown hg HB34.out.size fun k hk => (World.ownsRow.lt (HW34.out.symm).a k hk).1)
              have HW35 := Hq ho.symm
              clear ho hg
              refine hK.out _ _ HB35.out.size (fun hHeld => ?_)
              clear hK K
              try simp only [Act.put, zA, zB, zC, zD, zE, zF]
              refine wpAnyH_ready (rs := [19]) (by kernel_rfl) (by simp) ?_
              refine AllReadyH.cons rfl (fun K hK => ?_) AllReadyH.nil
              ·
               skip
               refine step_two rfl (.tmp 173) (.tmp 177) rfl rfl (HW35.out.symm) rfl ⟨_, HS4.out.stay (Stay.below HB35.out)⟩ HQ19.out HB35.out.size ?_
               intro v36 y_36 ho hg
               have HB36 : Hid (Below w7.heap.size w7 y_36) := Hq (HB35.out.grown hg HB35.out.size fun k hk => (World.ownsRow.lt (HW35.out.symm).a k hk).1)
               have HW36 := Hq ho.symm
               clear ho hg
               refine hK.out _ _ HB36.out.size (fun hHeld => ?_)
               clear hK K
               try simp only [Act.put, zA, zB, zC, zD, zE, zF]
               refine wpAnyH_take (i := 20) (v := ?_) rfl (by kernel_rfl) (by kernel_rfl) (by kernel_rfl) (fun _ _ _ h => h) (Or.inl ⟨by rfl, ?_⟩) (by assumption) ?_
               rotate_left
               ·
                intro w hSw; (try dsimp only at hSw); go_simp; try with_reducible rfl
               simp only [Act.put, zA, zB, zC, zD, zE, zF]
               refine wpAnyH_take (i := 21) (v := ?_) rfl (by kernel_rfl) (by kernel_rfl) (by kernel_rfl) (fun _ _ _ h => h) (Or.inl ⟨by rfl, ?_⟩) (by assumption) ?_
               rotate_left
               ·
                intro w hSw; (try dsimp only at hSw); go_simp; try with_reducible rfl
               simp only [Act.put, zA, zB, zC, zD, zE, zF]
               refine wpAnyH_done (by kernel_rfl) ?_ _
               clear hHeld
               go_wp2
               go_roundw
               case rel => exact ⟨n - 1, ii + 1, by go_num, by have := HIN.out; omega, HEND.out _ _ _ HB36.out HW36.out⟩
               case measure => have := HMS.out _ _ _ HW36.out; simpa [lenV] using this
         ·
          skip
          go_simp
          try dsimp only
          obtain ⟨y_37, hu37⟩ : ∃ y_37, y_37 = y_0.alloc (.cells #[] 3) := ⟨_, rfl⟩
          obtain ⟨b37, hb37⟩ : ∃ b37, b37 = y_0.heap.size := ⟨_, rfl⟩
          have HB37 : Hid (Below w7.heap.size w7 y_37) := Hq (by rw [hu37]; exact HB0.out.alloc HB0.out.size _)
          have HW37 : Hid (Two y_37 w7.heap.size (.slice none 0 0) [] (.slice (some ⟨b37, 0, none⟩) 0 0) []) := Hq (by rw [hu37, hb37]; exact (HW0.out.symm.make HB0.out.size).symm)
          rw [← hu37, ← hb37]
          clear hu37 hb37
          refine hK.out _ _ HB37.out.size (fun hHeld => ?_)
          clear hK K
          try simp only [Act.put, zA, zB, zC, zD, zE, zF]
          refine wpAnyH_ready (rs := [0]) (by kernel_rfl) (by simp) ?_
          refine AllReadyH.cons rfl (fun K hK => ?_) AllReadyH.nil
          ·
           skip
           go_simp
           try dsimp only
           obtain ⟨y_38, hu38⟩ : ∃ y_38, y_38 = y_37.alloc (.cells #[] 3) := ⟨_, rfl⟩
           obtain ⟨b38, hb38⟩ : ∃ b38, b38 = y_37.heap.size := ⟨_, rfl⟩
           have HB38 : Hid (Below w7.heap.size w7 y_38) := Hq (by rw [hu38]; exact HB37.out.alloc HB37.out.size _)
           have HW38 : Hid (Two y_38 w7.heap.size (.slice (some ⟨b38, 0, none⟩) 0 0) [] (.slice (some ⟨b37, 0, none⟩) 0 0) []) := Hq (by rw [hu38, hb38]; exact HW37.out.make HB37.out.size)
           rw [← hu38, ← hb38]
           clear hu38 hb38
           refine hK.out _ _ HB38.out.size (fun hHeld => ?_)
           clear hK K
           try simp only [Act.put, zA, zB, zC, zD, zE, zF]
           refine wpAnyH_ready (rs := [4]) (by kernel_rfl) (by simp) ?_
           refine AllReadyH.cons rfl (fun K hK => ?_) AllReadyH.nil
           ·
            skip
            refine step_two rfl (.tmp 159) (.tmp 162) rfl rfl (HW38.out) rfl ⟨_, HS1.out.stay (Stay.below HB38.out)⟩ HQ4.out HB38.out.size ?_
            intro v39 y_39 ho hg
            have HB39 : Hid (Below w7.heap.size w7 y_39) := Hq (HB38.out.grown hg HB38.out.size fun k hk => (World.ownsRow.lt (HW38.out).a k hk).1)
            have HW39 := Hq ho
            clear ho hg
            refine hK.out _ _ HB39.out.size (fun hHeld => ?_)
            clear hK K
            try simp only [Act.put, zA, zB, zC, zD, zE, zF]
            refine wpAnyH_ready (rs := [9]) (by kernel_rfl) (by simp) ?_
            refine AllReadyH.cons rfl (fun K hK => ?_) AllReadyH.nil
            ·
             skip
             refine step_two rfl (.tmp 163) (.tmp 167) rfl rfl (HW39.out) rfl ⟨_, HS2.out.stay (Stay.below HB39.out)⟩ HQ9.out HB39.out.size ?_
             intro v40 y_40 ho hg
             have HB40 : Hid (Below w7.heap.size w7 y_40) := Hq (HB39.out.grown hg HB39.out.size fun k hk => (World.ownsRow.lt (HW39.out).a k hk).1)
             have HW40 := Hq ho
             clear ho hg
             refine hK.out _ _ HB40.out.size (fun hHeld => ?_)
             clear hK K
             try simp only [Act.put, zA, zB, zC, zD, zE, zF]
             refine wpAnyH_ready (rs := [14]) (by kernel_rfl) (by simp) ?_
             refine AllReadyH.cons rfl (fun K hK => ?_) AllReadyH.nil
             ·
              skip
              refine step_two rfl (.tmp 169) (.tmp 172) rfl rfl (HW40.out.symm) rfl ⟨_, HS3.out.stay (Stay.below HB40.out)⟩ HQ14.out HB40.out.size ?_
              intro v41 y_41 ho hg
              have HB41 : Hid (Below w7.heap.size w7 y_41) := Hq (HB40.out.grown hg HB40.out.size fun k hk => (World.ownsRow.lt (HW40.out.symm).a k hk).1)
              have HW41 := Hq ho.symm
              clear ho hg
              refine hK.out _ _ HB41.out.size (fun hHeld => ?_)
              clear hK K
              try simp only [Act.put, zA, zB, zC, zD, zE, zF]
              refine wpAnyH_ready (rs := [19]) (by kernel_rfl) (by simp) ?_
              refine AllReadyH.cons rfl (fun K hK => ?_) AllReadyH.nil
              ·
               skip
               refine step_two rfl (.tmp 173) (.tmp 177) rfl rfl (HW41.out.symm) rfl ⟨_, HS4.out.stay (Stay.below HB41.out)⟩ HQ19.out HB41.out.size ?_
               intro v42 y_42 ho hg
               have HB42 : Hid (Below w7.heap.size w7 y_42) := Hq (HB41.out.grown hg HB41.out.size fun k hk => (World.ownsRow.lt (HW41.out.symm).a k hk).1)
               have HW42 := Hq ho.symm
               clear ho hg
               refine hK.out _ _ HB42.out.size (fun hHeld => ?_)
               clear hK K
               try simp only [Act.put, zA, zB, zC, zD, zE, zF]
               refine wpAnyH_take (i := 20) (v := ?_) rfl (by kernel_rfl) (by kernel_rfl) (by kernel_rfl) (fun _ _ _ h => h) (Or.inl ⟨by rfl, ?_⟩) (by assumption) ?_
               rotate_left
               ·
                intro w hSw; (try dsimp only at hSw); go_simp; try with_reducible rfl
               simp only [Act.put, zA, zB, zC, zD, zE, zF]
               refine wpAnyH_take (i := 21) (v := ?_) rfl (by kernel_rfl) (by kernel_rfl) (by kernel_rfl) (fun _ _ _ h => h) (Or.inl ⟨by rfl, ?_⟩) (by assumption) ?_
               rotate_left
               ·
                intro w hSw; (try dsimp only at hSw); go_simp; try with_reducible rfl
               simp only [Act.put, zA, zB, zC, zD, zE, zF]
               refine wpAnyH_done (by kernel_rfl) ?_ _
               clear hHeld
               go_wp2
               go_roundw
               case rel => exact ⟨n - 1, ii + 1, by go_num, by have := HIN.out; omega, HEND.out _ _ _ HB42.out HW42.out⟩
               case measure => have := HMS.out _ _ _ HW42.out; simpa [lenV] using this
        ·
         obtain ⟨kk, hk0⟩ : ∃ kk : Nat, kk = 0 := ⟨0, rfl⟩
         have hkk : kk < n := by omega
         have j0 : (0 : Int) ≤ (ii : Int) := by omega
         have j1 : ¬ (ii : Int) < (m1 : Int) := by omega
         have j2 : ii ≤ 20 := by have := HIN.out; omega
         obtain ⟨y, hy⟩ : ∃ y, gens[kk]? = some y := ⟨_, List.getElem?_eq_getElem (by have := HGL.out; omega)⟩
         obtain ⟨z, hz⟩ : ∃ z, ws[kk]? = some z := ⟨_, List.getElem?_eq_getElem (by have := HWL.out; omega)⟩
         have g0 := HGC.out _ HB.out kk y hy
         rw [hk0] at g0
         have k0 : (0 : Int) ≤ (kk : Int) := by omega
         have k1 : (kk : Int) < (n : Int) := by omega
         obtain ⟨Y, hY, hun⟩ := HX.out.unpin hy
         obtain ⟨lx, bx, hpx, hbx, hfx⟩ := HV.out.at_ kk y hy
         have HRL := Hq (txRelease_one (HM.out.t.low HB.out) (HM.out.m.low HB.out) (HM.out.g.below HB.out) HM.out.hp hfx (fun w1 _ hg1 => hun w1 _ P p hg1))
         have HY := Hq hY
         have HYG := Hq hy
         have HZW := Hq hz
         clear hY hun hpx hbx hfx hy hz
         go_wp2_with fail
         refine HRL.out.mono ?_; rintro e w7 ⟨rfl, ht7, hm7, hg7, hb7, hk7⟩
         rw [show Value.int .i64 0 = Value.int .i64 (kk : Int) by rw [hk0]; rfl]
         have z1 : ((kk : Int) == 0) = true := by rw [hk0]; rfl
         have z2 : ((kk : Int) != 0) = false := by rw [hk0]; rfl
         have HK0 := Hq hk0
         clear hk0
         have HT7 := Hq ht7
         have HM7 := Hq hm7
         have HG7 := Hq hg7
         have HB7 := Hq ((HM.out.bl.trans (HB.out.mono HM.out.bl.size)).trans hb7)
         have HTW7 := Hq ((HM.out.two.low HB.out).keepsQ hk7 (HM.out.m.low HB.out).tp)
         clear ht7 hm7 hg7 hb7 hk7 HRL g0
         have htw := HTW7.out
         rw [HGL.out, HWL.out] at htw
         have hca := own_block HM.out.two.a
         have hcb := own_block HM.out.two.b
         rw [HGL.out] at hca
         rw [HWL.out] at hcb
         obtain ⟨A1, hA1, hl1⟩ := lie_tail htw.a HGL.out.symm (k := kk) (by omega)
         obtain ⟨A2, hA2, hl2⟩ := lie_tail htw.b HWL.out.symm (k := kk) (by omega)
         have HS1 := Hq (lie_head htw.a HGL.out.symm (k := kk) (by omega))
         have HS2 := Hq hl1
         have HS3 := Hq (lie_head htw.b HWL.out.symm (k := kk) (by omega))
         have HS4 := Hq hl2
         have b0 : (0 : Int) ≤ (kk : Int) + 1 := by omega
         have b1 : (kk : Int) + 1 ≤ (n : Int) := by omega
         have b2 : (kk : Int) + 1 ≤ (gc : Int) := by omega
         have b4 : (kk : Int) + 1 ≤ (wc : Int) := by omega
         have b5 : (kk : Int) ≤ (n : Int) := by omega
         have b6 : (kk : Int) ≤ (gc : Int) := by omega
         have b8 : (kk : Int) ≤ (wc : Int) := by omega
         have n1' : kk ≤ n := by omega
         have n2' : kk ≤ gc := by omega
         have n4' : kk ≤ wc := by omega
         have n5' : kk + 1 ≤ n := by omega
         have n6' : kk + 1 ≤ gc := by omega
         have n8' : kk + 1 ≤ wc := by omega
         have hw1 : IntKind.i64.wrap ((kk : Int) + 1) = (kk : Int) + 1 := by have := HIN.out; rw [IntKind.wrap_i64]; omega
         have hw2 : wrap64 ((kk : Int) + 1) = (kk : Int) + 1 := by have := HIN.out; exact IntWalk.wrap64_in _ (by omega)
         have HEND : Hid (∀ (v' u' : Value) (u : World), Below w7.heap.size w7 u → Two u w7.heap.size v' (([] ++ (gens.take kk)) ++ (gens.drop (kk + 1))) u' (([] ++ (ws.take kk)) ++ (ws.drop (kk + 1))) → QnH w u p s P pm (n - 1) v' u') := Hq fun v' u' u hb ht => by
          rw [List.nil_append, List.nil_append, ← List.eraseIdx_eq_take_drop_succ, ← List.eraseIdx_eq_take_drop_succ] at ht
          have hv := HV.out.gone HYG.out
          have hmp : (ws.map byI).eraseIdx kk = (ws.eraseIdx kk).map byI := by simp only [List.eraseIdx_eq_take_drop_succ, List.map_append, List.map_take, List.map_drop]
          rw [hmp] at hv
          exact ⟨Y, _, _, _, _, _, ⟨HG7.out.below hb, HT7.out.low hb, HM7.out.low hb, HB7.out.trans (hb.mono HB7.out.size), HM.out.hs, HM.out.hp, ht.mono HB7.out.size⟩, HY.out, hv, by rw [List.length_eraseIdx, if_pos (by rw [HGL.out]; exact hkk), HGL.out]⟩
         have HMS : Hid (∀ (v' u' : Value) (u : World), Two u w7.heap.size v' (([] ++ (gens.take kk)) ++ (gens.drop (kk + 1))) u' (([] ++ (ws.take kk)) ++ (ws.drop (kk + 1))) → lenV v' < n) := Hq fun v' u' u ht => by
          rw [ht.len]
          exact two_less gens HGL.out hkk
         have HQ4 : Hid (([] : List Int).length + (gens.take kk).length ≤ 1000000000) := Hq (two_few gens HGL.out (by have := HIN.out; omega)).1
         have HQ9 : Hid (([] ++ (gens.take kk)).length + (gens.drop (kk + 1)).length ≤ 1000000000) := Hq (two_few gens HGL.out (by have := HIN.out; omega)).2
         have HQ14 : Hid (([] : List Int).length + (ws.take kk).length ≤ 1000000000) := Hq (two_few ws HWL.out (by have := HIN.out; omega)).1
         have HQ19 : Hid (([] ++ (ws.take kk)).length + (ws.drop (kk + 1)).length ≤ 1000000000) := Hq (two_few ws HWL.out (by have := HIN.out; omega)).2
         clear htw hca hcb hl1 hl2
         go_wp2_with fail
         refine wp_region_held_drew (S := fun w' => w7.heap.size ≤ w'.heap.size) (by kernel_rfl) (Nat.le_refl _) (fun hHeld => ?_)
         refine wpAnyH_take (i := 1) (v := ?_) rfl (by kernel_rfl) (by kernel_rfl) (by kernel_rfl) (fun _ _ _ h => h) (Or.inl ⟨by rfl, ?_⟩) (by assumption) ?_
         rotate_left
         ·
          intro w hSw; (try dsimp only at hSw); go_simp; try with_reducible rfl
         simp only [Act.put, zA, zB, zC, zD, zE, zF]
         refine wpAnyH_take (i := 2) (v := ?_) rfl (by kernel_rfl) (by kernel_rfl) (by kernel_rfl) (fun _ _ _ h => h) (Or.inl ⟨by rfl, ?_⟩) (by assumption) ?_
         rotate_left
         ·
          intro w hSw; (try dsimp only at hSw); go_simp; try with_reducible rfl
         simp only [Act.put, zA, zB, zC, zD, zE, zF]
         refine wpAnyH_take (i := 3) (v := ?_) rfl (by kernel_rfl) (by kernel_rfl) (by kernel_rfl) (fun _ _ _ h => h) (Or.inl ⟨by rfl, ?_⟩) (by assumption) ?_
         rotate_left
         ·
          intro w hSw; (try dsimp only at hSw); go_simp; try with_reducible rfl
         simp only [Act.put, zA, zB, zC, zD, zE, zF]
         refine wpAnyH_take (i := 5) (v := ?_) rfl (by kernel_rfl) (by kernel_rfl) (by kernel_rfl) (fun _ _ _ h => h) (Or.inl ⟨by rfl, ?_⟩) (by assumption) ?_
         rotate_left
         ·
          intro w hSw; (try dsimp only at hSw); go_simp; try with_reducible rfl
         simp only [Act.put, zA, zB, zC, zD, zE, zF]
         refine wpAnyH_take (i := 6) (v := ?_) rfl (by kernel_rfl) (by kernel_rfl) (by kernel_rfl) (fun _ _ _ h => h) (Or.inl ⟨by rfl, ?_⟩) (by assumption) ?_
         rotate_left
         ·
          intro w hSw; (try dsimp only at hSw); go_simp; try with_reducible rfl
         simp only [Act.put, zA, zB, zC, zD, zE, zF]
         refine wpAnyH_take (i := 7) (v := ?_) rfl (by kernel_rfl) (by kernel_rfl) (by kernel_rfl) (fun _ _ _ h => h) (Or.inl ⟨by rfl, ?_⟩) (by assumption) ?_
         rotate_left
         ·
          intro w hSw; (try dsimp only at hSw); go_simp; try with_reducible rfl
         simp only [Act.put, zA, zB, zC, zD, zE, zF]
         refine wpAnyH_take (i := 8) (v := ?_) rfl (by kernel_rfl) (by kernel_rfl) (by kernel_rfl) (fun _ _ _ h => h) (Or.inl ⟨by rfl, ?_⟩) (by assumption) ?_
         rotate_left
         ·
          intro w hSw; (try dsimp only at hSw); go_simp; try with_reducible rfl
         simp only [Act.put, zA, zB, zC, zD, zE, zF]
         refine wpAnyH_take (i := 11) (v := ?_) rfl (by kernel_rfl) (by kernel_rfl) (by kernel_rfl) (fun _ _ _ h => h) (Or.inl ⟨by rfl, ?_⟩) (by assumption) ?_
         rotate_left
         ·
          intro w hSw; (try dsimp only at hSw); go_simp; try with_reducible rfl
         simp only [Act.put, zA, zB, zC, zD, zE, zF]
         refine wpAnyH_take (i := 12) (v := ?_) rfl (by kernel_rfl) (by kernel_rfl) (by kernel_rfl) (fun _ _ _ h => h) (Or.inl ⟨by rfl, ?_⟩) (by assumption) ?_
         rotate_left
         ·
          intro w hSw; (try dsimp only at hSw); go_simp; try with_reducible rfl
         simp only [Act.put, zA, zB, zC, zD, zE, zF]
         refine wpAnyH_take (i := 13) (v := ?_) rfl (by kernel_rfl) (by kernel_rfl) (by kernel_rfl) (fun _ _ _ h => h) (Or.inl ⟨by rfl, ?_⟩) (by assumption) ?_
         rotate_left
         ·
          intro w hSw; (try dsimp only at hSw); go_simp; try with_reducible rfl
         simp only [Act.put, zA, zB, zC, zD, zE, zF]
         refine wpAnyH_take (i := 15) (v := ?_) rfl (by kernel_rfl) (by kernel_rfl) (by kernel_rfl) (fun _ _ _ h => h) (Or.inl ⟨by rfl, ?_⟩) (by assumption) ?_
         rotate_left
         ·
          intro w hSw; (try dsimp only at hSw); go_simp; try with_reducible rfl
         simp only [Act.put, zA, zB, zC, zD, zE, zF]
         refine wpAnyH_take (i := 16) (v := ?_) rfl (by kernel_rfl) (by kernel_rfl) (by kernel_rfl) (fun _ _ _ h => h) (Or.inl ⟨by rfl, ?_⟩) (by assumption) ?_
         rotate_left
         ·
          intro w hSw; (try dsimp only at hSw); go_simp; try with_reducible rfl
         simp only [Act.put, zA, zB, zC, zD, zE, zF]
         refine wpAnyH_take (i := 17) (v := ?_) rfl (by kernel_rfl) (by kernel_rfl) (by kernel_rfl) (fun _ _ _ h => h) (Or.inl ⟨by rfl, ?_⟩) (by assumption) ?_
         rotate_left
         ·
          intro w hSw; (try dsimp only at hSw); go_simp; try with_reducible rfl
         simp only [Act.put, zA, zB, zC, zD, zE, zF]
         refine wpAnyH_take (i := 18) (v := ?_) rfl (by kernel_rfl) (by kernel_rfl) (by kernel_rfl) (fun _ _ _ h => h) (Or.inl ⟨by rfl, ?_⟩) (by assumption) ?_
         rotate_left
         ·
          intro w hSw; (try dsimp only at hSw); go_simp; try with_reducible rfl
         simp only [Act.put, zA, zB, zC, zD, zE, zF]
         obtain ⟨y_0, hu0⟩ : ∃ y_0, y_0 = w7.drew := ⟨_, rfl⟩
         have HB0 : Hid (Below w7.heap.size w7 y_0) := Hq (by rw [hu0]; exact Below.drew (Below.refl _ _))
         have HW0 : Hid (Two y_0 w7.heap.size (.slice none 0 0) [] (.slice none 0 0) []) := Hq Two.nil
         rw [← hu0] at hHeld ⊢
         clear hu0
         refine wpAnyH_ready (rs := [0, 10]) (by kernel_rfl) (by simp) ?_
         refine AllReadyH.cons rfl (fun K hK => ?_) (AllReadyH.cons rfl (fun K hK => ?_) AllReadyH.nil)
         ·
          skip
          go_simp
          try dsimp only
          obtain ⟨y_1, hu1⟩ : ∃ y_1, y_1 = y_0.alloc (.cells #[] 3) := ⟨_, rfl⟩
          obtain ⟨b1, hb1⟩ : ∃ b1, b1 = y_0.heap.size := ⟨_, rfl⟩
          have HB1 : Hid (Below w7.heap.size w7 y_1) := Hq (by rw [hu1]; exact HB0.out.alloc HB0.out.size _)
          have HW1 : Hid (Two y_1 w7.heap.size (.slice (some ⟨b1, 0, none⟩) 0 0) [] (.slice none 0 0) []) := Hq (by rw [hu1, hb1]; exact HW0.out.make HB0.out.size)
          rw [← hu1, ← hb1]
          clear hu1 hb1
          refine hK.out _ _ HB1.out.size (fun hHeld => ?_)
          clear hK K
          try simp only [Act.put, zA, zB, zC, zD, zE, zF]
          refine wpAnyH_ready (rs := [4, 10]) (by kernel_rfl) (by simp) ?_
          refine AllReadyH.cons rfl (fun K hK => ?_) (AllReadyH.cons rfl (fun K hK => ?_) AllReadyH.nil)
          ·
           skip
           refine step_two rfl (.tmp 159) (.tmp 162) rfl rfl (HW1.out) rfl ⟨_, HS1.out.stay (Stay.below HB1.out)⟩ HQ4.out HB1.out.size ?_
           intro v2 y_2 ho hg
           have HB2 : Hid (Below w7.heap.size w7 y_2) := Hq (HB1.out.grown hg HB1.out.size fun k hk => (World.ownsRow.lt (HW1.out).a k hk).1)
           have HW2 := Hq ho
           clear ho hg
           refine hK.out _ _ HB2.out.size (fun hHeld => ?_)
           clear hK K
           try simp only [Act.put, zA, zB, zC, zD, zE, zF]
           refine wpAnyH_ready (rs := [9, 10]) (by kernel_rfl) (by simp) ?_
           refine AllReadyH.cons rfl (fun K hK => ?_) (AllReadyH.cons rfl (fun K hK => ?_) AllReadyH.nil)
           ·
            skip
            refine step_two rfl (.tmp 163) (.tmp 167) rfl rfl (HW2.out) rfl ⟨_, HS2.out.stay (Stay.below HB2.out)⟩ HQ9.out HB2.out.size ?_
            intro v3 y_3 ho hg
            have HB3 : Hid (Below w7.heap.size w7 y_3) := Hq (HB2.out.grown hg HB2.out.size fun k hk => (World.ownsRow.lt (HW2.out).a k hk).1)
            have HW3 := Hq ho
            clear ho hg
            refine hK.out _ _ HB3.out.size (fun hHeld => ?_)
            clear hK K
            try simp only [Act.put, zA, zB, zC, zD, zE, zF]
            refine wpAnyH_ready (rs := [10]) (by kernel_rfl) (by simp) ?_
            refine AllReadyH.cons rfl (fun K hK => ?_) AllReadyH.nil
            ·
             skip
             go_simp
             try dsimp only
             obtain ⟨y_4, hu4⟩ : ∃ y_4, y_4 = y_3.alloc (.cells #[] 3) := ⟨_, rfl⟩
             obtain ⟨b4, hb4⟩ : ∃ b4, b4 = y_3.heap.size := ⟨_, rfl⟩
             have HB4 : Hid (Below w7.heap.size w7 y_4) := Hq (by rw [hu4]; exact HB3.out.alloc HB3.out.size _)
             have HW4 : Hid (Two y_4 w7.heap.size v3 (([] ++ (gens.take kk)) ++ (gens.drop (kk + 1))) (.slice (some ⟨b4, 0, none⟩) 0 0) []) := Hq (by rw [hu4, hb4]; exact (HW3.out.symm.make HB3.out.size).symm)
             rw [← hu4, ← hb4]
             clear hu4 hb4
             refine hK.out _ _ HB4.out.size (fun hHeld => ?_)
             clear hK K
             try simp only [Act.put, zA, zB, zC, zD, zE, zF]
             refine wpAnyH_ready (rs := [14]) (by kernel_rfl) (by simp) ?_
             refine AllReadyH.cons rfl (fun K hK => ?_) AllReadyH.nil
             ·
              skip
              refine step_two rfl (.tmp 169) (.tmp 172) rfl rfl (HW4.out.symm) rfl ⟨_, HS3.out.stay (Stay.below HB4.out)⟩ HQ14.out HB4.out.size ?_
              intro v5 y_5 ho hg
              have HB5 : Hid (Below w7.heap.size w7 y_5) := Hq (HB4.out.grown hg HB4.out.size fun k hk => (World.ownsRow.lt (HW4.out.symm).a k hk).1)
              have HW5 := Hq ho.symm
              clear ho hg
              refine hK.out _ _ HB5.out.size (fun hHeld => ?_)
              clear hK K
              try simp only [Act.put, zA, zB, zC, zD, zE, zF]
              refine wpAnyH_ready (rs := [19]) (by kernel_rfl) (by simp) ?_
              refine AllReadyH.cons rfl (fun K hK => ?_) AllReadyH.nil
              ·
               skip
               refine step_two rfl (.tmp 173) (.tmp 177) rfl rfl (HW5.out.symm) rfl ⟨_, HS4.out.stay (Stay.below HB5.out)⟩ HQ19.out HB5.out.size ?_
               intro v6 y_6 ho hg
               have HB6 : Hid (Below w7.heap.size w7 y_6) := Hq (HB5.out.grown hg HB5.out.size fun k hk => (World.ownsRow.lt (HW5.out.symm).a k hk).1)
               have HW6 := Hq ho.symm
               clear ho hg
               refine hK.out _ _ HB6.out.size (fun hHeld => ?_)
               clear hK K
               try simp only [Act.put, zA, zB, zC, zD, zE, zF]
               refine wpAnyH_take (i := 20) (v := ?_) rfl (by kernel_rfl) (by kernel_rfl) (by kernel_rfl) (fun _ _ _ h => h) (Or.inl ⟨by rfl, ?_⟩) (by assumption) ?_
               rotate_left
               ·
                intro w hSw; (try dsimp only at hSw); go_simp; try with_reducible rfl
               simp only [Act.put, zA, zB, zC, zD, zE, zF]
               refine wpAnyH_take (i := 21) (v := ?_) rfl (by kernel_rfl) (by kernel_rfl) (by kernel_rfl) (fun _ _ _ h => h) (Or.inl ⟨by rfl, ?_⟩) (by assumption) ?_
               rotate_left
               ·
                intro w hSw; (try dsimp only at hSw); go_simp; try with_reducible rfl
               simp only [Act.put, zA, zB, zC, zD, zE, zF]
               refine wpAnyH_done (by kernel_rfl) ?_ _
               clear hHeld
               rw [show ((kk : Nat) : Int) = 0 by rw [HK0.out]; rfl]
               go_wp2
               go_roundw
               case rel => exact ⟨n - 1, ii + 1, by go_num, by have := HIN.out; omega, HEND.out _ _ _ HB6.out HW6.out⟩
               case measure => have := HMS.out _ _ _ HW6.out; simpa [lenV] using this
           ·
            skip
            go_simp
            try dsimp only
            obtain ⟨y_7, hu7⟩ : ∃ y_7, y_7 = y_2.alloc (.cells #[] 3) := ⟨_, rfl⟩
            obtain ⟨b7, hb7⟩ : ∃ b7, b7 = y_2.heap.size := ⟨_, rfl⟩
            have HB7 : Hid (Below w7.heap.size w7 y_7) := Hq (by rw [hu7]; exact HB2.out.alloc HB2.out.size _)
            have HW7 : Hid (Two y_7 w7.heap.size v2 ([] ++ (gens.take kk)) (.slice (some ⟨b7, 0, none⟩) 0 0) []) := Hq (by rw [hu7, hb7]; exact (HW2.out.symm.make HB2.out.size).symm)
            rw [← hu7, ← hb7]
            clear hu7 hb7
            refine hK.out _ _ HB7.out.size (fun hHeld => ?_)
            clear hK K
            try simp only [Act.put, zA, zB, zC, zD, zE, zF]
            refine wpAnyH_ready (rs := [9]) (by kernel_rfl) (by simp) ?_
            refine AllReadyH.cons rfl (fun K hK => ?_) AllReadyH.nil
            ·
             skip
             refine step_two rfl (.tmp 163) (.tmp 167) rfl rfl (HW7.out) rfl ⟨_, HS2.out.stay (Stay.below HB7.out)⟩ HQ9.out HB7.out.size ?_
             intro v8 y_8 ho hg
             have HB8 : Hid (Below w7.heap.size w7 y_8) := Hq (HB7.out.grown hg HB7.out.size fun k hk => (World.ownsRow.lt (HW7.out).a k hk).1)
             have HW8 := Hq ho
             clear ho hg
             refine hK.out _ _ HB8.out.size (fun hHeld => ?_)
             clear hK K
             try simp only [Act.put, zA, zB, zC, zD, zE, zF]
             refine wpAnyH_ready (rs := [14]) (by kernel_rfl) (by simp) ?_
             refine AllReadyH.cons rfl (fun K hK => ?_) AllReadyH.nil
             ·
              skip
              refine step_two rfl (.tmp 169) (.tmp 172) rfl rfl (HW8.out.symm) rfl ⟨_, HS3.out.stay (Stay.below HB8.out)⟩ HQ14.out HB8.out.size ?_
              intro v9 y_9 ho hg
              have HB9 : Hid (Below w7.heap.size w7 y_9) := Hq (HB8.out.grown hg HB8.out.size fun k hk => (World.ownsRow.lt (HW8.out.symm).a k hk).1)
              have HW9 := Hq ho.symm
              clear ho hg
              refine hK.out _ _ HB9.out.size (fun hHeld => ?_)
              clear hK K
              try simp only [Act.put, zA, zB, zC, zD, zE, zF]
              refine wpAnyH_ready (rs := [19]) (by kernel_rfl) (by simp) ?_
              refine AllReadyH.cons rfl (fun K hK => ?_) AllReadyH.nil
              ·
               skip
               refine step_two rfl (.tmp 173) (.tmp 177) rfl rfl (HW9.out.symm) rfl ⟨_, HS4.out.stay (Stay.below HB9.out)⟩ HQ19.out HB9.out.size ?_
               intro v10 y_10 ho hg
               have HB10 : Hid (Below w7.heap.size w7 y_10) := Hq (HB9.out.grown hg HB9.out.size fun k hk => (World.ownsRow.lt (HW9.out.symm).a k hk).1)
               have HW10 := Hq ho.symm
               clear ho hg
               refine hK.out _ _ HB10.out.size (fun hHeld => ?_)
               clear hK K
               try simp only [Act.put, zA, zB, zC, zD, zE, zF]
               refine wpAnyH_take (i := 20) (v := ?_) rfl (by kernel_rfl) (by kernel_rfl) (by kernel_rfl) (fun _ _ _ h => h) (Or.inl ⟨by rfl, ?_⟩) (by assumption) ?_
               rotate_left
               ·
                intro w hSw; (try dsimp only at hSw); go_simp; try with_reducible rfl
               simp only [Act.put, zA, zB, zC, zD, zE, zF]
               refine wpAnyH_take (i := 21) (v := ?_) rfl (by kernel_rfl) (by kernel_rfl) (by kernel_rfl) (fun _ _ _ h => h) (Or.inl ⟨by rfl, ?_⟩) (by assumption) ?_
               rotate_left
               ·
                intro w hSw; (try dsimp only at hSw); go_simp; try with_reducible rfl
               simp only [Act.put, zA, zB, zC, zD, zE, zF]
               refine wpAnyH_done (by kernel_rfl) ?_ _
               clear hHeld
               rw [show ((kk : Nat) : Int) = 0 by rw [HK0.out]; rfl]
               go_wp2
               go_roundw
               case rel => exact ⟨n - 1, ii + 1, by go_num, by have := HIN.out; omega, HEND.out _ _ _ HB10.out HW10.out⟩
               case measure => have := HMS.out _ _ _ HW10.out; simpa [lenV] using this
          ·
           skip
           go_simp
           try dsimp only
           obtain ⟨y_11, hu11⟩ : ∃ y_11, y_11 = y_1.alloc (.cells #[] 3) := ⟨_, rfl⟩
           obtain ⟨b11, hb11⟩ : ∃ b11, b11 = y_1.heap.size := ⟨_, rfl⟩
           have HB11 : Hid (Below w7.heap.size w7 y_11) := Hq (by rw [hu11]; exact HB1.out.alloc HB1.out.size _)
           have HW11 : Hid (Two y_11 w7.heap.size (.slice (some ⟨b1, 0, none⟩) 0 0) [] (.slice (some ⟨b11, 0, none⟩) 0 0) []) := Hq (by rw [hu11, hb11]; exact (HW1.out.symm.make HB1.out.size).symm)
           rw [← hu11, ← hb11]
           clear hu11 hb11
           refine hK.out _ _ HB11.out.size (fun hHeld => ?_)
           clear hK K
           try simp only [Act.put, zA, zB, zC, zD, zE, zF]
           refine wpAnyH_ready (rs := [4]) (by kernel_rfl) (by simp) ?_
           refine AllReadyH.cons rfl (fun K hK => ?_) AllReadyH.nil
           ·
            skip
            refine step_two rfl (.tmp 159) (.tmp 162) rfl rfl (HW11.out) rfl ⟨_, HS1.out.stay (Stay.below HB11.out)⟩ HQ4.out HB11.out.size ?_
            intro v12 y_12 ho hg
            have HB12 : Hid (Below w7.heap.size w7 y_12) := Hq (HB11.out.grown hg HB11.out.size fun k hk => (World.ownsRow.lt (HW11.out).a k hk).1)
            have HW12 := Hq ho
            clear ho hg
            refine hK.out _ _ HB12.out.size (fun hHeld => ?_)
            clear hK K
            try simp only [Act.put, zA, zB, zC, zD, zE, zF]
            refine wpAnyH_ready (rs := [9]) (by kernel_rfl) (by simp) ?_
            refine AllReadyH.cons rfl (fun K hK => ?_) AllReadyH.nil
            ·
             skip
             refine step_two rfl (.tmp 163) (.tmp 167) rfl rfl (HW12.out) rfl ⟨_, HS2.out.stay (Stay.below HB12.out)⟩ HQ9.out HB12.out.size ?_
             intro v13 y_13 ho hg
             have HB13 : Hid (Below w7.heap.size w7 y_13) := Hq (HB12.out.grown hg HB12.out.size fun k hk => (World.ownsRow.lt (HW12.out).a k hk).1)
             have HW13 := Hq ho
             clear ho hg
             refine hK.out _ _ HB13.out.size (fun hHeld => ?_)
             clear hK K
             try simp only [Act.put, zA, zB, zC, zD, zE, zF]
             refine wpAnyH_ready (rs := [14]) (by kernel_rfl) (by simp) ?_
             refine AllReadyH.cons rfl (fun K hK => ?_) AllReadyH.nil
             ·
              skip
              refine step_two rfl (.tmp 169) (.tmp 172) rfl rfl (HW13.out.symm) rfl ⟨_, HS3.out.stay (Stay.below HB13.out)⟩ HQ14.out HB13.out.size ?_
              intro v14 y_14 ho hg
              have HB14 : Hid (Below w7.heap.size w7 y_14) := Hq (HB13.out.grown hg HB13.out.size fun k hk => (World.ownsRow.lt (HW13.out.symm).a k hk).1)
              have HW14 := Hq ho.symm
              clear ho hg
              refine hK.out _ _ HB14.out.size (fun hHeld => ?_)
              clear hK K
              try simp only [Act.put, zA, zB, zC, zD, zE, zF]
              refine wpAnyH_ready (rs := [19]) (by kernel_rfl) (by simp) ?_
              refine AllReadyH.cons rfl (fun K hK => ?_) AllReadyH.nil
              ·
               skip
               refine step_two rfl (.tmp 173) (.tmp 177) rfl rfl (HW14.out.symm) rfl ⟨_, HS4.out.stay (Stay.below HB14.out)⟩ HQ19.out HB14.out.size ?_
               intro v15 y_15 ho hg
               have HB15 : Hid (Below w7.heap.size w7 y_15) := Hq (HB14.out.grown hg HB14.out.size fun k hk => (World.ownsRow.lt (HW14.out.symm).a k hk).1)
               have HW15 := Hq ho.symm
               clear ho hg
               refine hK.out _ _ HB15.out.size (fun hHeld => ?_)
               clear hK K
               try simp only [Act.put, zA, zB, zC, zD, zE, zF]
               refine wpAnyH_take (i := 20) (v := ?_) rfl (by kernel_rfl) (by kernel_rfl) (by kernel_rfl) (fun _ _ _ h => h) (Or.inl ⟨by rfl, ?_⟩) (by assumption) ?_
               rotate_left
               ·
                intro w hSw; (try dsimp only at hSw); go_simp; try with_reducible rfl
               simp only [Act.put, zA, zB, zC, zD, zE, zF]
               refine wpAnyH_take (i := 21) (v := ?_) rfl (by kernel_rfl) (by kernel_rfl) (by kernel_rfl) (fun _ _ _ h => h) (Or.inl ⟨by rfl, ?_⟩) (by assumption) ?_
               rotate_left
               ·
                intro w hSw; (try dsimp only at hSw); go_simp; try with_reducible rfl
               simp only [Act.put, zA, zB, zC, zD, zE, zF]
               refine wpAnyH_done (by kernel_rfl) ?_ _
               clear hHeld
               rw [show ((kk : Nat) : Int) = 0 by rw [HK0.out]; rfl]
               go_wp2
               go_roundw
               case rel => exact ⟨n - 1, ii + 1, by go_num, by have := HIN.out; omega, HEND.out _ _ _ HB15.out HW15.out⟩
               case measure => have := HMS.out _ _ _ HW15.out; simpa [lenV] using this
         ·
          skip
          go_simp
          try dsimp only
          obtain ⟨y_16, hu16⟩ : ∃ y_16, y_16 = y_0.alloc (.cells #[] 3) := ⟨_, rfl⟩
          obtain ⟨b16, hb16⟩ : ∃ b16, b16 = y_0.heap.size := ⟨_, rfl⟩
          have HB16 : Hid (Below w7.heap.size w7 y_16) := Hq (by rw [hu16]; exact HB0.out.alloc HB0.out.size _)
          have HW16 : Hid (Two y_16 w7.heap.size (.slice none 0 0) [] (.slice (some ⟨b16, 0, none⟩) 0 0) []) := Hq (by rw [hu16, hb16]; exact (HW0.out.symm.make HB0.out.size).symm)
          rw [← hu16, ← hb16]
          clear hu16 hb16
          refine hK.out _ _ HB16.out.size (fun hHeld => ?_)
          clear hK K
          try simp only [Act.put, zA, zB, zC, zD, zE, zF]
          refine wpAnyH_ready (rs := [0]) (by kernel_rfl) (by simp) ?_
          refine AllReadyH.cons rfl (fun K hK => ?_) AllReadyH.nil
          ·
           skip
           go_simp
           try dsimp only
           obtain ⟨y_17, hu17⟩ : ∃ y_17, y_17 = y_16.alloc (.cells #[] 3) := ⟨_, rfl⟩
           obtain ⟨b17, hb17⟩ : ∃ b17, b17 = y_16.heap.size := ⟨_, rfl⟩
           have HB17 : Hid (Below w7.heap.size w7 y_17) := Hq (by rw [hu17]; exact HB16.out.alloc HB16.out.size _)
           have HW17 : Hid (Two y_17 w7.heap.size (.slice (some ⟨b17, 0, none⟩) 0 0) [] (.slice (some ⟨b16, 0, none⟩) 0 0) []) := Hq (by rw [hu17, hb17]; exact HW16.out.make HB16.out.size)
           rw [← hu17, ← hb17]
           clear hu17 hb17
           refine hK.out _ _ HB17.out.size (fun hHeld => ?_)
           clear hK K
           try simp only [Act.put, zA, zB, zC, zD, zE, zF]
           refine wpAnyH_ready (rs := [4]) (by kernel_rfl) (by simp) ?_
           refine AllReadyH.cons rfl (fun K hK => ?_) AllReadyH.nil
           ·
            skip
            refine step_two rfl (.tmp 159) (.tmp 162) rfl rfl (HW17.out) rfl ⟨_, HS1.out.stay (Stay.below HB17.out)⟩ HQ4.out HB17.out.size ?_
            intro v18 y_18 ho hg
            have HB18 : Hid (Below w7.heap.size w7 y_18) := Hq (HB17.out.grown hg HB17.out.size fun k hk => (World.ownsRow.lt (HW17.out).a k hk).1)
            have HW18 := Hq ho
            clear ho hg
            refine hK.out _ _ HB18.out.size (fun hHeld => ?_)
            clear hK K
            try simp only [Act.put, zA, zB, zC, zD, zE, zF]
            refine wpAnyH_ready (rs := [9]) (by kernel_rfl) (by simp) ?_
            refine AllReadyH.cons rfl (fun K hK => ?_) AllReadyH.nil
            ·
             skip
             refine step_two rfl (.tmp 163) (.tmp 167) rfl rfl (HW18.out) rfl ⟨_, HS2.out.stay (Stay.below HB18.out)⟩ HQ9.out HB18.out.size ?_
             intro v19 y_19 ho hg
             have HB19 : Hid (Below w7.heap.size w7 y_19) := Hq (HB18.out.grown hg HB18.out.size fun k hk => (World.ownsRow.lt (HW18.out).a k hk).1)
             have HW19 := Hq ho
             clear ho hg
             refine hK.out _ _ HB19.out.size (fun hHeld => ?_)
             clear hK K
             try simp only [Act.put, zA, zB, zC, zD, zE, zF]
             refine wpAnyH_ready (rs := [14]) (by kernel_rfl) (by simp) ?_
             refine AllReadyH.cons rfl (fun K hK => ?_) AllReadyH.nil
             ·
              skip
              refine step_two rfl (.tmp 169) (.tmp 172) rfl rfl (HW19.out.symm) rfl ⟨_, HS3.out.stay (Stay.below HB19.out)⟩ HQ14.out HB19.out.size ?_
              intro v20 y_20 ho hg
              have HB20 : Hid (Below w7.heap.size w7 y_20) := Hq (HB19.out.grown hg HB19.out.size fun k hk => (World.ownsRow.lt (HW19.out.symm).a k hk).1)
              have HW20 := Hq ho.symm
              clear ho hg
              refine hK.out _ _ HB20.out.size (fun hHeld => ?_)
              clear hK K
              try simp only [Act.put, zA, zB, zC, zD, zE, zF]
              refine wpAnyH_ready (rs := [19]) (by kernel_rfl) (by simp) ?_
              refine AllReadyH.cons rfl (fun K hK => ?_) AllReadyH.nil
              ·
               skip
               refine step_two rfl (.tmp 173) (.tmp 177) rfl rfl (HW20.out.symm) rfl ⟨_, HS4.out.stay (Stay.below HB20.out)⟩ HQ19.out HB20.out.size ?_
               intro v21 y_21 ho hg
               have HB21 : Hid (Below w7.heap.size w7 y_21) := Hq (HB20.out.grown hg HB20.out.size fun k hk => (World.ownsRow.lt (HW20.out.symm).a k hk).1)
               have HW21 := Hq ho.symm
               clear ho hg
               refine hK.out _ _ HB21.out.size (fun hHeld => ?_)
               clear hK K
               try simp only [Act.put, zA, zB, zC, zD, zE, zF]
               refine wpAnyH_take (i := 20) (v := ?_) rfl (by kernel_rfl) (by kernel_rfl) (by kernel_rfl) (fun _ _ _ h => h) (Or.inl ⟨by rfl, ?_⟩) (by assumption) ?_
               rotate_left
               ·
                intro w hSw; (try dsimp only at hSw); go_simp; try with_reducible rfl
               simp only [Act.put, zA, zB, zC, zD, zE, zF]
               refine wpAnyH_take (i := 21) (v := ?_) rfl (by kernel_rfl) (by kernel_rfl) (by kernel_rfl) (fun _ _ _ h => h) (Or.inl ⟨by rfl, ?_⟩) (by assumption) ?_
               rotate_left
               ·
                intro w hSw; (try dsimp only at hSw); go_simp; try with_reducible rfl
               simp only [Act.put, zA, zB, zC, zD, zE, zF]
               refine wpAnyH_done (by kernel_rfl) ?_ _
               clear hHeld
               rw [show ((kk : Nat) : Int) = 0 by rw [HK0.out]; rfl]
               go_wp2
               go_roundw
               case rel => exact ⟨n - 1, ii + 1, by go_num, by have := HIN.out; omega, HEND.out _ _ _ HB21.out HW21.out⟩
               case measure => have := HMS.out _ _ _ HW21.out; simpa [lenV] using this
    -- END B
end Go.Proofs.YtbbgdbnjmonbgaaGreatDoor
