/-
  tree.
  The pager's Lay while a look l.
  node.Child.
  node.isNoPage.
-/
import Derived.Test.YtbbgdbnjmonbgaaGreatDoorH00
import Derived.Test.YtbbgdbnjmonbgaaGreatDoorH14
import Derived.Test.YtbbgdbnjmonbgaaGreatDoorH11
import Derived.Test.YtbbgdbnjmonbgaaGreatDoorH13
import Derived.Deep.QuietTactic
import Derived.BigQuiet
set_option linter.unusedVariables false
set_option linter.unusedSimpArgs false
set_option maxRecDepth 100000
namespace Go.Proofs.YtbbgdbnjmonbgaaGreatDoor
open Go.RowKit
structure LStep (sm : Nat) (w w' : World) : Prop where
 below : Below sm w w'
 keeps : Keeps (isMaps [sm]) w w'
theorem LStep.of {sm : Nat} {w w' : World} (hb : Below w.heap.size w w') (h : sm ≤ w.heap.size) : LStep sm w w' := ⟨hb.mono h, Keeps.below hb⟩
theorem LStep.trans {sm : Nat} {w w1 w2 : World} (h : LStep sm w w1) (h' : LStep sm w1 w2) : LStep sm w w2 := ⟨h.below.trans h'.below, h.keeps.trans h'.keeps⟩
theorem LStep.size {sm : Nat} {w w' : World} (h : LStep sm w w') : w.heap.size ≤ w'.heap.size := h.keeps.size
structure LookAt (w : World) (B P pd sm : Nat) (X : PG) (seen : Int → Bool) : Prop where
 T : Tab w
 g : ∃ lm fm pl um wm la v, GrIs w B P pd lm fm pl um wm la v X ∧ lm ≠ sm ∧ fm ≠ sm ∧ um ≠ sm ∧ wm ≠ sm ∧ la ≠ sm
 z : X.F.hi = X.S.size
 m : MapSt w sm (setOf seen)
 tb : 1 < B
theorem Tab.keeps {w w' : World} (h : Tab w) {bs : List Nat} (hk : Keeps (isMaps bs) w w') : Tab w' := by
 obtain ⟨t, fr, h⟩ := h
 exact ⟨t, fr, hk.stay h rfl⟩
section
variable {w w' : World} {B P pd sm : Nat} {X : PG} {seen seen' : Int → Bool}
theorem LookAt.lt (h : LookAt w B P pd sm X seen) : sm < w.heap.size := h.m.lt
theorem LookAt.keeps (h : LookAt w B P pd sm X seen) (hk : Keeps (isMaps [sm]) w w') (hm : MapSt w' sm (setOf seen')) : LookAt w' B P pd sm X seen' := by
 obtain ⟨hT, ⟨lm, fm, pl, um, wm, la, v, hg, n1, n2, n3, n4, n5⟩, hz, hm0, hb⟩ := h
 have hq : ∀ {b : Nat}, b ≠ sm → ∀ es c, isMaps [sm] b (.map es c) = false := fun {b} hb es c => by simp [isMaps, hb]
 exact ⟨hT.keeps hk, ⟨lm, fm, pl, um, wm, la, v, ⟨hk.stay hg.blk rfl, hg.disk.keeps hk (fun _ _ _ => rfl) (fun _ _ _ => rfl) (fun _ _ _ => rfl) (hq n1) (hq n2), hg.list.keeps hk (fun _ => rfl) (hq n3) (hq n4), hg.mla.keeps hk (hq n5), pins_keeps hg.pins hk (fun _ _ _ => rfl), hg.bP, hg.bu, hg.bw, hg.ba, hg.nlm, hg.nfm, hg.nla, hg.g0, hg.mP⟩, n1, n2, n3, n4, n5⟩, hz, hm, hb⟩
theorem LookAt.below (h : LookAt w B P pd sm X seen) (hb : Below w.heap.size w w') : LookAt w' B P pd sm X seen := h.keeps (Keeps.below hb) (h.m.block (hb.block _ h.lt))
theorem LookAt.step (h : LookAt w B P pd sm X seen) (hb : Below w.heap.size w w') : LStep sm w w' := LStep.of hb (Nat.le_of_lt h.lt)
set_option maxHeartbeats 400000 in
theorem trMade_yes (hT : Tab w) {lm fm pl um wm la : Nat} {v : Value} (h : GrIs w B P pd lm fm pl um wm la v X) (hz : X.F.hi = X.S.size) :
  Calls Tryz.prog 43 #[.pointer (some ⟨P, 0, none⟩)] w fun e w' => e = .returned (.bool true) ∧ Below w.heap.size w w' := by
 have H := Hq (grRead_gen hT h hz 0)
 clear h hT hz
 go_enter Tryz.func43, Tryz.ntmps43
 go_wp2_with fail
 refine H.out.mono ?_
 rintro e w1 (⟨kind, l, u, _, rfl, ho, hb⟩ | ⟨_, z, h0, h1, rfl, hb⟩)
 ·
  have HB := Hq hb
  clear ho hb
  go_wp2
  go_ret
  exact ⟨rfl, HB.out⟩
 ·
  have HB := Hq hb
  have hne : (z != 1) = true := by rw [bne_iff_ne]; exact h1
  clear hb
  go_wp2
  go_ret
  exact ⟨rfl, HB.out⟩
def LookPost (w : World) (B P pd : Nat) (X : PG) (e : Ending) (w' : World) : Prop := ∃ sm, e = .returned (.agg #[.pointer (some ⟨P, 0, none⟩), .map (some sm)]) ∧ w.heap.size ≤ sm ∧ LookAt w' B P pd sm X (fun _ => false) ∧ Below w.heap.size w w'
theorem GrIs.mlt {lm fm pl um wm la : Nat} {v : Value} (h : GrIs w B P pd lm fm pl um wm la v X) : lm < w.heap.size ∧ fm < w.heap.size ∧ um < w.heap.size ∧ wm < w.heap.size ∧ la < w.heap.size := by
 obtain ⟨v, ms, fl, ff, hd⟩ := h.disk
 exact ⟨hd.ml.lt, hd.mf.lt, h.list.mu.lt, h.list.mw.lt, h.mla.lt⟩
set_option maxHeartbeats 400000 in
theorem lookAt_any (hT : Tab w) (h : GrAt w B P pd X) (hz : X.F.hi = X.S.size) (ht : 1 < B) :
  Calls Tryz.prog 44 #[.pointer (some ⟨P, 0, none⟩)] w (LookPost w B P pd X) := by
 have hmm := @run_makeMap Tryz.prog
 go_enter Tryz.func44, Tryz.ntmps44
 go_wp2
 obtain ⟨W, hW⟩ : ∃ W, W = (w.alloc (.cells #[.pointer (some ⟨P, 0, none⟩), .map (some (w.heap.size + 1))] 95)).alloc (.map #[] 0) := ⟨_, rfl⟩
 rw [← hW]
 have e1 : (w.alloc (.cells #[.pointer (some ⟨P, 0, none⟩), .map (some (w.heap.size + 1))] 95)).heap.size = w.heap.size + 1 := by simp
 have b1 : W.heap[w.heap.size + 1]? = some (.map #[] 0) := by
  have := heap_alloc_new (w.alloc (.cells #[.pointer (some ⟨P, 0, none⟩), .map (some (w.heap.size + 1))] 95)) (.map #[] 0)
  rw [e1] at this
  rw [hW]
  exact this
 have b0 : W.heap[w.heap.size]? = some (.cells #[.pointer (some ⟨P, 0, none⟩), .map (some (w.heap.size + 1))] 95 (0, 0)) := by
  rw [hW, Below.heap_alloc _ _ _ (by omega)]
  exact heap_alloc_new w _
 have hb : Below w.heap.size w W := by rw [hW]; exact sbox2 _ _ _
 have g0 : W.cell? ⟨w.heap.size, 0, none⟩ = some (.pointer (some ⟨P, 0, none⟩)) := (jC b0 0).trans rfl
 have g1 : W.cell? ⟨w.heap.size, 1, none⟩ = some (.map (some (w.heap.size + 1))) := (jC b0 1).trans rfl
 refine bodyPost_ret (v := .agg #[.pointer (some ⟨P, 0, none⟩), .map (some (w.heap.size + 1))]) (by simp [results, Tryz.results44, go_sem, g0, g1]) rfl ⟨w.heap.size + 1, rfl, by omega, ⟨hT.below hT.lt hb, ?_, hz, ?_, ht⟩, hb⟩
 ·
  obtain ⟨lm, fm, pl, um, wm, la, v, hg⟩ := h
  obtain ⟨m1, m2, m3, m4, m5⟩ := hg.mlt
  exact ⟨lm, fm, pl, um, wm, la, v, hg.below hb, by omega, by omega, by omega, by omega, by omega⟩
 ·
  have := MapSt.new b1
  have e : setOf (fun _ => false) = fun _ => none := by funext k; simp [setOf]
  rw [e]
  exact this
def add (seen : Int → Bool) (k : Int) : Int → Bool := fun x => if x = k then true else seen x
def PagePost (w : World) (B P pd sm : Nat) (X : PG) (seen : Int → Bool) (k : Int) (e : Ending) (w' : World) : Prop :=
 (∃ kind l v, seen k = false ∧ X.page k = some (kind, l) ∧ e = .returned (.tuple #[.int .u8 (kind.toNat : Int), v, .int .i64 0]) ∧ Own w' w.heap.size v l ∧ LookAt w' B P pd sm X (add seen k) ∧ LStep sm w w') ∨
 (¬ (seen k = false ∧ X.page k ≠ none) ∧ e = .returned (.tuple #[.int .u8 0, .slice none 0 0, .int .i64 18]) ∧ (∃ seen', LookAt w' B P pd sm X seen') ∧ LStep sm w w')
theorem LookAt.stored (h : LookAt w B P pd sm X seen) {k : Int} (hm : MapSt w' sm fun x => if x = k then some (Value.agg #[]) else setOf seen x) (hg : w.grownBy w' (some sm)) : LookAt w' B P pd sm X (add seen k) ∧ LStep sm w w' := by
 obtain ⟨es, c, hb, _⟩ := h.m.st
 have hk : Keeps (isMaps [sm]) w w' := Keeps.of_grown hg hb (by simp [isMaps])
 exact ⟨h.keeps hk ((setOf_add seen k) ▸ hm), (Below.refl sm w).grown hg (Nat.le_of_lt h.lt) (fun k hk => by cases hk; exact Nat.le_refl _), hk⟩
theorem LookAt.read (h : LookAt w B P pd sm X seen) (k : Int) : Calls Tryz.prog 80 #[.pointer (some ⟨P, 0, none⟩), .int .i64 k] w (GrReadPost w X k) := by
 obtain ⟨lm, fm, pl, um, wm, la, v, hg, _⟩ := h.g
 exact grRead_gen h.T hg h.z k
set_option maxHeartbeats 1600000 in
theorem lookPage_any (h : LookAt w B P pd sm X seen) (k : Int) :
  Calls Tryz.prog 85 #[.agg #[.pointer (some ⟨P, 0, none⟩), .map (some sm)], .int .i64 k] w (PagePost w B P pd sm X seen k) := by
 obtain ⟨W, hW⟩ : ∃ W, W = (w.alloc (.cells #[.pointer (some ⟨P, 0, none⟩), .map (some sm)] 95)).alloc (.cells #[] 114) := ⟨_, rfl⟩
 have hbw : Below w.heap.size w W := by rw [hW]; exact sbox2 _ _ _
 have hw0 : (w.alloc (.cells #[.pointer (some ⟨P, 0, none⟩), .map (some sm)] 95)).heap[w.heap.size]? = some (.cells #[.pointer (some ⟨P, 0, none⟩), .map (some sm)] 95 (0, 0)) := heap_alloc_new w _
 have hwB : W.heap[w.heap.size]? = some (.cells #[.pointer (some ⟨P, 0, none⟩), .map (some sm)] 95 (0, 0)) := by
  rw [hW, Below.heap_alloc _ _ _ (by simp)]
  exact hw0
 have HL := Hq (h.below (sbox1 w (.cells #[.pointer (some ⟨P, 0, none⟩), .map (some sm)] 95)))
 have HW := Hq (h.below hbw)
 have HBW := Hq hbw
 have hlt := h.lt
 have HST : Hid (LStep sm w W) := Hq (h.step hbw)
 cases hs : seen k
 ·
  have HS := Hq hs
  have z0 : W.cell? ⟨w.heap.size, 0, none⟩ = some (.pointer (some ⟨P, 0, none⟩)) := (jC hwB 0).trans rfl
  have z1 : W.cell? ⟨w.heap.size, 1, none⟩ = some (.map (some sm)) := (jC hwB 1).trans rfl
  have HB0 := Hq hwB
  clear h hs hwB hw0
  go_enter Tryz.func85, Tryz.ntmps85
  go_wp2_with (first | (at_lookup; refine fr_look rfl _ _ rfl rfl HL.out.m rfl ?_; rw [HS.out]) | (at_mapUpdate; rw [← hW]; refine st_store rfl _ _ _ _ 3 114 rfl Tryz.underlying87 Tryz.underlying3 rfl HW.out.m rfl rfl ?_; intro w3 hm hg; obtain ⟨l3, s3⟩ := HW.out.stored hm hg; have L3 := Hq l3; have S3 := Hq (HST.out.trans s3); have B3 := Hq (s3.keeps.stay HB0.out rfl); have y0 : w3.cell? ⟨w.heap.size, 0, none⟩ = some (.pointer (some ⟨P, 0, none⟩)) := (jC B3.out 0).trans rfl; have y1 : w3.cell? ⟨w.heap.size, 1, none⟩ = some (.map (some sm)) := (jC B3.out 1).trans rfl; clear hm hg l3 s3))
  refine (L3.out.read k).mono ?_
  rintro e w4 (⟨kind, l, u, hp, rfl, ho, hb⟩ | ⟨hp, z, h0, h1, rfl, hb⟩)
  ·
   have HP := Hq hp
   have HO := Hq ho
   have HB4 := Hq hb
   clear hp ho hb y0 y1 z0 z1 hlt
   go_wp2
   exact bodyPost_ret (v := .tuple #[.int .u8 (kind.toNat : Int), u, .int .i64 0]) (by simp [results, Tryz.results85, go_sem]) rfl (.inl ⟨kind, l, u, HS.out, HP.out, rfl, HO.out.le S3.out.size, L3.out.below HB4.out, S3.out.trans (L3.out.step HB4.out)⟩)
  ·
   have HP := Hq hp
   have HB4 := Hq hb
   have hne : (z != 0) = true := by rw [bne_iff_ne]; exact h0
   clear hp hb y0 y1 z0 z1 hlt
   go_wp2
   exact bodyPost_ret (v := .tuple #[.int .u8 0, .slice none 0 0, .int .i64 18]) (by simp [results, Tryz.results85, go_sem]) rfl (.inr ⟨(fun hh => hh.2 HP.out), rfl, ⟨_, L3.out.below HB4.out⟩, S3.out.trans (L3.out.step HB4.out)⟩)
 ·
  have HS := Hq hs
  clear h hs hwB hw0
  go_enter Tryz.func85, Tryz.ntmps85
  go_wp2_with (at_lookup; refine fr_look rfl _ _ rfl rfl HL.out.m rfl ?_; rw [HS.out])
  rw [← hW]
  exact bodyPost_ret (v := .tuple #[.int .u8 0, .slice none 0 0, .int .i64 18]) (by simp [results, Tryz.results85, go_sem]) rfl (.inr ⟨(fun hh => by rw [HS.out] at hh; cases hh.1), rfl, ⟨_, HW.out⟩, HST.out⟩)
end
end Go.Proofs.YtbbgdbnjmonbgaaGreatDoor

set_option linter.unusedVariables false
set_option linter.unusedSimpArgs false
set_option maxRecDepth 100000
namespace Go.Proofs.YtbbgdbnjmonbgaaGreatDoor
open Go.RowKit
section
variable {w w' : World} {B P pd lm fm pl um wm la : Nat} {v : Value} {X : PG}
end
end Go.Proofs.YtbbgdbnjmonbgaaGreatDoor

set_option linter.unusedVariables false
set_option maxRecDepth 100000
namespace Go.Proofs.YtbbgdbnjmonbgaaGreatDoor
open Go.RowKit
theorem child_any {w : World} {q : Option Addr} {n c : Nat} (hn : n ≤ 1000000) :
  Calls Tryz.prog 193 #[.slice q n c] w fun e w' => e = .returned (.int .i64 ((n + 3 : Nat) : Int)) ∧ w' = w := by
 go_enter Tryz.func193, Tryz.ntmps193
 go_wp2
 go_ret
 exact ⟨ret_int (by omega), rfl⟩
theorem entry_any {w : World} {q : Option Addr} {n c : Nat} (hn : n ≤ 1000000) (q' : Option Addr) (c' : Nat) (l : List UInt8) (g p : Int) (hl : l.length ≤ 1000000) (k : List UInt8) (hk : n = k.length) :
  Calls Tryz.prog 191 #[.slice q n c, .agg #[.slice q' l.length c', .int .i64 g, .int .i64 p]] w fun e w' => e = .returned (.int .i64 (entS k ⟨l, g, p⟩ : Nat)) ∧ Below w.heap.size w w' := by
 obtain ⟨m, hm⟩ : ∃ m, m = l.length := ⟨_, rfl⟩
 have HK := Hq hk
 have HM := Hq hm
 rw [← hm] at hl ⊢
 clear hk hm
 by_cases hp : p = 0
 ·
  subst hp
  go_enter Tryz.func191, Tryz.ntmps191
  go_wp2
  go_ret
  refine ⟨ret_int ?_, ((Below.refl _ _).alloc (Nat.le_refl _) _)⟩
  unfold entS
  rw [if_pos rfl, ← HK.out, ← HM.out]
  omega
 ·
  have hpb : (p != 0) = true := by simpa using hp
  have HP := Hq hp
  clear hp
  go_enter Tryz.func191, Tryz.ntmps191
  go_wp2
  go_ret
  refine ⟨ret_int ?_, ((Below.refl _ _).alloc (Nat.le_refl _) _)⟩
  unfold entS
  rw [if_neg HP.out, ← HK.out]
  omega
def Nd.val (n : Nd) (i : Nat) : Vl := n.vs[i]?.getD ⟨none, 0, [], 0, 0⟩
theorem Nd.val_s (n : Nd) (i : Nat) : (n.val i).s = ((n.s).vs[i]?).getD .zero := by
 unfold Nd.val Nd.s
 simp only [List.getElem?_map]
 cases n.vs[i]? <;> rfl
theorem Nd.val_len (n : Nd) (i : Nat) : (n.val i).l.length ≤ lens Vl.l n.vs := by
 unfold Nd.val
 cases h : n.vs[i]? with
 | none => exact Nat.zero_le _
 | some v => exact lens_mem (f := Vl.l) (List.mem_of_getElem? h)
set_option maxHeartbeats 1600000 in
theorem val_any {w : World} {n : Nd} (h : n.Ok w) (i : Nat) (hi : i ≤ 1000000) :
  Calls Tryz.prog 192 #[n.cell, .int .i64 (i : Int)] w fun e w' => e = .returned (n.val i).cell ∧ Below w.heap.size w w' := by
 obtain ⟨lf, kq, kc, ks, vq, vc, vs, iq, ic, is⟩ := n
 have h1 := h.v1
 have h2 := h.v2
 have HV := Hq h.vl
 dsimp only at h1 h2
 obtain ⟨m, hm⟩ : ∃ m, m = vs.length := ⟨_, rfl⟩
 have HM := Hq hm
 obtain ⟨mk, hmk⟩ : ∃ m, m = ks.length := ⟨_, rfl⟩
 obtain ⟨mi, hmi⟩ : ∃ m, m = is.length := ⟨_, rfl⟩
 unfold Nd.cell
 dsimp only
 rw [← hm] at h1 ⊢
 rw [← hmk, ← hmi]
 clear h hm hmk hmi
 by_cases hlt : i < m
 ·
  obtain ⟨v, hv⟩ : ∃ v, vs[i]? = some v := ⟨_, List.getElem?_eq_getElem (by have := HM.out; omega)⟩
  obtain ⟨b, o, rfl, hb, c0, c1, c2⟩ := (show Vls w vq vs from HV.out).at hv
  have HE : Hid ((Nd.val ⟨lf, kq, kc, ks, some ⟨b, o, none⟩, vc, vs, iq, ic, is⟩ i) = v) := Hq (by unfold Nd.val; rw [hv]; rfl)
  generalize Nd.val ⟨lf, kq, kc, ks, some ⟨b, o, none⟩, vc, vs, iq, ic, is⟩ i = x at *
  clear hv HV HM
  go_enter Tryz.func192, Tryz.ntmps192
  go_wp2
  refine bodyPost_ret (results_cell_row rfl _ _ (w.heap.size + 1) 108 _ (0, 0) _ (by kernel_rfl) (boxes w _ _ _ _).2.1 Tryz.underlying108 rfl (by kernel_rfl)) rfl ?_
  refine ⟨?_, (boxes w _ _ _ _).2.2.1⟩
  rw [HE.out]
  rfl
 ·
  have HE : Hid ((Nd.val ⟨lf, kq, kc, ks, vq, vc, vs, iq, ic, is⟩ i) = ⟨none, 0, [], 0, 0⟩) := Hq (by unfold Nd.val; rw [List.getElem?_eq_none (show vs.length ≤ i by have := HM.out; omega)]; rfl)
  generalize Nd.val ⟨lf, kq, kc, ks, vq, vc, vs, iq, ic, is⟩ i = x at *
  clear HV HM
  go_enter Tryz.func192, Tryz.ntmps192
  go_wp2
  refine bodyPost_ret (results_cell_row rfl _ _ (w.heap.size + 1) 108 _ (0, 0) _ (by kernel_rfl) (boxes w _ _ _ _).2.1 Tryz.underlying108 rfl (by kernel_rfl)) rfl ?_
  refine ⟨?_, (boxes w _ _ _ _).2.2.1⟩
  rw [HE.out]
  rfl
theorem Nd.s_ks (n : Nd) : (n.s).ks = n.ks.map Kb.l := rfl
theorem Nd.few {n : Nd} (hc : n.s.count ≤ 100000) : n.ks.length ≤ 100000 ∧ n.vs.length ≤ 100000 ∧ n.is.length ≤ 100000 ∧ (∀ x ∈ n.ks, x.l.length ≤ 100000) ∧ lens Vl.l n.vs ≤ 100000 := by
 unfold NdS.count Nd.s at hc
 dsimp only at hc
 rw [List.length_map, List.length_map] at hc
 have e1 : lens VlS.l (n.vs.map Vl.s) = lens Vl.l n.vs := by
  induction n.vs with
  | nil => rfl
  | cons a l ih => simp only [List.map_cons, lens, ih]; rfl
 refine ⟨by omega, by omega, by omega, fun x hx => ?_, by omega⟩
 have := lens_mem (f := id) (l := n.ks.map Kb.l) (List.mem_map_of_mem hx)
 simp only [id] at this
 omega
set_option maxHeartbeats 1600000 in
theorem size_any {w : World} {n : Nd} (h : n.Ok w) (hc : n.s.count ≤ 100000) :
  Calls Tryz.prog 169 #[n.cell] w fun e w' => e = .returned (.int .i64 (n.s.size : Nat)) ∧ Below w.heap.size w w' := by
 obtain ⟨f1, f2, f3, f4, f5⟩ := Nd.few hc
 have hsz : n.s.size ≤ 600003 := Nat.le_trans n.s.size_le (by omega)
 have hk1 := h.k1
 have hk2 := h.k2
 have HOK := Hq h
 have HF4 := Hq f4
 have HF5 := Hq f5
 obtain ⟨m, hm⟩ : ∃ m, m = n.ks.length := ⟨_, rfl⟩
 have HM := Hq hm
 rw [← hm] at hk1 f1
 have hcell : n.cell = .agg #[.bool n.leaf, .slice n.kq m n.kc, .slice n.vq n.vs.length n.vc, .slice n.iq n.is.length n.ic] := by rw [hm]; rfl
 obtain ⟨W, hW⟩ : ∃ W, W = w.alloc (.cells #[.bool n.leaf, .slice n.kq m n.kc, .slice n.vq n.vs.length n.vc, .slice n.iq n.is.length n.ic] 106) := ⟨_, rfl⟩
 have HBW : Hid (Below w.heap.size w W) := Hq (by rw [hW]; exact (Below.refl _ _).alloc (Nat.le_refl _) _)
 have hblk : W.heap[w.heap.size]? = some (.cells #[.bool n.leaf, .slice n.kq m n.kc, .slice n.vq n.vs.length n.vc, .slice n.iq n.is.length n.ic] 106 (0, 0)) := by rw [hW]; exact heap_alloc_new w _
 have HWS : Hid (W.heap.size = w.heap.size + 1) := Hq (by rw [hW]; simp)
 have HC : Hid (∀ w', Below W.heap.size W w' → w'.cell? ⟨w.heap.size, 0, none⟩ = some (.bool n.leaf) ∧ w'.cell? ⟨w.heap.size, 1, none⟩ = some (.slice n.kq m n.kc) ∧ w'.cell? ⟨w.heap.size, 2, none⟩ = some (.slice n.vq n.vs.length n.vc) ∧ w'.cell? ⟨w.heap.size, 3, none⟩ = some (.slice n.iq n.is.length n.ic)) := Hq fun w' hb => by
  have h1 := (hb.block w.heap.size (by rw [HWS.out]; omega)).trans hblk
  exact ⟨jC h1 0, jC h1 1, jC h1 2, jC h1 3⟩
 rw [hcell]
 have HCE := Hq hcell
 clear hblk hm hcell h f4 f5 hc
 cases hl : n.leaf
 ·
  have HL := Hq hl
  rw [hl] at HC hW
  have HS : Hid (n.s.size = 3 + sizeB n.s.ks) := Hq (by unfold NdS.size; rw [show n.s.leaf = n.leaf from rfl, HL.out]; rfl)
  have hs3 : 3 + sizeB n.s.ks ≤ 600003 := by rw [← HS.out]; exact hsz
  clear hl hsz
  obtain ⟨c0, c1, c2, c3⟩ := HC.out W (Below.refl _ _)
  go_enter Tryz.func169, Tryz.ntmps169
  go_wp2_with fail
  rw [← hW]
  replace hW := Hq hW
  go_wp2
  go_loopw [3, 14] (fun x i wr => ∃ (j z : Nat), i = .int .i64 (j : Int) ∧ x = .int .i64 (z : Int) ∧ j ≤ m ∧ Below W.heap.size W wr ∧ z + sizeB (n.s.ks.drop j) = 3 + sizeB n.s.ks) (fun _ i _ => m - (intOf i).toNat)
  case atStart => exact ⟨0, 3, rfl, rfl, by omega, Below.refl _ _, rfl⟩
  case round =>
   clear c0 c1 c2 c3
   obtain ⟨j, z, rfl, rfl, hj, hb, hz⟩ := hrel
   have HB := Hq hb
   have HZ := Hq hz
   have hz2 : z ≤ 600003 := by omega
   obtain ⟨c0, c1, c2, c3⟩ := HC.out _ hb
   clear hb hz
   by_cases hlt : j < m
   ·
    obtain ⟨x, hx⟩ : ∃ x, n.ks[j]? = some x := ⟨_, List.getElem?_eq_getElem (by have := HM.out; omega)⟩
    have hm2 := List.mem_of_getElem? hx
    obtain ⟨b, o, hq, hblt, hkc⟩ := (((HOK.out.below HBW.out).below HB.out).kl).at hx
    have hx2 := (HOK.out.ko x hm2).h2
    have hx3 := HF4.out x hm2
    have hx1 := (HOK.out.ko x hm2).h1
    rw [hq] at c1 ⊢
    obtain ⟨kl, hkl⟩ : ∃ k, k = x.l.length := ⟨_, rfl⟩
    have HKL := Hq hkl
    rw [← hkl] at hkc hx3 hx1
    have HD : Hid (sizeB (n.s.ks.drop j) = kl + 3 + sizeB (n.s.ks.drop (j + 1))) := Hq (by rw [HKL.out]; exact sizeB_drop (by rw [Nd.s_ks, List.getElem?_map, hx]; rfl))
    have HCH := Hq (fun w => child_any (w := w) (q := x.q) (n := kl) (c := x.c) (by omega))
    clear hx hm2 hkl hq
    go_wp2_with fail
    refine (HCH.out _).mono ?_
    rintro e w1 ⟨rfl, rfl⟩
    go_wp2
    go_roundw
    case rel => exact ⟨j + 1, z + (kl + 3), by go_num, by go_num, by omega, HB.out, by have := HD.out; have := HZ.out; omega⟩
    case measure => simp [intOf]; omega
   ·
    go_wp2
    go_ret
    refine ⟨ret_int ?_, HBW.out.trans (HB.out.mono (by rw [HWS.out]; omega))⟩
    have h1 := HZ.out
    rw [List.drop_eq_nil_of_le (by rw [Nd.s_ks, List.length_map]; have := HM.out; omega)] at h1
    rw [HS.out]
    simp only [sizeB] at h1
    omega
 ·
  have HL := Hq hl
  rw [hl] at HC hW
  have HS : Hid (n.s.size = 1 + sizeL n.s.ks n.s.vs) := Hq (by unfold NdS.size; rw [show n.s.leaf = n.leaf from rfl, HL.out]; rfl)
  have hs3 : 1 + sizeL n.s.ks n.s.vs ≤ 600003 := by rw [← HS.out]; exact hsz
  clear hl hsz
  obtain ⟨c0, c1, c2, c3⟩ := HC.out W (Below.refl _ _)
  go_enter Tryz.func169, Tryz.ntmps169
  go_wp2_with fail
  rw [← hW]
  replace hW := Hq hW
  go_wp2
  go_loopw [3, 14] (fun x i wr => ∃ (j z : Nat), i = .int .i64 (j : Int) ∧ x = .int .i64 (z : Int) ∧ j ≤ m ∧ Below W.heap.size W wr ∧ z + sizeL (n.s.ks.drop j) (n.s.vs.drop j) = 1 + sizeL n.s.ks n.s.vs) (fun _ i _ => m - (intOf i).toNat)
  case atStart => exact ⟨0, 1, rfl, rfl, by omega, Below.refl _ _, rfl⟩
  case round =>
   clear c0 c1 c2 c3
   obtain ⟨j, z, rfl, rfl, hj, hb, hz⟩ := hrel
   have HB := Hq hb
   have HZ := Hq hz
   have hz2 : z ≤ 600003 := by omega
   obtain ⟨c0, c1, c2, c3⟩ := HC.out _ hb
   clear hb hz
   by_cases hlt : j < m
   ·
    obtain ⟨x, hx⟩ : ∃ x, n.ks[j]? = some x := ⟨_, List.getElem?_eq_getElem (by have := HM.out; omega)⟩
    have hm2 := List.mem_of_getElem? hx
    obtain ⟨b, o, hq, hblt, hkc⟩ := (((HOK.out.below HBW.out).below HB.out).kl).at hx
    have hx2 := (HOK.out.ko x hm2).h2
    have hx3 := HF4.out x hm2
    have hx1 := (HOK.out.ko x hm2).h1
    rw [hq] at c1 ⊢
    obtain ⟨kl, hkl⟩ : ∃ k, k = x.l.length := ⟨_, rfl⟩
    have HKL := Hq hkl
    rw [← hkl] at hkc hx3 hx1
    have HD : Hid (sizeL (n.s.ks.drop j) (n.s.vs.drop j) = entS x.l (n.val j).s + sizeL (n.s.ks.drop (j + 1)) (n.s.vs.drop (j + 1))) := Hq (by rw [Nd.val_s]; exact sizeL_drop (by rw [Nd.s_ks, List.getElem?_map, hx]; rfl))
    have HVL := Hq (Nat.le_trans (n.val_len j) HF5.out)
    have HCV := Hq (val_any ((HOK.out.below HBW.out).below HB.out) j (by omega))
    rw [HCE.out, hq, HL.out] at HCV
    clear hx hm2 hkl hq
    go_wp2_with fail
    with_reducible refine HCV.out.mono ?_
    rintro e w1 ⟨rfl, hb1⟩
    have HB1 := Hq (HB.out.trans (hb1.mono HB.out.size))
    clear hb1
    generalize n.val j = y at *
    obtain ⟨yq, yc, yl, yg, yp⟩ := y
    have HCH := Hq (fun w => entry_any (w := w) (q := x.q) (n := kl) (c := x.c) (by omega) yq yc yl yg yp (Nat.le_trans HVL.out (by omega)) x.l HKL.out)
    obtain ⟨es, hes⟩ : ∃ s, s = entS x.l ⟨yl, yg, yp⟩ := ⟨_, rfl⟩
    have HES := Hq hes
    have hes2 : es ≤ 200006 := by
     rw [hes]
     have h1 := HVL.out
     have h2 := HKL.out
     unfold entS
     dsimp only at h1 ⊢
     split <;> omega
    rw [← hes] at HCH
    clear hes
    go_wp2_with fail
    refine (HCH.out _).mono ?_
    rintro e w2 ⟨rfl, hb2⟩
    have HB2 := Hq (HB1.out.trans (hb2.mono HB1.out.size))
    clear hb2
    go_wp2
    go_roundw
    case rel => exact ⟨j + 1, z + es, by go_num, by go_num, by omega, HB2.out, by have h1 := HD.out; have := HZ.out; have h3 := HES.out; dsimp only [Vl.s] at h1; rw [← h3] at h1; omega⟩
    case measure => simp [intOf]; omega
   ·
    go_wp2
    go_ret
    refine ⟨ret_int ?_, HBW.out.trans (HB.out.mono (by rw [HWS.out]; omega))⟩
    have h1 := HZ.out
    rw [(List.drop_eq_nil_of_le (by rw [Nd.s_ks, List.length_map]; have := HM.out; omega) : n.s.ks.drop j = [])] at h1
    rw [HS.out]
    simp only [sizeL] at h1
    omega
end Go.Proofs.YtbbgdbnjmonbgaaGreatDoor

set_option linter.unusedVariables false
set_option maxRecDepth 100000
namespace Go.Proofs.YtbbgdbnjmonbgaaGreatDoor
open Go.RowKit
def noPage (i : Int) : Bool := decide (i < 2) || decide (4096 ≤ i)
def wrongV (v : Vl) : Bool := if v.p = 0 then (v.g != 0 || decide (64 < v.l.length)) else (noPage v.p || decide (v.g ≤ 64) || decide (4096 < v.g) || decide (0 < v.l.length))
theorem noPage_iff (i : Int) : noPage i = false ↔ PageOk i := by
 unfold noPage PageOk
 simp
theorem wrongV_iff (v : Vl) : wrongV v = false ↔ v.s.Right := by
 unfold wrongV VlS.Right Vl.s
 dsimp only
 have hp0 : ¬ PageOk 0 := by unfold PageOk; omega
 split
 ·
  rename_i h
  rw [h]
  simp [hp0]
 ·
  rename_i h
  simp only [Bool.or_eq_false_iff, noPage_iff, decide_eq_false_iff_not, Int.not_le, Int.not_lt, Nat.not_lt, Nat.le_zero_eq, List.length_eq_zero_iff, h, false_and, false_or]
  constructor
  ·
   rintro ⟨⟨⟨h1, h2⟩, h3⟩, h4⟩
   exact ⟨h1, by omega, h3, h4⟩
  ·
   rintro ⟨h1, h2, h3, h4⟩
   exact ⟨⟨⟨h1, by omega⟩, h3⟩, h4⟩
theorem noPage_any (w : World) (i : Int) : Calls Tryz.prog 204 #[.int .i64 i] w fun e w' => e = .returned (.bool (noPage i)) ∧ Below w.heap.size w w' := by
 unfold noPage
 by_cases h : i < 2
 ·
  go_enter Tryz.func204, Tryz.ntmps204
  go_wp2
  go_ret
  exact ⟨ret_bool (by simp [h]), Below.refl _ _⟩
 ·
  go_enter Tryz.func204, Tryz.ntmps204
  go_wp2
  go_ret
  exact ⟨ret_bool (by rw [show decide (i < 2) = false from decide_eq_false (by omega), Bool.false_or]), Below.refl _ _⟩
set_option maxHeartbeats 1600000 in
theorem wrong_any (w : World) (v : Vl) (hok : v.Ok w) : Calls Tryz.prog 202 #[v.cell] w fun e w' => e = .returned (.bool (wrongV v)) ∧ Below w.heap.size w w' := by
 obtain ⟨q, c, l, g, p⟩ := v
 have h1 := hok.h1
 have h2 := hok.h2
 unfold Vl.cell wrongV
 dsimp only at h1 h2 ⊢
 generalize l.length = m at *
 have HN := Hq (fun w => noPage_any w p)
 clear hok
 by_cases hp : p = 0
 ·
  subst hp
  rw [if_pos rfl]
  by_cases hg : g = 0
  ·
   subst hg
   go_enter Tryz.func202, Tryz.ntmps202
   go_wp2
   go_ret
   exact ⟨ret_bool (by simp; try omega), ((Below.refl _ _).alloc (Nat.le_refl _) _)⟩
  ·
   have hgb : (g != 0) = true := by simpa using hg
   clear hg
   go_enter Tryz.func202, Tryz.ntmps202
   go_wp2
   go_ret
   exact ⟨ret_bool (by simp [hgb]), ((Below.refl _ _).alloc (Nat.le_refl _) _)⟩
 ·
  rw [if_neg hp]
  have hpb : (p == 0) = false := by simpa using hp
  clear hp
  generalize noPage p = np at *
  obtain ⟨W, hW⟩ : ∃ W, W = w.alloc (.cells #[.slice q m c, .int .i64 g, .int .i64 p] 108) := ⟨_, rfl⟩
  have HBW : Hid (Below w.heap.size w W) := Hq (by rw [hW]; exact (Below.refl _ _).alloc (Nat.le_refl _) _)
  have hblk : W.heap[w.heap.size]? = some (.cells #[.slice q m c, .int .i64 g, .int .i64 p] 108 (0, 0)) := by rw [hW]; exact heap_alloc_new w _
  have HC : Hid (∀ w', Below W.heap.size W w' → w'.cell? ⟨w.heap.size, 0, none⟩ = some (.slice q m c) ∧ w'.cell? ⟨w.heap.size, 1, none⟩ = some (.int .i64 g) ∧ w'.cell? ⟨w.heap.size, 2, none⟩ = some (.int .i64 p)) := Hq fun w' hb => by
   have h1 := (hb.block w.heap.size (by rw [hW]; simp)).trans hblk
   exact ⟨jC h1 0, jC h1 1, jC h1 2⟩
  have HBE : Hid (∀ w', Below W.heap.size W w' → Below w.heap.size w w') := Hq fun w' hb => HBW.out.trans (hb.mono HBW.out.size)
  clear hblk
  obtain ⟨c0, c1, c2⟩ := HC.out W (Below.refl _ _)
  go_enter Tryz.func202, Tryz.ntmps202
  go_wp2_with fail
  rw [← hW]
  replace hW := Hq hW
  go_wp2_with fail
  refine (HN.out _).mono ?_
  rintro e w1 ⟨rfl, hb⟩
  clear c0 c1 c2
  obtain ⟨c0, c1, c2⟩ := HC.out _ hb
  have HB := Hq (HBE.out _ hb)
  clear hb
  cases np
  ·
   by_cases h64 : g ≤ 64
   ·
    go_wp2
    go_ret
    exact ⟨ret_bool (by simp [h64]), HB.out⟩
   ·
    by_cases h40 : 4096 < g
    ·
     go_wp2
     go_ret
     exact ⟨ret_bool (by simp [h40]), HB.out⟩
    ·
     go_wp2
     go_ret
     exact ⟨ret_bool (by simp; try omega), HB.out⟩
  ·
   go_wp2
   go_ret
   exact ⟨ret_bool (by simp), HB.out⟩
set_option maxHeartbeats 400000 in
theorem indexV_any {w : World} {q : Option Addr} {n c : Nat} {l : List Vl} (hn : n = l.length) (h1 : n ≤ c) (h2 : c ≤ 9223372036854775807) (hl : Vls w q l) (hok : ∀ a ∈ l, a.Ok w) :
  Calls Tryz.prog 207 #[.slice q n c, .func (.func 202) #[] #[]] w fun e w' => ∃ r : Int, e = .returned (.int .i64 r) ∧ decide (0 ≤ r) = l.any wrongV ∧ Below w.heap.size w w' := by
 have eg : ∀ args (w : World), (callFunc 202 args).run Tryz.prog w = .ok (.enter 202 args) w := fun _ _ => rfl
 have HN := Hq hn
 have HL := Hq hl
 have HOK := Hq hok
 clear hn hl hok
 go_enter Tryz.func207, Tryz.ntmps207
 go_wp2
 go_loopw [8] (fun i wr => ∃ j : Nat, i = .int .i64 j ∧ j ≤ n ∧ Below w.heap.size w wr ∧ (l.take j).any wrongV = false) (fun i _ => n - (intOf i).toNat)
 case atStart => exact ⟨0, rfl, by omega, Below.refl _ _, rfl⟩
 case round =>
  obtain ⟨j, rfl, hj, hb, hany⟩ := hrel
  have HB := Hq hb
  have HA := Hq hany
  clear hb hany
  by_cases hlt : j < n
  ·
   have hjl : j < l.length := by have := HN.out; omega
   obtain ⟨a, ha⟩ : ∃ a, l[j]? = some a := ⟨_, List.getElem?_eq_getElem hjl⟩
   obtain ⟨b, o, rfl, hblt, c1, c2, c3⟩ := (HL.out.below HB.out).at ha
   have hk := List.mem_of_getElem? ha
   have HT : Hid ((l.take (j + 1)).any wrongV = ((l.take j).any wrongV || wrongV a)) := Hq (by
    rw [List.take_add_one, ha]
    simp)
   have HS : Hid (wrongV a = true → l.any wrongV = true) := Hq (fun h => List.any_eq_true.2 ⟨a, hk, h⟩)
   have HM := Hq (fun w' hb => wrong_any w' a ((HOK.out a hk).below hb))
   unfold Vl.cell at HM
   have ham := (HOK.out a hk).h1
   have ham2 := (HOK.out a hk).h2
   clear hk ha hjl
   go_wp2_with fail
   with_reducible refine (HM.out _ HB.out).mono ?_; rintro e w1 ⟨rfl, hb1⟩
   have HB1 := Hq (HB.out.trans (hb1.mono HB.out.size))
   clear hb1
   by_cases hpa : wrongV a = true
   ·
    have HPA := Hq hpa
    go_wp2
    go_ret
    refine ⟨_, rfl, ?_, HB1.out⟩
    rw [HS.out HPA.out]
    simp
   ·
    have hpa' : wrongV a = false := by simpa using hpa
    clear hpa
    have HPA := Hq hpa'
    go_wp2
    go_roundw
    case rel => exact ⟨j + 1, by go_num, by omega, HB1.out, by rw [HT.out, HA.out, HPA.out]; rfl⟩
    case measure => simp [intOf]; omega
  ·
   go_wp2
   go_ret
   refine ⟨-1, rfl, ?_, HB.out⟩
   have h3 := HA.out
   rw [List.take_of_length_le (by have := HN.out; omega)] at h3
   rw [h3]
   rfl
theorem containsV_any {w : World} {q : Option Addr} {n c : Nat} {l : List Vl} (hn : n = l.length) (h1 : n ≤ c) (h2 : c ≤ 9223372036854775807) (hl : Vls w q l) (hok : ∀ a ∈ l, a.Ok w) :
  Calls Tryz.prog 201 #[.slice q n c, .func (.func 202) #[] #[]] w fun e w' => e = .returned (.bool (l.any wrongV)) ∧ Below w.heap.size w w' := by
 have HC := Hq (indexV_any (w := w) hn h1 h2 hl hok)
 clear hn hl hok
 generalize l.any wrongV = x at *
 go_enter Tryz.func201, Tryz.ntmps201
 go_wp2_with fail
 refine HC.out.mono ?_; rintro e w1 ⟨r, rfl, hr, hb⟩
 have HR := Hq hr
 clear hr
 go_wp2
 go_ret
 exact ⟨ret_bool HR.out, hb⟩
set_option maxHeartbeats 400000 in
theorem indexI_any {w : World} {q : Option Addr} {n c : Nat} {l : List Int} (hn : n = l.length) (h1 : n ≤ c) (h2 : c ≤ 9223372036854775807) (hl : Ks w q l) :
  Calls Tryz.prog 208 #[.slice q n c, .func (.func 204) #[] #[]] w fun e w' => ∃ r : Int, e = .returned (.int .i64 r) ∧ decide (0 ≤ r) = l.any noPage ∧ Below w.heap.size w w' := by
 have eg : ∀ args (w : World), (callFunc 204 args).run Tryz.prog w = .ok (.enter 204 args) w := fun _ _ => rfl
 have HN := Hq hn
 have HL := Hq hl
 clear hn hl
 go_enter Tryz.func208, Tryz.ntmps208
 go_wp2
 go_loopw [8] (fun i wr => ∃ j : Nat, i = .int .i64 j ∧ j ≤ n ∧ Below w.heap.size w wr ∧ (l.take j).any noPage = false) (fun i _ => n - (intOf i).toNat)
 case atStart => exact ⟨0, rfl, by omega, Below.refl _ _, rfl⟩
 case round =>
  obtain ⟨j, rfl, hj, hb, hany⟩ := hrel
  have HB := Hq hb
  have HA := Hq hany
  clear hb hany
  by_cases hlt : j < n
  ·
   have hjl : j < l.length := by have := HN.out; omega
   obtain ⟨a, ha⟩ : ∃ a, l[j]? = some a := ⟨_, List.getElem?_eq_getElem hjl⟩
   obtain ⟨b, o, rfl, c1⟩ := (HL.out.below HB.out).at ha
   have hblt := World.block_lt_of_cell? _ _ c1
   have hk := List.mem_of_getElem? ha
   have HT : Hid ((l.take (j + 1)).any noPage = ((l.take j).any noPage || noPage a)) := Hq (by
    rw [List.take_add_one, ha]
    simp)
   have HS : Hid (noPage a = true → l.any noPage = true) := Hq (fun h => List.any_eq_true.2 ⟨a, hk, h⟩)
   have HM := Hq (fun w' => noPage_any w' a)
   clear hk ha hjl
   go_wp2_with fail
   with_reducible refine (HM.out _).mono ?_; rintro e w1 ⟨rfl, hb1⟩
   have HB1 := Hq (HB.out.trans (hb1.mono HB.out.size))
   clear hb1
   by_cases hpa : noPage a = true
   ·
    have HPA := Hq hpa
    go_wp2
    go_ret
    refine ⟨_, rfl, ?_, HB1.out⟩
    rw [HS.out HPA.out]
    simp
   ·
    have hpa' : noPage a = false := by simpa using hpa
    clear hpa
    have HPA := Hq hpa'
    go_wp2
    go_roundw
    case rel => exact ⟨j + 1, by go_num, by omega, HB1.out, by rw [HT.out, HA.out, HPA.out]; rfl⟩
    case measure => simp [intOf]; omega
  ·
   go_wp2
   go_ret
   refine ⟨-1, rfl, ?_, HB.out⟩
   have h3 := HA.out
   rw [List.take_of_length_le (by have := HN.out; omega)] at h3
   rw [h3]
   rfl
theorem containsI_any {w : World} {q : Option Addr} {n c : Nat} {l : List Int} (hn : n = l.length) (h1 : n ≤ c) (h2 : c ≤ 9223372036854775807) (hl : Ks w q l) :
  Calls Tryz.prog 203 #[.slice q n c, .func (.func 204) #[] #[]] w fun e w' => e = .returned (.bool (l.any noPage)) ∧ Below w.heap.size w w' := by
 have HC := Hq (indexI_any (w := w) hn h1 h2 hl)
 clear hn hl
 generalize l.any noPage = x at *
 go_enter Tryz.func203, Tryz.ntmps203
 go_wp2_with fail
 refine HC.out.mono ?_; rintro e w1 ⟨r, rfl, hr, hb⟩
 have HR := Hq hr
 clear hr
 go_wp2
 go_ret
 exact ⟨ret_bool HR.out, hb⟩
end Go.Proofs.YtbbgdbnjmonbgaaGreatDoor

