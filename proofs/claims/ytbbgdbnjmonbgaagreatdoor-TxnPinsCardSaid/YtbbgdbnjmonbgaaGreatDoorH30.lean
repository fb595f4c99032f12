/-
  txn.
  tree.Get.
-/
import Derived.Test.YtbbgdbnjmonbgaaGreatDoorH00
import Derived.Test.YtbbgdbnjmonbgaaGreatDoorH12
import Derived.Test.YtbbgdbnjmonbgaaGreatDoorH13
import Derived.Test.YtbbgdbnjmonbgaaGreatDoorH14
import Derived.Test.YtbbgdbnjmonbgaaGreatDoorH29
import Derived.Test.YtbbgdbnjmonbgaaGreatDoorTrVal
import Derived.Test.YtbbgdbnjmonbgaaGreatDoorH24
import Derived.Deep.RegionLaw
import Derived.Deep.RegionHeld3
set_option linter.unusedVariables false
set_option linter.unusedSimpArgs false
set_option maxRecDepth 100000
namespace Go.Proofs.YtbbgdbnjmonbgaaGreatDoor
open Go.RowKit
def FOwn (w : World) (B : Nat) (v : Value) (l : List Value) : Prop := w.ownsRow B 31 1 v l.length l
theorem info_func : (Tryz.prog.info? 31).map (fun i => (i.zero, i.size, i.bytes)) = some (some .nilFunc, 1, 8) := by kernel_rfl
theorem step_appF {w : World} {ops : Array Oper} {o : Oper} {a : Act} {K : Act → World → Prop} {Q : Exit → Act → World → Prop} {E : Prop} (hgd : o.guard = none) (s x : Operand)
  (ho : o.op = .call { callee := .builtin .append, args := #[s, x], argTypes := #[58, 58] })
  {B : Nat} {v : Value} {l : List Value} (u : Value) (hu : u.oneCell' = true) (hs : a.eval s = v) (hown : FOwn w B v l) {b c : Nat} (hx : a.eval x = .slice (some ⟨b, 0, none⟩) 1 c) (h0 : w.cell? ⟨b, 0, none⟩ = some u) (hlen : l.length ≤ 1000000) (hB : B ≤ w.heap.size)
  (h : ∀ q n c' w', n = (l ++ [u]).length → FOwn w' B (.slice q n c') (l ++ [u]) → w.grownBy w' v.ownBlock → K (a.put o.dst (.slice q n c')) w') : if Region.wanted o (yielded ops a.tmps) = true then Oper.wp Tryz.prog o a w K Q else E := by
 have hw : Region.wanted o (yielded ops a.tmps) = true := by simp [Region.wanted, hgd]
 rw [if_pos hw]
 obtain ⟨i, hi, hz0, hz1, hz2⟩ := info_parts info_func
 obtain ⟨v', w', hr, h1, h2⟩ := run_app1 (w := w) o.type 58 31 i _ 1 8 Tryz.underlying58 hi hz0 hz1 hz2 rfl (by decide) (by decide) hown (ad := ⟨b, 0, none⟩) (c := c) (news := [u]) rfl (fun j y hj => by
  rw [Addr.add_lit, Nat.zero_add]
  match j, hj with
  | 0, hj => cases hj; exact h0
  | j + 1, hj => simp at hj) (fun y hy => by obtain rfl := List.mem_singleton.1 hy; exact hu) hlen hB
 have h1' : FOwn w' B v' (l ++ [u]) := by
  unfold FOwn
  rw [List.length_append]
  exact h1
 obtain ⟨q, c', rfl, _⟩ := row_form h1'
 exact Lib.wp_append_run w s x 58 58 ho v _ hs hx _ w' hr (h q _ c' w' rfl h1' h2)
def bkV (b1 b2 b3 : Nat) : Value := .func (.func 56) #[] #[.pointer (some ⟨b1, 0, none⟩), .pointer (some ⟨b2, 0, none⟩), .pointer (some ⟨b3, 0, none⟩)]
def ofTxW (P : Nat) : Nat → Obj → Bool
 | i, .cells c t f => t == 55 || t == 60 || ofGrP P i (.cells c t f)
 | i, o => ofGrP P i o
theorem ofGrP_ofTxW {P : Nat} (i : Nat) (o : Obj) (h : ofGrP P i o = true) : ofTxW P i o = true := by
 cases o with
 | cells c t f => simp only [ofTxW, h, Bool.or_true]
 | map es c => exact h
 | _ => cases h
theorem isTy_ofTxW {P : Nat} {t : TypeId} (ht : (t == 55 || t == 60) = true) (i : Nat) (o : Obj) (h : isTy t i o = true) : ofTxW P i o = true := by
 cases o with
 | cells c t' f =>
  simp only [isTy, beq_iff_eq] at h
  subst h
  simp only [ofTxW, ht, Bool.true_or]
 | _ => cases h
theorem ofTxW_ofTx {P : Nat} (i : Nat) (o : Obj) (h : ofTxW P i o = true) : ofTx P i o = true := by
 cases o with
 | cells c t f =>
  simp only [ofTxW, Bool.or_eq_true] at h
  simp only [ofTx, Bool.or_eq_true]
  rcases h with (h | h) | h
  ·
   exact .inl (.inl (.inl h))
  ·
   exact .inl (.inl (.inr h))
  ·
   exact .inr h
 | map es c => exact h
 | _ => cases h
structure TA (w : World) (B P pd s k pm : Nat) (X : PG) (r n d : Int) (bk : Value) : Prop where
 t : TxBox w s P (wkv k) pm false
 wk : WkBox w k P r n d bk false
 g : GrAt w B P pd X
 hs : B ≤ s
 hk : B ≤ k
 hp : P < w.heap.size
section
variable {w w' : World} {B P pd s k pm : Nat} {X Y : PG} {r n d : Int} {bk : Value}
theorem TA.low (h : TA w B P pd s k pm X r n d bk) (hb : Below w.heap.size w w') : TA w' B P pd s k pm X r n d bk :=
 ⟨h.t.low hb, h.wk.low hb, h.g.below hb, h.hs, h.hk, Nat.lt_of_lt_of_le h.hp hb.size⟩
theorem TA.gr (h : TA w B P pd s k pm X r n d bk) (hs : GrStep w w' B P pd Y) : TA w' B P pd s k pm Y r n d bk :=
 ⟨h.t.gr hs.keeps, h.wk.gr hs.keeps, hs.at_, h.hs, h.hk, Nat.lt_of_lt_of_le h.hp hs.kp.size⟩
theorem TA.grown (h : TA w B P pd s k pm X r n d bk) {v : Value} {l : List Value} (ho : FOwn w B v l) (hg : w.grownBy w' v.ownBlock) : TA w' B P pd s k pm X r n d bk ∧ Below B w w' ∧ Keeps (ofTx P) w w' := by
 have hof : ∀ b, v.ownBlock = some b → B ≤ b ∧ ∃ c, w.heap[b]? = some (.cells c 31 (0, 0)) := by
  intro b hb
  rcases ho.2 with ⟨rfl, _⟩ | ⟨g, cap, cur, rfl, h1, h2, _⟩
  ·
   cases hb
  ·
   cases hb
   exact ⟨h1, _, h2⟩
 have hk : Keeps (isTy 31) w w' := Keeps.grown hg fun b o hb ho' => by
  obtain ⟨_, c, hc⟩ := hof b hb
  rw [hc] at ho'
  cases ho'
  simp [isTy]
 refine ⟨⟨hk.stay h.t rfl, hk.stay h.wk rfl, ?_, h.hs, h.hk, Nat.lt_of_lt_of_le h.hp hk.size⟩, (Below.refl B w).grown hg h.g.base (fun b hb => (hof b hb).1), hk.mono (isTy_ofTx (by decide))⟩
 obtain ⟨lm, fm, pl, um, wm, la, v, hg⟩ := h.g
 exact ⟨lm, fm, pl, um, wm, la, v, ⟨hk.stay hg.blk rfl, hg.disk.keeps hk (fun _ _ _ => rfl) (fun _ _ _ => rfl) (fun _ _ _ => rfl) (fun _ _ => rfl) (fun _ _ => rfl), hg.list.keeps hk (fun _ => rfl) (fun _ _ => rfl) (fun _ _ => rfl), hg.mla.keeps hk (fun _ _ => rfl), pins_keeps hg.pins hk (fun _ _ _ => rfl), hg.bP, hg.bu, hg.bw, hg.ba, hg.nlm, hg.nfm, hg.nla, hg.g0, hg.mP⟩⟩
set_option maxHeartbeats 1600000 in
theorem txSet_yes (h : TA w B P pd s k pm X r n d bk) {key val : Kb} {no : Int}
  (HP : ∀ w1, Below w.heap.size w w1 → Calls Tryz.prog 94 #[.pointer (some ⟨P, 0, none⟩), .int .i64 r, .slice key.q key.l.length key.c, .slice val.q val.l.length val.c] w1 fun e w' => e = .returned (.tuple #[.int .i64 no, .int .i64 0]) ∧ GrStep w1 w' B P pd Y) :
  Calls Tryz.prog 55 #[.pointer (some ⟨k, 0, none⟩), .slice key.q key.l.length key.c, .agg #[.slice val.q val.l.length val.c, .bool true]] w fun e w' => e = .returned (.int .i64 0) ∧ TA w' B P pd s k pm Y no n d bk ∧ Below B w w' ∧ Keeps (ofTxW P) w w' := by
 obtain ⟨W, hW⟩ : ∃ W, W = w.alloc (.cells #[.slice val.q val.l.length val.c, .bool true] 68) := ⟨_, rfl⟩
 have hb : Below w.heap.size w W := by rw [hW]; exact sbox1 _ _
 have hx : W.heap[w.heap.size]? = some (.cells #[.slice val.q val.l.length val.c, .bool true] 68 (0, 0)) := by rw [hW]; exact heap_alloc_new w _
 have x1 : W.cell? ⟨w.heap.size, 1, none⟩ = some (.bool true) := (jC hx 1).trans rfl
 have HPW : Hid (∀ w1, Below W.heap.size W w1 → Calls Tryz.prog 94 #[.pointer (some ⟨P, 0, none⟩), .int .i64 r, .slice key.q key.l.length key.c, .slice val.q val.l.length val.c] w1 fun e w' => e = .returned (.tuple #[.int .i64 no, .int .i64 0]) ∧ GrStep w1 w' B P pd Y) := Hq fun w1 hb1 => HP w1 (hb.trans (hb1.mono hb.size))
 have HT := Hq (h.low hb)
 have HBW := Hq (hb.mono h.g.base)
 have HKW : Hid (Keeps (ofTxW P) w W) := Hq (Keeps.below hb)
 have HXB := Hq hx
 have HS : Hid (∀ w3, Keeps ofGr W w3 → w3.cell? ⟨k, 0, none⟩ = some (.pointer (some ⟨P, 0, none⟩)) ∧ w3.cell? ⟨k, 1, none⟩ = some (.int .i64 r) ∧ w3.cell? ⟨w.heap.size, 0, none⟩ = some (.slice val.q val.l.length val.c)) := Hq fun w3 hk => ⟨(HT.out.wk.gr hk).c0, (HT.out.wk.gr hk).c1, (jC (hk.stay hx rfl) 0).trans rfl⟩
 have HSC : Hid (∀ w3, GrStep W.drew w3 B P pd Y → w3.cell? ⟨k, 0, none⟩ = some (.pointer (some ⟨P, 0, none⟩)) ∧ w3.cell? ⟨k, 1, none⟩ = some (.int .i64 r) ∧ w3.cell? ⟨w.heap.size, 0, none⟩ = some (.slice val.q val.l.length val.c)) := Hq fun w3 hs => HS.out _ ((Keeps.below (Below.refl _ _).drew).trans hs.keeps)
 clear h HP hb hx
 go_enter Tryz.func55, Tryz.ntmps55
 rw [hW] at x1
 go_wp2_with fail
 rw [← hW]
 clear x1 hW
 go_region_held3 (fun w' => w'.cell? ⟨k, 0, none⟩ = some (.pointer (some ⟨P, 0, none⟩)) ∧ w'.cell? ⟨k, 1, none⟩ = some (.int .i64 r) ∧ w'.cell? ⟨w.heap.size, 0, none⟩ = some (.slice val.q val.l.length val.c))
  (with_reducible first | exact HSC.out _ HG.out | exact HS.out _ (Keeps.below (Below.refl _ _)) | exact HS.out _ (Keeps.below (Below.refl _ _).drew) | fail)
  (first | (go_at_call 94; (with_reducible refine (HPW.out _ (Below.refl _ _).drew).mono ?_); rintro e w3 ⟨rfl, hs⟩; have HG := Hq hs; clear hs) | fail)
 have hbd : Below W.heap.size W W.drew := (Below.refl _ _).drew
 have h3 := (HT.out.low hbd).gr HG.out
 have f1 : w3.frozen? ⟨k, 1, none⟩ = false := jU h3.wk 1
 have k1 := h3.wk.c1
 have H3 := Hq h3
 have HB3 := Hq (HBW.out.trans ((hbd.mono HT.out.g.base).trans HG.out.below))
 have HK3 := Hq (HKW.out.trans ((Keeps.below (K := ofTxW P) hbd).trans (HG.out.kp.mono ofGrP_ofTxW)))
 clear hbd h3
 go_wp2
 go_ret
 obtain ⟨b1, g1⟩ := cell_set (i := 1) (v := .int .i64 no) H3.out.wk
 obtain ⟨q1, q2, q3, q4⟩ := H3.out.wk.set (r' := no) (n' := n) (d' := d) (bk' := bk) (br' := false) H3.out.g H3.out.hk (by simpa using b1) g1
 exact ⟨rfl, ⟨q4.stay H3.out.t rfl, q1, q2, H3.out.hs, H3.out.hk, Nat.lt_of_lt_of_le H3.out.hp q4.size⟩, HB3.out.trans q3, HK3.out.trans (q4.mono (isTy_ofTxW (by decide)))⟩
set_option maxHeartbeats 3200000 in
theorem txChange_yes {q0 : Option Addr} {m0 c0 : Nat} (h : TA w B P pd s k pm X r n d (.slice q0 m0 c0)) {l : List Value} (hbk : FOwn w B (.slice q0 m0 c0) l) (hll : l.length ≤ 1000000) {key val : Kb} {no : Int} {th : Bool}
  (HG : ∀ w1, Below w.heap.size w w1 → Calls Tryz.prog 30 #[.pointer (some ⟨P, 0, none⟩), .int .i64 r, .slice key.q key.l.length key.c] w1 fun e w' => ∃ y : Kb, e = .returned (.tuple #[.slice y.q y.l.length y.c, .bool th, .int .i64 0]) ∧ Below w1.heap.size w1 w')
  (HP : ∀ w1, Below w.heap.size w w1 → Calls Tryz.prog 94 #[.pointer (some ⟨P, 0, none⟩), .int .i64 r, .slice key.q key.l.length key.c, .slice val.q val.l.length val.c] w1 fun e w' => e = .returned (.tuple #[.int .i64 no, .int .i64 0]) ∧ GrStep w1 w' B P pd Y) :
  Calls Tryz.prog 25 #[.pointer (some ⟨k, 0, none⟩), .slice key.q key.l.length key.c, .agg #[.slice val.q val.l.length val.c, .bool true]] w fun e w' => e = .returned (.tuple #[.bool th, .int .i64 0]) ∧ (∃ q m c b1 b2 b3, TA w' B P pd s k pm Y no n d (.slice q m c) ∧ FOwn w' B (.slice q m c) (l ++ [bkV b1 b2 b3])) ∧ Below B w w' ∧ Keeps (ofTx P) w w' := by
 obtain ⟨W, hW⟩ : ∃ W, W = ((w.alloc (.cells #[.pointer (some ⟨k, 0, none⟩)] 53)).alloc (.cells #[.slice key.q key.l.length key.c] 33)).alloc (.cells #[.slice val.q val.l.length val.c, .bool true] 68) := ⟨_, rfl⟩
 have hb : Below w.heap.size w W := by rw [hW]; exact sbox3 _ _ _ _
 obtain ⟨q1, q2, q3, qsz⟩ : W.heap[w.heap.size]? = some (.cells #[.pointer (some ⟨k, 0, none⟩)] 53 (0, 0)) ∧ W.heap[w.heap.size + 1]? = some (.cells #[.slice key.q key.l.length key.c] 33 (0, 0)) ∧ W.heap[w.heap.size + 2]? = some (.cells #[.slice val.q val.l.length val.c, .bool true] 68 (0, 0)) ∧ W.heap.size = w.heap.size + 3 := by
  rw [hW]
  exact sbox3_heap w _ _ _
 obtain ⟨z, hz⟩ : ∃ z, z = w.heap.size := ⟨_, rfl⟩
 rw [← hz] at q1 q2 q3
 have HT := Hq (h.low hb)
 have HBW := Hq (hb.mono h.g.base)
 have HKW : Hid (Keeps (ofTx P) w W) := Hq (Keeps.below hb)
 have HBX : Hid (∀ w3, Keeps (ofTx P) W w3 → w3.heap[z]? = some (.cells #[.pointer (some ⟨k, 0, none⟩)] 53 (0, 0)) ∧ w3.heap[z + 1]? = some (.cells #[.slice key.q key.l.length key.c] 33 (0, 0)) ∧ w3.heap[z + 2]? = some (.cells #[.slice val.q val.l.length val.c, .bool true] 68 (0, 0))) := Hq fun w3 hk => ⟨hk.stay q1 rfl, hk.stay q2 rfl, hk.stay q3 rfl⟩
 have HGW : Hid (∀ w1, Below W.heap.size W w1 → Calls Tryz.prog 30 #[.pointer (some ⟨P, 0, none⟩), .int .i64 r, .slice key.q key.l.length key.c] w1 fun e w' => ∃ y : Kb, e = .returned (.tuple #[.slice y.q y.l.length y.c, .bool th, .int .i64 0]) ∧ Below w1.heap.size w1 w') := Hq fun w1 hb1 => HG w1 (hb.trans (hb1.mono hb.size))
 have HPW : Hid (∀ w1, Below W.heap.size W w1 → Calls Tryz.prog 94 #[.pointer (some ⟨P, 0, none⟩), .int .i64 r, .slice key.q key.l.length key.c, .slice val.q val.l.length val.c] w1 fun e w' => e = .returned (.tuple #[.int .i64 no, .int .i64 0]) ∧ GrStep w1 w' B P pd Y) := Hq fun w1 hb1 => HP w1 (hb.trans (hb1.mono hb.size))
 have HS : Hid (∀ w3, Below W.heap.size W w3 → w3.cell? ⟨z, 0, none⟩ = some (.pointer (some ⟨k, 0, none⟩)) ∧ w3.cell? ⟨k, 0, none⟩ = some (.pointer (some ⟨P, 0, none⟩)) ∧ w3.cell? ⟨k, 1, none⟩ = some (.int .i64 r) ∧ w3.cell? ⟨z + 1, 0, none⟩ = some (.slice key.q key.l.length key.c)) := Hq fun w3 hb3 => by
  obtain ⟨a1, a2, a3⟩ := HBX.out w3 (Keeps.below hb3)
  exact ⟨(jC a1 0).trans rfl, (HT.out.low hb3).wk.c0, (HT.out.low hb3).wk.c1, (jC a2 0).trans rfl⟩
 have HBK := Hq (row_below hbk hb)
 have HLL := Hq hll
 have HBS := Hq h.g.base
 have HSZ := Hq qsz
 have HZ := Hq hz
 clear h HG HP hb q1 q2 q3 qsz hbk
 go_enter Tryz.func25, Tryz.ntmps25
 go_wp2_with fail
 rw [← hW, ← hz]
 clear hW hz
 go_region_held3 (fun w' => w'.cell? ⟨z, 0, none⟩ = some (.pointer (some ⟨k, 0, none⟩)) ∧ w'.cell? ⟨k, 0, none⟩ = some (.pointer (some ⟨P, 0, none⟩)) ∧ w'.cell? ⟨k, 1, none⟩ = some (.int .i64 r) ∧ w'.cell? ⟨z + 1, 0, none⟩ = some (.slice key.q key.l.length key.c))
  (with_reducible first | exact HS.out _ HB3.out | exact HS.out _ (Below.refl _ _) | exact HS.out _ (Below.refl _ _).drew | fail)
  (first | (go_at_call 30; (with_reducible refine (HGW.out _ (Below.refl _ _).drew).mono ?_); rintro e w3 ⟨y, rfl, hb3⟩; have HB3 : Hid (Below W.heap.size W w3) := Hq ((Below.refl _ _).drew.trans hb3); clear hb3) | fail)
 obtain ⟨a1, a2, a3⟩ := HBX.out w3 (Keeps.below HB3.out)
 have x1 := (jC a1 0).trans rfl
 have x2 := (jC a2 0).trans rfl
 have x3 := (jC a3 0).trans rfl
 have x4 := (jC a3 1).trans rfl
 have HSET := Hq (txSet_yes (HT.out.low HB3.out) (key := key) (val := val) (no := no) (Y := Y) fun w1 hb1 => HPW.out w1 (HB3.out.trans (hb1.mono HB3.out.size)))
 clear a1 a2 a3
 go_wp2_with fail
 refine HSET.out.mono ?_; rintro e w4 ⟨rfl, hT4, hb4, hk4⟩
 have HT4 := Hq hT4
 have HB4 := Hq ((HBW.out.trans (HB3.out.mono HT.out.g.base)).trans hb4)
 have HK4W : Hid (Keeps (ofTx P) W w4) := Hq ((Keeps.below HB3.out).trans (hk4.mono ofTxW_ofTx))
 have HBK4 : Hid (FOwn w4 B (.slice q0 m0 c0) l) := Hq (ownsRow_keeps (row_below HBK.out HB3.out) fun b c f hbb => hk4.stay hbb rfl)
 clear hT4 hb4 hk4 x1 x2 x3 x4 HSET
 obtain ⟨W8, hW8⟩ : ∃ W8, W8 = w4.alloc (.cells #[.slice y.q y.l.length y.c, .bool th] 68) := ⟨_, rfl⟩
 have hb8 : Below w4.heap.size w4 W8 := by rw [hW8]; exact sbox1 _ _
 have HB8 := Hq hb8
 have HT8 := Hq (HT4.out.low hb8)
 have HBK8 := Hq (row_below HBK4.out hb8)
 obtain ⟨a1, a2, a3⟩ := HBX.out W8 (HK4W.out.trans (Keeps.below hb8))
 obtain ⟨c, hc⟩ : ∃ c, c = w4.heap.size := ⟨_, rfl⟩
 have x1 := (jC a1 0).trans rfl
 have lz := (aL a1)
 have y4 := HT8.out.wk.c4
 have lk := (aL HT8.out.wk)
 go_wp2_with fail
 rw [← hW8, ← hc]
 clear hW8 hc hb8
 have HST : Hid (∀ o w5, (W8.alloc o).drew.grownBy w5 (Value.slice q0 m0 c0).ownBlock → TA w5 B P pd s k pm Y no n d (.slice q0 m0 c0) ∧ Below B W8 w5 ∧ Keeps (ofTx P) W8 w5) := Hq fun o w5 hg => by
  have hba := (sbox1 W8 o).drew
  obtain ⟨t1, t2, t3⟩ := (HT8.out.low hba).grown (row_below HBK8.out hba) hg
  exact ⟨t1, (hba.mono HT8.out.g.base).trans t2, (Keeps.below hba).trans t3⟩
 have HZ5 : Hid (∀ w5, Keeps (ofTx P) W8 w5 → w5.cell? ⟨z, 0, none⟩ = some (.pointer (some ⟨k, 0, none⟩))) := Hq fun w5 hk => (jC (HBX.out w5 ((HK4W.out.trans (Keeps.below HB8.out)).trans hk)).1 0).trans rfl
 have HON : Hid ((bkV z (z + 1) c).oneCell' = true) := Hq rfl
 have HBKA : Hid (∀ o, FOwn (W8.alloc o).drew B (.slice q0 m0 c0) l) := Hq fun o => World.ownsRow.alloc HBK8.out o
 have HS8 : Hid (∀ o, B ≤ (W8.alloc o).drew.heap.size) := Hq fun o => by rw [heap_drew, World.size_alloc]; have := HT8.out.g.base; omega
 have HC0 : Hid (∀ t, (W8.alloc (.cells #[bkV z (z + 1) c] t)).drew.cell? ⟨W8.heap.size, 0, none⟩ = some (bkV z (z + 1) c)) := Hq fun t => (jC (heap_alloc_new W8 (.cells #[bkV z (z + 1) c] t)) 0).trans rfl
 have HB8T := Hq (HB4.out.trans (HB8.out.mono HT4.out.g.base))
 have HK8T := Hq ((HKW.out.trans HK4W.out).trans (Keeps.below (K := ofTx P) HB8.out))
 go_region_law (first
  | (refine step_appF rfl (.tmp 47) (.tmp 49) rfl (bkV z (z + 1) c) HON.out rfl (HBKA.out _) rfl (HC0.out _) HLL.out (HS8.out _) ?_; intro q m c' w5 hn5 ho5 hg5; obtain ⟨t1, t2, t3⟩ := HST.out _ w5 hg5; have HT5 := Hq t1; have HB5 := Hq t2; have HK5 := Hq t3; have HO5 := Hq ho5; have x5 := HZ5.out w5 t3; have z4 := t1.wk.c4; have y4 := jU t1.wk 4; clear hn5 ho5 hg5 t1 t2 t3)
  | fail)
 all_goals
  go_wp2
  go_ret2
  obtain ⟨b1, g1⟩ := cell_set (i := 4) (v := .slice q m c') HT5.out.wk
  obtain ⟨r1, r2, r3, r4⟩ := HT5.out.wk.set (r' := no) (n' := n) (d' := d) (bk' := .slice q m c') (br' := false) HT5.out.g HT5.out.hk (by simpa using b1) g1
  have hne : (Value.slice q m c').ownBlock ≠ some k := by
   intro e
   rcases HO5.out.2 with ⟨e2, _⟩ | ⟨g, cap, cur, e2, _, h2, _⟩
   ·
    rw [e2] at e; cases e
   ·
    rw [e2] at e
    cases e
    have := HT5.out.wk
    unfold WkBox at this
    rw [h2] at this
    simp only [Option.some.injEq, Obj.cells.injEq] at this
    exact absurd this.2.1 (by decide)
  exact ⟨rfl, ⟨q, m, c', z, z + 1, c, ⟨r4.stay HT5.out.t rfl, r1, r2, HT5.out.hs, HT5.out.hk, Nat.lt_of_lt_of_le HT5.out.hp r4.size⟩, World.ownsRow.kept HO5.out g1 (.inr hne)⟩, (HB8T.out.trans HB5.out).trans r3, (HK8T.out.trans HK5.out).trans (r4.mono (isTy_ofTx (by decide)))⟩
end
end Go.Proofs.YtbbgdbnjmonbgaaGreatDoor

set_option linter.unusedVariables false
set_option linter.unusedSimpArgs false
set_option maxRecDepth 100000
namespace Go.Proofs.YtbbgdbnjmonbgaaGreatDoor
open Go.RowKit
theorem WayS.det {X : PG} {key : Key} : ∀ {seen : Int → Bool} {no deep : Int} {sp : SpS} {m m' : List StS}, WayS X key seen no deep sp m → WayS X key seen no deep sp m' → m = m' := by
 intro seen no deep sp m m' h
 induction h generalizing m' with
 | leaf h hl ha => exact fun h' => ((WayS.leafIff h hl ha _).1 h').symm
 | branch h hl ha hk hw ih =>
  intro h'
  obtain ⟨m2, e, h2⟩ := (WayS.branchIff h hl ha rfl hk _).1 h'
  rw [e, ih h2]
theorem WayR.det {X : PG} {key : Key} {seen : Int → Bool} {root : Int} {m m' : List StS} (h : WayR X key seen root m) (h' : WayR X key seen root m') : m = m' := by
 unfold WayR at h h'
 split at h
 ·
  rename_i h0
  rw [if_pos h0] at h'
  rw [h, h']
 ·
  rename_i h0
  rw [if_neg h0] at h'
  exact h.det h'
def StS.zero : StS := St.zero.s
def endS (m : List StS) : StS := m.getLast?.getD StS.zero
theorem endM_s (l : List St) : (endM l).s = endS (l.map St.s) := by
 unfold endM endS
 rw [List.getLast?_map]
 cases l.getLast? <;> rfl
theorem WayS.last {X : PG} {key : Key} {seen : Int → Bool} {no deep : Int} {sp : SpS} {m : List StS} (h : WayS X key seen no deep sp m) : (endS m).n.Right ∧ (endS m).n.leaf = true ∧ At1 (endS m).n.ks key (endS m).i (endS m).th := by
 induction h with
 | leaf h hl ha =>
  obtain ⟨_, _, ⟨kind, l, _, hr⟩, _⟩ := h
  exact ⟨hr.2.1, hl, ha⟩
 | branch h hl ha hk hw ih =>
  rename_i l
  have e : ∀ x : StS, endS (x :: l) = endS l := fun x => by cases hw <;> rfl
  rw [e]
  exact ih
theorem WayR.last {X : PG} {key : Key} {seen : Int → Bool} {root : Int} {m : List StS} (h : WayR X key seen root m) (ht : (endS m).th = true) : ∃ v, (endS m).n.vs[(endS m).i]? = some v ∧ v.Right := by
 unfold WayR at h
 split at h
 ·
  subst h; cases ht
 ·
  obtain ⟨h1, h2, h3⟩ := h.last
  obtain ⟨h4, _, h5⟩ := h1.leaf h2
  have h6 := h3.eq.1 ht
  have h7 : (endS m).i < (endS m).n.vs.length := by rw [h4]; exact (List.getElem?_eq_some_iff.1 h6).1
  exact ⟨_, List.getElem?_eq_getElem h7, h5 _ (List.getElem_mem h7)⟩
def GetR (X : PG) (root : Int) (key : Key) : Option (List UInt8) → Prop
 | some bs => ∃ m v ps, WayR X key (fun _ => false) root m ∧ (endS m).th = true ∧ (endS m).n.vs[(endS m).i]? = some v ∧ ValS X (addL (fun _ => false) (m.map StS.no)) v bs ps
 | none => ∃ m, WayR X key (fun _ => false) root m ∧ (endS m).th = false
def GetPost (w : World) (X : PG) (root : Int) (key : Key) (e : Ending) (w' : World) : Prop :=
 Below w.heap.size w w' ∧ ((∃ x : Kb, GetR X root key (some x.l) ∧ e = .returned (.tuple #[.slice x.q x.l.length x.c, .bool true, .int .i64 0]) ∧ x.T w') ∨
 (GetR X root key none ∧ e = .returned (.tuple #[.slice none 0 0, .bool false, .int .i64 0])) ∨
 ((∀ o, ¬ GetR X root key o) ∧ e = .returned (.tuple #[.slice none 0 0, .bool false, .int .i64 18])))
section
variable {w : World} {B P pd : Nat} {X : PG}
set_option maxHeartbeats 6400000 in
theorem trGet_any (hT : Tab w) (h : GrAt w B P pd X) (hz : X.F.hi = X.S.size) (ht : 1 < B) (root : Int) {k : Kb} (hk : k.Ok w) (hk72 : k.l.length ≤ 72) :
  Calls Tryz.prog 30 #[.pointer (some ⟨P, 0, none⟩), .int .i64 root, .slice k.q k.l.length k.c] w (GetPost w X root k.l) := by
 have hB := h.base
 have HMD : Hid (Calls Tryz.prog 43 #[.pointer (some ⟨P, 0, none⟩)] w fun e w' => e = .returned (.bool true) ∧ Below w.heap.size w w') := Hq (by
  obtain ⟨lm, fm, pl, um, wm, la, v, hg⟩ := h
  exact trMade_yes hT hg hz)
 have HLA : Hid (∀ w', Below w.heap.size w w' → Calls Tryz.prog 44 #[.pointer (some ⟨P, 0, none⟩)] w' (LookPost w' B P pd X)) := Hq fun w' hb => lookAt_any (hT.below hT.lt hb) (h.below hb) hz ht
 have HK := Hq fun w' (hb : Below w.heap.size w w') => hk.below hb
 have HB := Hq hB
 have d72 : decide ((72 : Int) < (k.l.length : Int)) = false := decide_eq_false (by omega)
 clear h hT hz hk hB
 go_enter Tryz.func30, Tryz.ntmps30
 go_wp2_with fail
 refine HMD.out.mono ?_; rintro e w1 ⟨rfl, hb1⟩
 have HB1 := Hq hb1
 clear hb1 HMD
 go_wp2_with fail
 refine (HLA.out _ HB1.out).mono ?_
 clear HLA
 rintro e w2 ⟨sm, rfl, hsm, hla, hb2⟩
 have HB2 := Hq (HB1.out.trans (hb2.mono HB1.out.size))
 obtain ⟨W, hW⟩ : ∃ W, W = w2.alloc (.cells #[.pointer (some ⟨P, 0, none⟩), .map (some sm)] 95) := ⟨_, rfl⟩
 have hbW : Below w2.heap.size w2 W := by rw [hW]; exact sbox1 _ _
 have HLW := Hq (hla.below hbW)
 have HBW := Hq (HB2.out.trans (hbW.mono HB2.out.size))
 have HSM : Hid (w.heap.size ≤ sm) := Hq (Nat.le_trans HB1.out.size hsm)
 have hx : W.heap[w2.heap.size]? = some (.cells #[.pointer (some ⟨P, 0, none⟩), .map (some sm)] 95 (0, 0)) := by rw [hW]; exact heap_alloc_new _ _
 have HBX : Hid (∀ w', LStep sm W w' → w'.cell? ⟨w2.heap.size, 0, none⟩ = some (.pointer (some ⟨P, 0, none⟩)) ∧ w'.cell? ⟨w2.heap.size, 1, none⟩ = some (.map (some sm))) := Hq fun w' hs =>
  ⟨(jC (hs.keeps.stay hx rfl) 0).trans rfl, (jC (hs.keeps.stay hx rfl) 1).trans rfl⟩
 have HWAY := Hq (way_any HLW.out (Nat.le_trans HB.out HBW.out.size) root (HK.out _ HBW.out))
 clear hb2 hla hsm hbW hx
 go_wp2_with fail
 rw [← hW]
 replace hW := Hq hW
 refine HWAY.out.mono ?_
 clear HWAY
 rintro e w3 (⟨q, n, c, l, rfl, hn, hso, hok, _, hwr, hla, hst⟩ | ⟨rfl, hno, ⟨seen2, hla⟩, hst⟩)
 ·
  obtain ⟨x, hx⟩ : ∃ x, x = endM l := ⟨_, rfl⟩
  have HEN := Hq fun w' (hb : Below w3.heap.size w3 w') => end_any (row_below hso hb) hn
  rw [← hx] at HEN
  have HXO : Hid (x.Ok w3) := Hq (by rw [hx]; exact endM_ok hok)
  have hxs : x.s = endS (l.map St.s) := by rw [hx]; exact endM_s l
  have HXS := Hq hxs
  have HWR := Hq hwr
  have HL3 := Hq hla
  have HS3 := Hq hst
  have HBE : Hid (∀ w', LStep sm w3 w' → Below w.heap.size w w') := Hq fun w' hs => HBW.out.trans ((hst.below.trans hs.below).mono HSM.out)
  have hth : x.th = (endS (l.map St.s)).th := by rw [← hxs]; rfl
  cases ht2 : x.th
  ·
   have HF : Hid (GetR X root k.l none) := Hq ⟨_, hwr, by rw [← hth]; exact ht2⟩
   unfold St.v at HEN
   rw [ht2] at HEN
   clear hx hxs hwr hla hst hso hok hn hth ht2
   try dsimp only
   go_wp2_with fail
   refine (HEN.out _ (Below.refl _ _)).mono ?_
   rintro e w4 ⟨rfl, hb4⟩
   have HB4 := Hq (HBE.out _ (HL3.out.step hb4))
   have hst1 := step_there
   clear hb4
   try dsimp only
   go_wp2
   exact bodyPost_ret (v := .tuple #[.slice none 0 0, .bool false, .int .i64 0]) (by simp [results, Tryz.results30, go_sem]) rfl ⟨HB4.out, .inr (.inl ⟨HF.out, rfl⟩)⟩
  ·
   obtain ⟨vS, hvS, hvR⟩ := hwr.last (by rw [← hth]; exact ht2)
   obtain ⟨v0, hv0, hvs⟩ : ∃ v0, x.n.vs[x.i]? = some v0 ∧ v0.s = vS := by
    rw [← hxs] at hvS
    have h1 : (x.n.vs.map Vl.s)[x.i]? = some vS := hvS
    rw [List.getElem?_map] at h1
    cases h2 : x.n.vs[x.i]? with
    | none => rw [h2] at h1; cases h1
    | some v0 => rw [h2] at h1; exact ⟨v0, rfl, Option.some.inj h1⟩
   have HVP : Hid (∀ bs ps, ValS X (addL (fun _ => false) (l.map fun x => x.pc.no)) v0.s bs ps → GetR X root k.l (some bs)) := Hq fun bs ps hv => ⟨_, vS, ps, hwr, by rw [← hth]; exact ht2, hvS, by rw [List.map_map]; rw [hvs] at hv; exact hv⟩
   have HVN : Hid ((∀ bs ps, ¬ ValS X (addL (fun _ => false) (l.map fun x => x.pc.no)) v0.s bs ps) → ∀ o, ¬ GetR X root k.l o) := Hq fun hv o ho => by
    cases o with
    | none =>
     obtain ⟨m, hm, h1⟩ := ho
     obtain rfl := hm.det hwr
     rw [← hth, ht2] at h1
     cases h1
    | some bs =>
     obtain ⟨m, v, ps, hm, _, h2, h3⟩ := ho
     obtain rfl := hm.det hwr
     rw [hvS] at h2
     cases h2
     rw [List.map_map] at h3
     exact hv bs ps (by rw [hvs]; exact h3)
   have hg : 0 ≤ v0.g ∧ v0.g ≤ 4096 := by
    have e1 : v0.g = vS.g := by rw [← hvs]; rfl
    rcases hvR with ⟨_, h1, _⟩ | ⟨_, h1, h2, _⟩ <;> omega
   obtain ⟨hg0, hg1⟩ := hg
   have HV0 := Hq hv0
   have HVM := Hq (List.mem_of_getElem? hv0)
   have HSV := Hq fun w' (hb : Below w3.heap.size w3 w') => stepVal_any (HXO.out.n.below hb).ok HV0.out
   have HVV := Hq fun w' (hb : Below w3.heap.size w3 w') => value_any (HL3.out.below hb) (v := v0) ((HXO.out.n.below hb).vi v0 HVM.out).1 ((HXO.out.n.below hb).vi v0 HVM.out).2 hg0 hg1
   have HCB := Hq fun w' (hb : Below w3.heap.size w3 w') => HBX.out w' (HS3.out.trans (HL3.out.step hb))
   unfold St.v at HEN HSV
   unfold Vl.cell at HSV
   rw [ht2] at HEN HSV
   clear hx hxs hwr hla hst hso hok hn hth ht2 hvS hvR hv0 hvs
   try dsimp only
   go_wp2_with fail
   refine (HEN.out _ (Below.refl _ _)).mono ?_
   rintro e w4 ⟨rfl, hb4⟩
   have HB4 := Hq hb4
   have hst1 := step_there
   clear hb4
   try dsimp only
   go_wp2_with fail
   have HD4 : Hid (Below w3.heap.size w3 w4.drew) := Hq HB4.out.drew
   go_region_held3 (fun w' => w'.cell? ⟨w2.heap.size, 0, none⟩ = some (.pointer (some ⟨P, 0, none⟩)) ∧ w'.cell? ⟨w2.heap.size, 1, none⟩ = some (.map (some sm)))
    (first | exact HCB.out _ HD4.out | exact HCB.out _ HB5.out | exact HCB.out _ HB6.out | exact HBX.out _ HS7.out)
    (first
     | (go_at_call 47; (with_reducible refine (HVV.out _ HB6.out).mono ?_); intro e w7 hv7; obtain ⟨kx, z, rfl, hs7, hq7⟩ := hv7.o; have HQ7 := Hq hq7; have HS7 := Hq ((HS3.out.trans (HL3.out.step HB6.out)).trans hs7); have HBE7 := Hq (HBE.out _ ((HL3.out.step HB6.out).trans hs7)); clear hv7 hs7 hq7)
     | (go_at_call 66; (with_reducible refine (HSV.out _ HB5.out).mono ?_); rintro e w6 ⟨rfl, hb6⟩; have HB6 := Hq (HB5.out.trans (hb6.mono HB5.out.size)); clear hb6)
     | (go_at_call 65; (with_reducible refine (HEN.out _ HD4.out).mono ?_); rintro e w5 ⟨rfl, hb5⟩; have HB5 := Hq (HD4.out.trans (hb5.mono HD4.out.size)); clear hb5)
     | fail)
   all_goals
    rcases HQ7.out with ⟨hz0, ps, h1, h2, h3⟩ | ⟨hz0, hkx, h1, _⟩
    ·
     subst hz0
     have HG := Hq (HVP.out _ _ h1)
     have HKT := Hq h2
     clear h1 h2 h3 HQ7
     go_wp2
     exact bodyPost_ret (v := .tuple #[.slice kx.q kx.l.length kx.c, .bool true, .int .i64 0]) (by simp [results, Tryz.results30, go_sem]) rfl ⟨HBE7.out, .inl ⟨kx, HG.out, rfl, HKT.out⟩⟩
    ·
     subst hz0 hkx
     have HG := Hq (HVN.out h1)
     clear h1 HQ7
     go_wp2
     exact bodyPost_ret (v := .tuple #[.slice none 0 0, .bool false, .int .i64 18]) (by simp [results, Tryz.results30, go_sem, Kb.zero]) rfl ⟨HBE7.out, .inr (.inr ⟨HG.out, rfl⟩)⟩
 ·
  have HF : Hid (∀ o, ¬ GetR X root k.l o) := Hq fun o ho => by
   cases o with
   | none => obtain ⟨m, hm, _⟩ := ho; exact hno m hm
   | some bs => obtain ⟨m, v, ps, hm, _⟩ := ho; exact hno m hm
  have HBE : Hid (Below w.heap.size w w3) := Hq (HBW.out.trans (hst.below.mono HSM.out))
  clear hno hla hst
  try dsimp only
  go_wp2
  exact bodyPost_ret (v := .tuple #[.slice none 0 0, .bool false, .int .i64 18]) (by simp [results, Tryz.results30, go_sem]) rfl ⟨HBE.out, .inr (.inr ⟨HF.out, rfl⟩)⟩
end
end Go.Proofs.YtbbgdbnjmonbgaaGreatDoor

