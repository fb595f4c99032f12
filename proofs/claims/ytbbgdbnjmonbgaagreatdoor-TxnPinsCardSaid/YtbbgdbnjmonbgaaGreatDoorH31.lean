/-
  txn.
  cobweblaw10.found.
  What a disk has behind a crash.
  What stays true of a pager.
  What stays true of a pager.
  What stays true of a pager.
  What is true of a pager that w.
-/
import Derived.Test.YtbbgdbnjmonbgaaGreatDoorH00
import Derived.Test.YtbbgdbnjmonbgaaGreatDoorH30
import Derived.Test.YtbbgdbnjmonbgaaGreatDoorH25
import Derived.Test.YtbbgdbnjmonbgaaGreatDoorH26
import Derived.Test.YtbbgdbnjmonbgaaGreatDoorH12
import Derived.Deep.RegionWith
set_option linter.unusedVariables false
set_option linter.unusedSimpArgs false
set_option maxRecDepth 100000
namespace Go.Proofs.YtbbgdbnjmonbgaaGreatDoor
open Go.RowKit
def pinF (f : Int → Option (Int × Int)) : Int → Option Value := fun g => (f g).map fun x => .agg #[.int .i64 x.1, .int .i64 x.2]
theorem zero_tpin (w : World) : (zeroValue 71).run Tryz.prog w = .ok (.agg #[.int .i64 0, .int .i64 0]) w := by kernel_rfl
theorem pin_times (w : World) (a b : Int) : (Instr.field 71 (.agg #[.int .i64 a, .int .i64 b]) 1).run Tryz.prog w = .ok (.int .i64 b) w := by kernel_rfl
structure PM (w : World) (P pm : Nat) (f : Int → Option (Int × Int)) : Prop where
 m : MapSt w pm (pinF f)
 h : P < pm
section
variable {w w' : World} {B P pd s k pm : Nat} {X Y : PG} {f : Int → Option (Int × Int)}
theorem PM.low (h : PM w P pm f) (hb : Below w.heap.size w w') : PM w' P pm f := ⟨h.m.block (hb.block _ h.m.lt), h.h⟩
theorem PM.tx (h : PM w P pm f) (hk : Keeps (ofTx P) w w') : PM w' P pm f := ⟨h.m.keeps hk (fun es c => by show decide (pm < P) = false; rw [decide_eq_false_iff_not]; have := h.h; omega), h.h⟩
theorem PM.look (h : PM w P pm f) (g : Int) : (Instr.lookup 52 (.map (some pm)) (.int .i64 g) true).run Tryz.prog w = .ok (.tuple #[.agg #[.int .i64 ((f g).getD (0, 0)).1, .int .i64 ((f g).getD (0, 0)).2], .bool (f g).isSome]) w := by
 have h1 := h.m.is.look (P := Tryz.prog) Tryz.underlying52 Tryz.underlying3 g true (zero_tpin w)
 rw [h1]
 unfold pinF
 cases f g <;> rfl
theorem PM.look1 (h : PM w P pm f) (g : Int) : (Instr.lookup 52 (.map (some pm)) (.int .i64 g) false).run Tryz.prog w = .ok (.agg #[.int .i64 ((f g).getD (0, 0)).1, .int .i64 ((f g).getD (0, 0)).2]) w := by
 have h1 := h.m.is.look (P := Tryz.prog) Tryz.underlying52 Tryz.underlying3 g false (zero_tpin w)
 rw [h1]
 unfold pinF
 cases f g <;> rfl
set_option maxHeartbeats 800000 in
theorem txRoot_pin {nw : Value} {fl : Bool} (h : TxBox w s P nw pm fl) (hm : PM w P pm f) {g root times : Int} (hg0 : g ≠ 0) (hg : f g = some (root, times)) :
  Calls Tryz.prog 29 #[.pointer (some ⟨s, 0, none⟩), .int .i64 g] w fun e w' => e = .returned (.tuple #[.int .i64 root, .int .i64 0]) ∧ Below w.heap.size w w' := by
 have c2 := h.c2
 have hl := hm.look g
 rw [hg] at hl
 simp only [Option.getD_some, Option.isSome_some] at hl
 have hz : (g != 0) = true := by rw [bne_iff_ne]; exact hg0
 clear h hm hg
 go_enter Tryz.func29, Tryz.ntmps29
 go_wp2
 go_ret2
 exact ⟨rfl, sbox1 _ _⟩
structure KeyOf (w : World) (nm : ByteArray) (key : Kb) : Prop where
 sz : nm.size ≤ 9223372036854775807
 ok : key.Ok w
 w0 : wrongF nm.data.toList [key.l] = 0
theorem KeyOf.call {nm : ByteArray} {key : Kb} (h : KeyOf w nm key) : Calls Tryz.prog 24 #[.string nm, .slice key.q key.l.length key.c] w fun e w' => ∃ kb : Kb, e = .returned (.tuple #[.slice kb.q kb.l.length kb.c, .int .i64 0]) ∧ kb.T w' ∧ kb.l = keyF nm.data.toList key.l ∧ Below w.heap.size w w' := by
 refine (fkey_any nm h.sz h.ok.bs key.l.length key.c rfl h.ok.z).mono ?_
 rintro e w' ⟨v, rfl, ho, hb⟩
 rw [h.w0, if_pos rfl] at ho
 obtain ⟨n, hn⟩ : ∃ n, n = (keyF nm.data.toList key.l).length := ⟨_, rfl⟩
 obtain ⟨p, c, rfl, _⟩ := ho.form hn
 have ht := ho.kbT hn
 subst hn
 exact ⟨⟨p, c, keyF nm.data.toList key.l⟩, by rw [h.w0], ht, rfl, hb⟩
set_option maxHeartbeats 1600000 in
theorem txGet_pin {nw : Value} {fl : Bool} (h : TxBox w s P nw pm fl) (hm : PM w P pm f) {nm : ByteArray} {key : Kb} (hk : KeyOf w nm key) {g root times : Int} (hg0 : g ≠ 0) (hg : f g = some (root, times)) {out : List UInt8}
  (HG : ∀ w1 (kb : Kb), Below w.heap.size w w1 → kb.Ok w1 → kb.l = keyF nm.data.toList key.l → Calls Tryz.prog 30 #[.pointer (some ⟨P, 0, none⟩), .int .i64 root, .slice kb.q kb.l.length kb.c] w1 fun e w' => ∃ y : Kb, e = .returned (.tuple #[.slice y.q y.l.length y.c, .bool true, .int .i64 0]) ∧ y.l = out ∧ y.Ok w' ∧ Below w1.heap.size w1 w') :
  Calls Tryz.prog 11 #[.pointer (some ⟨s, 0, none⟩), .int .i64 g, .string nm, .slice key.q key.l.length key.c] w fun e w' => ∃ y : Kb, e = .returned (.tuple #[.slice y.q y.l.length y.c, .bool true, .int .i64 0]) ∧ y.l = out ∧ y.Ok w' ∧ Below w.heap.size w w' := by
 have HM := Hq (txMade_yes h)
 have HKC := Hq hk.call
 have H := Hq h
 have HPM := Hq hm
 have HGG := Hq hg
 have HG0 := Hq hg0
 have HGT := Hq HG
 clear h hm hk hg hg0 HG
 go_enter Tryz.func11, Tryz.ntmps11
 go_wp2_with fail
 refine HM.out.mono ?_; rintro e w1 ⟨rfl, rfl⟩
 go_wp2_with fail
 refine HKC.out.mono ?_; rintro e w1 ⟨kb, rfl, hkt, hkl, hb1⟩
 have HRT := Hq (txRoot_pin (H.out.low hb1) (HPM.out.low hb1) HG0.out HGG.out)
 have HKT := Hq hkt
 have HKL := Hq hkl
 have HB1 := Hq hb1
 clear hkt hkl hb1
 go_wp2_with fail
 refine HRT.out.mono ?_; rintro e w2 ⟨rfl, hb2⟩
 have HB2 := Hq (HB1.out.trans (hb2.mono HB1.out.size))
 have c0 := (H.out.low (HB1.out.trans (hb2.mono HB1.out.size))).c0
 have HGE := Hq (HGT.out w2 kb HB2.out (HKT.out.ok.below hb2) HKL.out)
 clear hb2
 go_wp2_with fail
 refine HGE.out.mono ?_; rintro e w3 ⟨y, rfl, hyl, hyo, hb3⟩
 have HY := Hq hyo
 have HYL := Hq hyl
 have HB3 := Hq (HB2.out.trans (hb3.mono HB2.out.size))
 clear hyo hyl hb3
 go_wp2
 exact bodyPost_ret (v := .tuple #[.slice y.q y.l.length y.c, .bool true, .int .i64 0]) (by simp [results, Tryz.results11, go_sem]) rfl ⟨y, rfl, HYL.out, HY.out, HB3.out⟩
set_option maxHeartbeats 1600000 in
theorem txPutS_yes {r n d : Int} {q0 : Option Addr} {m0 c0 : Nat} (h : TA w B P pd s k pm X r n d (.slice q0 m0 c0)) {l : List Value} (hbk : FOwn w B (.slice q0 m0 c0) l) (hll : l.length ≤ 1000000) {nm : ByteArray} {key val : Kb} (hk : KeyOf w nm key) (hv : val.l.length ≤ 4096) {no : Int} {th : Bool}
  (HG : ∀ w1 (kb : Kb), Below w.heap.size w w1 → kb.Ok w1 → kb.l = keyF nm.data.toList key.l → Calls Tryz.prog 30 #[.pointer (some ⟨P, 0, none⟩), .int .i64 r, .slice kb.q kb.l.length kb.c] w1 fun e w' => ∃ y : Kb, e = .returned (.tuple #[.slice y.q y.l.length y.c, .bool th, .int .i64 0]) ∧ Below w1.heap.size w1 w')
  (HP : ∀ w1 (kb : Kb), Below w.heap.size w w1 → kb.Ok w1 → kb.l = keyF nm.data.toList key.l → Calls Tryz.prog 94 #[.pointer (some ⟨P, 0, none⟩), .int .i64 r, .slice kb.q kb.l.length kb.c, .slice val.q val.l.length val.c] w1 fun e w' => e = .returned (.tuple #[.int .i64 no, .int .i64 0]) ∧ GrStep w1 w' B P pd Y) :
  Calls Tryz.prog 8 #[.pointer (some ⟨s, 0, none⟩), .string nm, .slice key.q key.l.length key.c, .slice val.q val.l.length val.c] w fun e w' => e = .returned (.int .i64 0) ∧ (∃ q m c b1 b2 b3, TA w' B P pd s k pm Y no n d (.slice q m c) ∧ FOwn w' B (.slice q m c) (l ++ [bkV b1 b2 b3])) ∧ Below B w w' ∧ Keeps (ofTx P) w w' := by
 have HM := Hq (txOpenW_yes h.t h.wk)
 have HKC := Hq hk.call
 have H := Hq h
 have HBK := Hq hbk
 have HLL := Hq hll
 have HGT := Hq HG
 have HPT := Hq HP
 have d96 : decide ((4096 : Int) < (val.l.length : Int)) = false := decide_eq_false (by omega)
 clear h hk hbk hll HG HP
 go_enter Tryz.func8, Tryz.ntmps8
 go_wp2_with fail
 refine HM.out.mono ?_; rintro e w1 ⟨rfl, rfl⟩
 go_wp2_with fail
 refine HKC.out.mono ?_; rintro e w1 ⟨kb, rfl, hkt, hkl, hb1⟩
 have HB1 := Hq hb1
 have HCH := Hq (txChange_yes (key := kb) (val := val) (no := no) (th := th) (Y := Y) (H.out.low hb1) (row_below HBK.out hb1) HLL.out
  (fun w2 hb2 => HGT.out w2 kb (HB1.out.trans (hb2.mono HB1.out.size)) (hkt.ok.below hb2) hkl) (fun w2 hb2 => HPT.out w2 kb (HB1.out.trans (hb2.mono HB1.out.size)) (hkt.ok.below hb2) hkl))
 clear hkt hkl hb1
 go_wp2_with fail
 refine HCH.out.mono ?_; rintro e w2 ⟨rfl, hx, hb2, hk2⟩
 have HX := Hq hx
 have HB2 := Hq ((HB1.out.mono H.out.g.base).trans hb2)
 have HK2 := Hq ((Keeps.below (K := ofTx P) HB1.out).trans hk2)
 clear hx hb2 hk2
 go_wp2
 go_ret
 exact ⟨rfl, HX.out, HB2.out, HK2.out⟩
def ofTp (P pm : Nat) : Nat → Obj → Bool := fun i o => i == pm || ofTx P i o
theorem ofTx_ofTp {P pm : Nat} (i : Nat) (o : Obj) (h : ofTx P i o = true) : ofTp P pm i o = true := by unfold ofTp; rw [h]; simp
open Go.ChangeMaps (setBlock heap_setBlock_same heap_setBlock_other) in
theorem sb_heap {w : World} {pm i : Nat} (o : Obj) (h : i ≠ pm) : (setBlock w pm o).heap[i]? = w.heap[i]? := setBlock_other o h
theorem pin_grown {nw : Value} {fl : Bool} (ht : TxBox w s P nw pm fl) (hm : PM w P pm f) (hg : GrAt w B P pd Y) (hB : B ≤ pm) (hgr : w.grownBy w' (some pm)) {f' : Int → Option (Int × Int)} (h' : MapSt w' pm (pinF f')) :
  TxBox w' s P nw pm fl ∧ PM w' P pm f' ∧ GrAt w' B P pd Y ∧ Below B w w' ∧ Keeps (isMaps [pm]) w w' := by
 obtain ⟨⟨es0, c0, hb0, _⟩, _⟩ := hm.m
 have hk : Keeps (isMaps [pm]) w w' := Keeps.of_grown hgr hb0 (by simp [isMaps])
 refine ⟨hk.stay ht rfl, ⟨h', hm.h⟩, ?_, (Below.refl B w).grown hgr hg.base (fun k hk => by cases hk; exact hB), hk⟩
 obtain ⟨lm, fm, pl, um, wm, la, v, hg⟩ := hg
 have hmp := hg.mP
 have hP := hm.h
 have hq : ∀ {b : Nat}, b ≠ pm → ∀ es c, isMaps [pm] b (.map es c) = false := fun {b} hb es c => by simp [isMaps, hb]
 exact ⟨lm, fm, pl, um, wm, la, v, ⟨hk.stay hg.blk rfl, hg.disk.keeps hk (fun _ _ _ => rfl) (fun _ _ _ => rfl) (fun _ _ _ => rfl) (hq (by omega)) (hq (by omega)), hg.list.keeps hk (fun _ => rfl) (hq (by omega)) (hq (by omega)), hg.mla.keeps hk (hq (by omega)), pins_keeps hg.pins hk (fun _ _ _ => rfl), hg.bP, hg.bu, hg.bw, hg.ba, hg.nlm, hg.nfm, hg.nla, hg.g0, hg.mP⟩⟩
open Go.ChangeMaps (setBlock heap_setBlock_same heap_setBlock_other) in
theorem pin_written {nw : Value} {fl : Bool} {w : World} (ht : TxBox w s P nw pm fl) (hm : PM w P pm f) (hg : GrAt w B P pd Y) (hB : B ≤ pm) {es : Array MapEntry} {c : Nat} {f' : Int → Option (Int × Int)} (h' : MapSt (setBlock w pm (.map es c)) pm (pinF f')) :
  TxBox (setBlock w pm (.map es c)) s P nw pm fl ∧ PM (setBlock w pm (.map es c)) P pm f' ∧ GrAt (setBlock w pm (.map es c)) B P pd Y ∧ Below B w (setBlock w pm (.map es c)) ∧ Keeps (isMaps [pm]) w (setBlock w pm (.map es c)) := by
 obtain ⟨⟨es0, c0, hb0, _⟩, _⟩ := hm.m
 have hgr : w.grownBy (setBlock w pm (.map es c)) (some pm) := setBlock_grown hb0
 have hk : Keeps (isMaps [pm]) w (setBlock w pm (.map es c)) := Keeps.of_grown hgr hb0 (by simp [isMaps])
 refine ⟨hk.stay ht rfl, ⟨h', hm.h⟩, ?_, (Below.refl B w).grown hgr hg.base (fun k hk => by cases hk; exact hB), hk⟩
 obtain ⟨lm, fm, pl, um, wm, la, v, hg⟩ := hg
 have hmp := hg.mP
 have hP := hm.h
 have hq : ∀ {b : Nat}, b ≠ pm → ∀ es c, isMaps [pm] b (.map es c) = false := fun {b} hb es c => by simp [isMaps, hb]
 exact ⟨lm, fm, pl, um, wm, la, v, ⟨hk.stay hg.blk rfl, hg.disk.keeps hk (fun _ _ _ => rfl) (fun _ _ _ => rfl) (fun _ _ _ => rfl) (hq (by omega)) (hq (by omega)), hg.list.keeps hk (fun _ => rfl) (hq (by omega)) (hq (by omega)), hg.mla.keeps hk (hq (by omega)), pins_keeps hg.pins hk (fun _ _ _ => rfl), hg.bP, hg.bu, hg.bw, hg.ba, hg.nlm, hg.nfm, hg.nla, hg.g0, hg.mP⟩⟩
theorem isMaps_ofTp {P pm : Nat} (i : Nat) (o : Obj) (h : isMaps [pm] i o = true) : ofTp P pm i o = true := by
 cases o with
 | map es c =>
  simp only [isMaps, List.contains_eq_mem, List.mem_singleton, decide_eq_true_eq] at h
  subst h
  simp [ofTp]
 | _ => cases h
open Go.ChangeMaps (setBlock heap_setBlock_same heap_setBlock_other) in
set_option maxHeartbeats 3200000 in
theorem txPin_yes {nw : Value} {fl : Bool} (h : TxBox w s P nw pm fl) (hm : PM w P pm f) (hg : GrAt w B P pd X) (hB : B ≤ pm) {g tm : Int} (hf : ((f g).getD (0, 0)).2 = tm) (ht : 0 ≤ tm ∧ tm ≤ 1000000)
  (HP : Calls Tryz.prog 28 #[.pointer (some ⟨P, 0, none⟩)] w fun e w' => e = .returned (.tuple #[.int .i64 g, .int .i64 0]) ∧ GrStep w w' B P pd Y) :
  Calls Tryz.prog 10 #[.pointer (some ⟨s, 0, none⟩)] w fun e w' => e = .returned (.tuple #[.int .i64 g, .int .i64 0]) ∧ TxBox w' s P nw pm fl ∧ PM w' P pm (fun x => if x = g then some ((Y.r : Int), tm + 1) else f x) ∧ GrAt w' B P pd Y ∧ Below B w w' ∧ Keeps (ofTp P pm) w w' := by
 have HM := Hq (txMade_yes h)
 have c0 := h.c0
 have H := Hq h
 have HPM := Hq hm
 have HPP := Hq HP
 have HBP := Hq hB
 have HBS := Hq hg.base
 have e1 : wrap64 (tm + 1) = tm + 1 := IntWalk.wrap64_in _ (by omega)
 have e2 : IntKind.i64.wrap (tm + 1) = tm + 1 := by rw [IntKind.wrap_i64]; omega
 have hpt := fun (u : World) (a : Int) => pin_times u a tm
 have hmr := fun (u : World) => meta_root u (Y.g : Int) (Y.r : Int) (Y.n : Int) (Y.d : Int)
 clear h hm hg HP hB
 go_enter Tryz.func10, Tryz.ntmps10
 go_wp2_with fail
 refine HM.out.mono ?_; rintro e w1 ⟨rfl, rfl⟩
 go_wp2_with fail
 refine HPP.out.mono ?_; rintro e W ⟨rfl, hs⟩
 have HS0 := Hq hs
 have HTW := Hq (H.out.gr hs.keeps)
 have HMW := Hq (HPM.out.tx (hs.kp.mono ofGrP_ofTx))
 have HMT : Hid (∀ w1, Below W.heap.size W w1 → Calls Tryz.prog 20 #[.pointer (some ⟨P, 0, none⟩)] w1 fun e w' => e = .returned (.agg #[.int .i64 Y.g, .int .i64 Y.r, .int .i64 Y.n, .int .i64 Y.d]) ∧ Below w1.heap.size w1 w') := Hq fun w1 hb => by
  obtain ⟨lm, fm, pl, um, wm, la, v, hg⟩ := hs.at_.below hb
  exact grMeta hg
 have HS : Hid (∀ w3, Below W.heap.size W w3 → w3.cell? ⟨s, 0, none⟩ = some (.pointer (some ⟨P, 0, none⟩)) ∧ w3.cell? ⟨s, 2, none⟩ = some (.map (some pm))) := Hq fun w3 hb => ⟨(HTW.out.low hb).c0, (HTW.out.low hb).c2⟩
 have HNE : Hid (s ≠ pm) := Hq (by
  rintro rfl
  obtain ⟨⟨es0, c0, hb0, _⟩, _⟩ := HMW.out.m
  have := HTW.out
  unfold TxBox at this
  rw [hb0] at this
  cases this)
 have HSB : Hid (∀ w3 es c, Below W.heap.size W w3 → (setBlock w3 pm (.map es c)).cell? ⟨s, 0, none⟩ = some (.pointer (some ⟨P, 0, none⟩)) ∧ (setBlock w3 pm (.map es c)).cell? ⟨s, 2, none⟩ = some (.map (some pm))) := Hq fun w3 es c hb => by
  have q1 := (sb_heap (w := w3) (Obj.map es c) HNE.out).trans (HTW.out.low hb)
  exact ⟨(jC q1 0).trans rfl, (jC q1 2).trans rfl⟩
 have hlk0 := (HMW.out.low (Below.refl _ _).drew).look1 g
 rw [hf] at hlk0
 have HLK : Hid (∀ w3, Below W.heap.size W w3 → (Instr.lookup 52 (.map (some pm)) (.int .i64 g) false).run Tryz.prog w3 = .ok (.agg #[.int .i64 ((f g).getD (0, 0)).1, .int .i64 tm]) w3) := Hq fun w3 hb => by
  have := (HMW.out.low hb).look1 g
  rw [hf] at this
  exact this
 have HST : Hid (∀ w3, Below W.heap.size W w3 → ∃ es c, (Instr.mapUpdate 52 (.map (some pm)) (.int .i64 g) (.agg #[.int .i64 (Y.r : Int), .int .i64 (tm + 1)])).run Tryz.prog w3 = .ok () (setBlock w3 pm (.map es c)) ∧ TxBox (setBlock w3 pm (.map es c)) s P nw pm fl ∧ PM (setBlock w3 pm (.map es c)) P pm (fun x => if x = g then some ((Y.r : Int), tm + 1) else f x) ∧ GrAt (setBlock w3 pm (.map es c)) B P pd Y ∧ Below B w3 (setBlock w3 pm (.map es c)) ∧ Keeps (isMaps [pm]) w3 (setBlock w3 pm (.map es c))) := Hq fun w3 hb => by
  obtain ⟨es, c, hrun, hm2⟩ := (HMW.out.low hb).m.store (P := Tryz.prog) Tryz.underlying52 Tryz.underlying3 g (.agg #[.int .i64 (Y.r : Int), .int .i64 (tm + 1)])
  have hm3 : MapSt (setBlock w3 pm (.map es c)) pm (pinF fun x => if x = g then some ((Y.r : Int), tm + 1) else f x) := by
   have e : (fun x => if x = g then some (Value.agg #[.int .i64 (Y.r : Int), .int .i64 (tm + 1)]) else pinF f x) = pinF fun x => if x = g then some ((Y.r : Int), tm + 1) else f x := by
    funext x
    unfold pinF
    by_cases hx : x = g <;> simp [hx]
   rw [← e]
   exact hm2
  exact ⟨es, c, hrun, pin_written (HTW.out.low hb) (HMW.out.low hb) (hs.at_.below hb) HBP.out hm3⟩
 clear hs c0 hf
 generalize ((f g).getD (0, 0)).1 = fg1 at *
 go_wp2_with fail
 go_region_held3 (fun w' => w'.cell? ⟨s, 0, none⟩ = some (.pointer (some ⟨P, 0, none⟩)) ∧ w'.cell? ⟨s, 2, none⟩ = some (.map (some pm)))
  (with_reducible first | exact HSB.out _ _ _ HB5.out | exact HS.out _ HB5.out | exact HS.out _ (Below.refl _ _) | exact HS.out _ (Below.refl _ _).drew | fail)
  (first | (go_at_call 20; (with_reducible refine (HMT.out _ (Below.refl _ _).drew).mono ?_); rintro e w5 ⟨rfl, hb5⟩; have HB5 : Hid (Below W.heap.size W w5) := Hq ((Below.refl _ _).drew.trans hb5); obtain ⟨es, c, hrun, hfin⟩ := HST.out w5 HB5.out; have HFIN := Hq hfin; have hlk5 := HLK.out w5 HB5.out; clear hb5 hfin) | fail)
 all_goals
  go_wp2
  go_ret2
  obtain ⟨t1, t2, t3, t4, t5⟩ := HFIN.out
  have hbw : Below B w w5 := HS0.out.below.trans (HB5.out.mono HS0.out.at_.base)
  have hkw : Keeps (ofTp P pm) w w5 := (HS0.out.kp.mono fun i o h => ofTx_ofTp i o (ofGrP_ofTx i o h)).trans (Keeps.below HB5.out)
  exact ⟨rfl, t1, t2, t3, hbw.trans t4, hkw.trans (t5.mono isMaps_ofTp)⟩
theorem pin_gone {root g : Int} (h : MapSt w pm (fun x => if x = g then none else pinF (fun x => if x = g then some (root, (0 : Int)) else f x) x)) : MapSt w pm (pinF fun x => if x = g then none else f x) := by
 have e : (fun x => if x = g then none else pinF (fun x => if x = g then some (root, (0 : Int)) else f x) x) = pinF fun x => if x = g then none else f x := by
  funext x
  unfold pinF
  by_cases hx : x = g <;> simp [hx]
 rw [← e]
 exact h
open Go.ChangeMaps (setBlock heap_setBlock_same heap_setBlock_other) in
set_option maxHeartbeats 3200000 in
theorem txRelease_one {nw : Value} {fl : Bool} (h : TxBox w s P nw pm fl) (hm : PM w P pm f) (hg : GrAt w B P pd X) (hB : B ≤ pm) {g root : Int} (hf : f g = some (root, 1))
  (HP : ∀ w1, Below B w w1 → GrAt w1 B P pd X → Calls Tryz.prog 31 #[.pointer (some ⟨P, 0, none⟩), .int .i64 g] w1 fun e w' => e = .returned (.int .i64 0) ∧ GrStep w1 w' B P pd Y) :
  Calls Tryz.prog 12 #[.pointer (some ⟨s, 0, none⟩), .int .i64 g] w fun e w' => e = .returned (.int .i64 0) ∧ TxBox w' s P nw pm fl ∧ PM w' P pm (fun x => if x = g then none else f x) ∧ GrAt w' B P pd Y ∧ Below B w w' ∧ Keeps (ofTp P pm) w w' := by
 have HM := Hq (txMade_yes h)
 have c2 := h.c2
 have hlk := hm.look g
 rw [hf] at hlk
 simp only [Option.getD_some, Option.isSome_some] at hlk
 obtain ⟨W, hW⟩ : ∃ W, W = w.alloc (.cells #[.int .i64 root, .int .i64 0] 71) := ⟨_, rfl⟩
 have hb : Below w.heap.size w W := by rw [hW]; exact sbox1 _ _
 have hx : W.heap[w.heap.size]? = some (.cells #[.int .i64 root, .int .i64 0] 71 (0, 0)) := by rw [hW]; exact heap_alloc_new w _
 have HTW := Hq (h.low hb)
 have HMW := Hq (hm.low hb)
 have HGW := Hq (hg.below hb)
 have HBW := Hq (hb.mono hg.base)
 have HKW : Hid (Keeps (ofTp P pm) w W) := Hq (Keeps.below hb)
 have HXX := Hq hx
 have HBP := Hq hB
 have HPP := Hq HP
 clear h hm hg hB hf HP hb hx
 go_enter Tryz.func12, Tryz.ntmps12
 go_wp2_with fail
 refine HM.out.mono ?_; rintro e w1 ⟨rfl, rfl⟩
 have bx := heap_alloc_new w (.cells #[.int .i64 root, .int .i64 1] 71)
 have bx1 := (jC bx 1).trans rfl
 have bx0 := (jC bx 0).trans rfl
 have bf1 := jU bx 1
 go_wp2_with fail
 rw [← hW]
 clear hW c2 hlk bx bx1 bx0 bf1
 obtain ⟨t, ht⟩ : ∃ t, t = w.heap.size := ⟨_, rfl⟩
 rw [← ht] at HXX ⊢
 clear ht
 have hbd : Below W.heap.size W W.drew := (Below.refl _ _).drew
 obtain ⟨es, c, hrun, hm2⟩ := (HMW.out.low hbd).m.store (P := Tryz.prog) Tryz.underlying52 Tryz.underlying3 g (.agg #[.int .i64 root, .int .i64 0])
 have hm3 : MapSt (setBlock W.drew pm (.map es c)) pm (pinF fun x => if x = g then some (root, 0) else f x) := by
  have e : (fun x => if x = g then some (Value.agg #[.int .i64 root, .int .i64 0]) else pinF f x) = pinF fun x => if x = g then some (root, (0 : Int)) else f x := by
   funext x
   unfold pinF
   by_cases hx : x = g <;> simp [hx]
  rw [← e]
  exact hm2
 obtain ⟨t1, t2, t3, t4, t5⟩ := pin_written (HTW.out.low hbd) (HMW.out.low hbd) (HGW.out.below hbd) HBP.out hm3
 have hxd : W.drew.heap[t]? = some (.cells #[.int .i64 root, .int .i64 0] 71 (0, 0)) := HXX.out
 have hx3 := t5.stay hxd rfl
 have HT3 := Hq t1
 have HM3 := Hq t2
 have HG3 := Hq t3
 have HB3 := Hq ((HBW.out.trans (hbd.mono HGW.out.base)).trans t4)
 have HK3 := Hq ((HKW.out.trans (Keeps.below hbd)).trans (t5.mono isMaps_ofTp))
 have d2 := (HTW.out.low hbd).c2
 have x0 : W.drew.cell? ⟨t, 0, none⟩ = some (.int .i64 root) := (jC hxd 0).trans rfl
 have x1 : W.drew.cell? ⟨t, 1, none⟩ = some (.int .i64 0) := (jC hxd 1).trans rfl
 have z1 : (setBlock W.drew pm (.map es c)).cell? ⟨t, 1, none⟩ = some (.int .i64 0) := (jC hx3 1).trans rfl
 have z2 := t1.c2
 clear hm2 hm3 t1 t2 t3 t4 t5 hxd hx3 hbd
 go_region_with fail
 all_goals
  obtain ⟨W3, hW3⟩ : ∃ W3, W3 = setBlock W.drew pm (.map es c) := ⟨_, rfl⟩
  rw [← hW3] at HT3 HM3 HG3 HB3 HK3 z1 z2 ⊢
  clear hW3 hrun d2 x0 x1
  go_wp2_with (at_delete; refine st_drop rfl _ _ _ 3 71 3 rfl Tryz.underlying52 Tryz.underlying3 rfl HM3.out.m rfl ?_)
  intro w5 hm5 hg5
  obtain ⟨t1, t2, t3, t4, t5⟩ := pin_grown (f' := fun x => if x = g then none else f x) HT3.out HM3.out HG3.out HBP.out hg5 (pin_gone hm5)
  have HT5 := Hq t1
  have HM5 := Hq t2
  have HG5 := Hq t3
  have HB5 := Hq (HB3.out.trans t4)
  have HK5 := Hq (HK3.out.trans (t5.mono isMaps_ofTp))
  have y0 := t1.c0
  clear hm5 hg5 t1 t2 t3 t4 t5
  go_wp2_with fail
  have HUN := Hq (HPP.out w5 HB5.out HG5.out)
  refine HUN.out.mono ?_; rintro e w6 ⟨rfl, hs⟩
  have HS := Hq hs
  clear hs
  go_wp2
  go_ret
  exact ⟨rfl, HT5.out.gr HS.out.keeps, HM5.out.tx (HS.out.kp.mono ofGrP_ofTx), HS.out.at_, HB5.out.trans HS.out.below, HK5.out.trans (HS.out.kp.mono fun i o h => ofTx_ofTp i o (ofGrP_ofTx i o h))⟩
end
end Go.Proofs.YtbbgdbnjmonbgaaGreatDoor

set_option linter.unusedVariables false
set_option maxRecDepth 100000
namespace Go.Proofs.YtbbgdbnjmonbgaaGreatDoor
open Go.RowKit
end Go.Proofs.YtbbgdbnjmonbgaaGreatDoor

set_option linter.unusedVariables false
set_option maxRecDepth 100000
namespace Go.Proofs.YtbbgdbnjmonbgaaGreatDoor
open Go.RowKit
theorem flush_other {S : SD} {k : Int} (h : ∀ x ∈ S.waits, x.k ≠ k) : S.flush.lasts k = S.lasts k := by
 show flushed S.lasts S.waits k = _
 rw [read_flush, found_none h]
 rfl
theorem flush_lasts (S : SD) (k : Int) : S.flush.lasts k = S.read k := read_flush _ _ _
theorem SD.Ok.flush' {S : SD} (h : S.Ok) : S.flush.Ok := by
 refine ⟨h.s1, h.s2, fun k => ?_, by simp [SD.flush], ?_, ?_⟩
 ·
  rw [flush_lasts]; exact h.read_len k
 ·
  show ((([] : List Wr).length : Nat) : Int) ≤ S.ops + 1
  have := h.o1
  simp
  omega
 ·
  show 0 ≤ S.ops + 1
  have := h.o1
  omega
theorem SD.Ok.write' {S : SD} (h : S.Ok) {k : Int} {b : List UInt8} (hk : 0 ≤ k ∧ k < S.size) (hb : b.length ≤ 512) : (S.write k b).Ok := by
 refine ⟨h.s1, h.s2, h.l, fun x hx => ?_, ?_, ?_⟩
 ·
  rcases List.mem_append.1 hx with hx | hx
  ·
   exact h.w x hx
  ·
   obtain rfl := List.mem_singleton.1 hx
   exact ⟨pad_length hb, hk⟩
 ·
  show ((S.waits ++ [_]).length : Int) ≤ S.ops + 1
  have := h.n
  rw [List.length_append]
  simp
  omega
 ·
  show 0 ≤ S.ops + 1
  have := h.o1
  omega
end Go.Proofs.YtbbgdbnjmonbgaaGreatDoor

set_option linter.unusedVariables false
set_option maxRecDepth 100000
namespace Go.Proofs.YtbbgdbnjmonbgaaGreatDoor
open Go.RowKit
def HeldAt (X : PG) (h k : Int) : Prop := (X.F.used k = true ∧ X.L k = false) ∨ ∃ w, X.F.waits k = some w ∧ h < w
structure PinsOk (ps : List (Int × Int)) (gens : List Int) (g : Nat) : Prop where
 rise : ps.Pairwise fun a b => a.1 < b.1
 cnt : ∀ x ∈ ps, x.2 = (gens.count x.1 : Int) ∧ 1 ≤ x.2
 mem : ∀ h ∈ gens, ∃ x ∈ ps, x.1 = h
 le : ∀ h ∈ gens, h ≤ (g : Int)
theorem FL.st_free {F : FL} {k : Int} (h : F.st k = 1) : F.lo ≤ k ∧ k < F.hi ∧ F.used k = false ∧ F.waits k = none := by
 have hk : F.has k = true := by
  cases hh : F.has k
  ·
   simp [FL.st, hh] at h
  ·
   rfl
 have hu : F.used k = false := by
  cases hh : F.used k
  ·
   rfl
  ·
   simp [FL.st, hk, hh] at h
 have hw : F.waits k = Option.none := by
  cases hh : F.waits k
  ·
   rfl
  ·
   simp [FL.st, hk, hu, hh] at h
 exact ⟨(FL.has_iff.1 hk).1, (FL.has_iff.1 hk).2, hu, hw⟩
theorem FL.st_any {F : FL} {k : Int} : F.st k ≠ 0 ↔ F.lo ≤ k ∧ k < F.hi := by
 rw [← FL.has_iff]
 unfold FL.st
 cases F.has k <;> cases F.used k <;> cases (F.waits k).isSome <;> simp
theorem mem_eraseIdx_nodup {l : List Int} (h : l.Nodup) {j : Nat} {k : Int} (hj : l[j]? = some k) (x : Int) : x ∈ l.eraseIdx j ↔ x ∈ l ∧ x ≠ k := by
 induction l generalizing j with
 | nil => simp at hj
 | cons y l ih =>
  rw [List.nodup_cons] at h
  cases j with
  | zero =>
   simp only [List.getElem?_cons_zero, Option.some.injEq] at hj
   subst hj
   rw [List.eraseIdx_cons_zero, List.mem_cons]
   constructor
   ·
    intro hx
    exact ⟨.inr hx, fun e => h.1 (e ▸ hx)⟩
   ·
    rintro ⟨hx | hx, h2⟩
    ·
     exact absurd hx h2
    ·
     exact hx
  | succ j =>
   rw [List.getElem?_cons_succ] at hj
   rw [List.eraseIdx_cons_succ, List.mem_cons, List.mem_cons, ih h.2 hj]
   constructor
   ·
    rintro (hx | hx)
    ·
     exact ⟨.inl hx, fun e => h.1 (by rw [← hx, e]; exact List.mem_of_getElem? hj)⟩
    ·
     exact ⟨.inr hx.1, hx.2⟩
   ·
    rintro ⟨hx | hx, h2⟩
    ·
     exact .inl hx
    ·
     exact .inr ⟨hx, h2⟩
end Go.Proofs.YtbbgdbnjmonbgaaGreatDoor

set_option linter.unusedVariables false
set_option maxRecDepth 100000
namespace Go.Proofs.YtbbgdbnjmonbgaaGreatDoor
open Go.RowKit
theorem PinsOk.low {X : PG} {gens : List Int} (h : PinsOk X.pins gens X.g) : X.low ≤ X.g ∧ ∀ g ∈ gens, X.low ≤ g := by
 unfold PG.low
 cases hp : X.pins with
 | nil =>
  refine ⟨Int.le_refl _, fun g hg => ?_⟩
  obtain ⟨x, hx, _⟩ := h.mem g hg
  rw [hp] at hx
  cases hx
 | cons y ps =>
  have hr := h.rise
  rw [hp, List.pairwise_cons] at hr
  have hall : ∀ g ∈ gens, y.1 ≤ g := fun g hg => by
   obtain ⟨x, hx, rfl⟩ := h.mem g hg
   rw [hp, List.mem_cons] at hx
   rcases hx with rfl | hx
   ·
    exact Int.le_refl _
   ·
    have := hr.1 x hx; omega
  refine ⟨?_, hall⟩
  have hy := h.cnt y (by rw [hp]; simp)
  have hc : 0 < gens.count y.1 := by omega
  exact h.le _ (List.count_pos_iff.1 hc)
end Go.Proofs.YtbbgdbnjmonbgaaGreatDoor

set_option linter.unusedVariables false
set_option maxRecDepth 100000
namespace Go.Proofs.YtbbgdbnjmonbgaaGreatDoor
open Go.RowKit
theorem count_eraseIdx_int {l : List Int} {j : Nat} {v : Int} (hj : l[j]? = some v) (a : Int) : (l.eraseIdx j).count a + (if v = a then 1 else 0) = l.count a := by
 induction l generalizing j with
 | nil => simp at hj
 | cons y l ih =>
  cases j with
  | zero =>
   simp only [List.getElem?_cons_zero, Option.some.injEq] at hj
   subst hj
   rw [List.eraseIdx_cons_zero, List.count_cons]
   simp
  | succ j =>
   rw [List.getElem?_cons_succ] at hj
   rw [List.eraseIdx_cons_succ, List.count_cons, List.count_cons, ← ih hj]
   omega
theorem rise_idx {ps : List (Int × Int)} (h : ps.Pairwise fun a b => a.1 < b.1) {i k : Nat} {x y : Int × Int} (hi : ps[i]? = some x) (hk : ps[k]? = some y) (e : x.1 = y.1) : i = k := by
 obtain ⟨i1, rfl⟩ := List.getElem?_eq_some_iff.1 hi
 obtain ⟨k1, rfl⟩ := List.getElem?_eq_some_iff.1 hk
 rw [List.pairwise_iff_getElem] at h
 rcases Nat.lt_trichotomy i k with h1 | h1 | h1
 ·
  have := h i k i1 k1 h1; omega
 ·
  exact h1
 ·
  have := h k i k1 i1 h1; omega
theorem incAt_get (ps : List (Int × Int)) (i : Nat) (d : Int) (k : Nat) : (incAt ps i d)[k]? = (ps[k]?).map fun x => if i = k then (x.1, x.2 + d) else x := by
 unfold incAt
 rw [List.getElem?_modify]
 by_cases e : i = k
 ·
  subst e; cases ps[i]? <;> simp
 ·
  cases ps[k]? <;> simp [e]
theorem incAt_fst (ps : List (Int × Int)) (i : Nat) (d : Int) : (incAt ps i d).map (·.1) = ps.map (·.1) := by
 apply List.ext_getElem?
 intro k
 rw [List.getElem?_map, List.getElem?_map, incAt_get]
 cases ps[k]? with
 | none => rfl
 | some x => show some _ = some _; split <;> rfl
theorem rise_fst {ps : List (Int × Int)} : (ps.Pairwise fun a b => a.1 < b.1) ↔ (ps.map (·.1)).Pairwise (· < ·) := by rw [List.pairwise_map]
theorem pidx_get {ps : List (Int × Int)} {g : Int} {i : Nat} (h : pidx ps g = some i) : ∃ x, ps[i]? = some x ∧ x.1 = g := by
 unfold pidx at h
 rw [List.findIdx?_eq_some_iff_getElem] at h
 obtain ⟨h1, h2, _⟩ := h
 exact ⟨ps[i], List.getElem?_eq_getElem h1, by simpa using h2⟩
theorem pidx_not {ps : List (Int × Int)} {g : Int} (h : pidx ps g = none) : ∀ x ∈ ps, x.1 ≠ g := by
 unfold pidx at h
 rw [List.findIdx?_eq_none_iff] at h
 intro x hx
 simpa using h x hx
theorem PinsOk.pin {ps : List (Int × Int)} {gens : List Int} {g : Nat} (h : PinsOk ps gens g) : PinsOk (match pidx ps g with | some i => incAt ps i 1 | none => ps ++ [((g : Int), 1)]) (gens ++ [(g : Int)]) g := by
 have hle : ∀ a ∈ gens ++ [(g : Int)], a ≤ (g : Int) := fun a ha => by
  rcases List.mem_append.1 ha with ha | ha
  ·
   exact h.le a ha
  ·
   rw [List.mem_singleton] at ha; omega
 have hcnt : ∀ a : Int, (gens ++ [(g : Int)]).count a = gens.count a + (if (g : Int) = a then 1 else 0) := fun a => by
  rw [List.count_append, List.count_singleton]
  simp
 have hpos : ∀ x ∈ ps, x.1 ≤ (g : Int) := fun x hx => h.le _ (List.count_pos_iff.1 (by have := h.cnt x hx; omega))
 cases hp : pidx ps g with
 | some i =>
  obtain ⟨x, hx, hxg⟩ := pidx_get hp
  refine ⟨by rw [rise_fst, incAt_fst, ← rise_fst]; exact h.rise, fun y hy => ?_, fun a ha => ?_, hle⟩
  ·
   obtain ⟨k, hk⟩ := List.getElem?_of_mem hy
   rw [incAt_get] at hk
   cases hz : ps[k]? with
   | none => rw [hz] at hk; cases hk
   | some z =>
    rw [hz] at hk
    have hk' : (if i = k then (z.1, z.2 + 1) else z) = y := Option.some.inj hk
    obtain ⟨c1, c2⟩ := h.cnt z (List.mem_of_getElem? hz)
    by_cases e : i = k
    ·
     rw [if_pos e] at hk'
     subst hk'
     subst e
     rw [hx] at hz
     cases hz
     show x.2 + 1 = (((gens ++ [(g : Int)]).count x.1 : Nat) : Int) ∧ 1 ≤ x.2 + 1
     rw [hcnt, if_pos hxg.symm]
     omega
    ·
     rw [if_neg e] at hk'
     subst hk'
     have : (g : Int) ≠ z.1 := fun e2 => e (rise_idx h.rise hx hz (hxg.trans e2))
     rw [hcnt, if_neg this]
     exact ⟨c1, c2⟩
  ·
   have hex : ∃ y ∈ ps, y.1 = a := by
    rcases List.mem_append.1 ha with ha | ha
    ·
     exact h.mem a ha
    ·
     rw [List.mem_singleton] at ha
     exact ⟨x, List.mem_of_getElem? hx, by rw [hxg, ha]⟩
   obtain ⟨y, hy, hya⟩ := hex
   have : a ∈ (incAt ps i 1).map (·.1) := by rw [incAt_fst]; exact List.mem_map.2 ⟨y, hy, hya⟩
   exact List.mem_map.1 this
 | none =>
  have hn := pidx_not hp
  have hlt : ∀ x ∈ ps, x.1 < (g : Int) := fun x hx => by
   have := hpos x hx
   have := hn x hx
   omega
  refine ⟨?_, fun y hy => ?_, fun a ha => ?_, hle⟩
  ·
   rw [List.pairwise_append]
   exact ⟨h.rise, by simp, fun x hx y hy => by rw [List.mem_singleton] at hy; rw [hy]; exact hlt x hx⟩
  ·
   rcases List.mem_append.1 hy with hy | hy
   ·
    rw [hcnt, if_neg (fun e => hn y hy e.symm)]
    exact h.cnt y hy
   ·
    rw [List.mem_singleton] at hy
    subst hy
    have h0 : gens.count (g : Int) = 0 := List.count_eq_zero.2 fun hm => by
     obtain ⟨x, hx, hxg⟩ := h.mem _ hm
     exact hn x hx hxg
    show (1 : Int) = (((gens ++ [(g : Int)]).count (g : Int) : Nat) : Int) ∧ _
    rw [hcnt, h0, if_pos rfl]
    exact ⟨rfl, by omega⟩
  ·
   rcases List.mem_append.1 ha with ha | ha
   ·
    obtain ⟨x, hx, hxa⟩ := h.mem a ha
    exact ⟨x, List.mem_append_left _ hx, hxa⟩
   ·
    rw [List.mem_singleton] at ha
    exact ⟨((g : Int), 1), by simp, ha.symm⟩
theorem PinsOk.at {ps : List (Int × Int)} {gens : List Int} {g : Nat} (h : PinsOk ps gens g) {j : Nat} {v : Int} (hj : gens[j]? = some v) : ∃ i x, pidx ps v = some i ∧ ps[i]? = some x ∧ x.1 = v ∧ x.2 = (gens.count v : Int) ∧ 1 ≤ x.2 := by
 cases hp : pidx ps v with
 | none =>
  obtain ⟨x, hx, hxv⟩ := h.mem v (List.mem_of_getElem? hj)
  exact absurd hxv (pidx_not hp x hx)
 | some i =>
  obtain ⟨x, hx, hxv⟩ := pidx_get hp
  have := h.cnt x (List.mem_of_getElem? hx)
  rw [hxv] at this
  exact ⟨i, x, rfl, hx, hxv, this.1, this.2⟩
theorem mem_of_eraseIdx {l : List Int} {j : Nat} {a : Int} (h : a ∈ l.eraseIdx j) : a ∈ l := (List.eraseIdx_sublist _ _).subset h
theorem PinsOk.less {ps : List (Int × Int)} {gens : List Int} {g : Nat} (h : PinsOk ps gens g) {j : Nat} {v : Int} (hj : gens[j]? = some v) {i : Nat} {x : Int × Int} (hx : ps[i]? = some x) (hxv : x.1 = v) (h2 : 2 ≤ x.2) : PinsOk (incAt ps i (-1)) (gens.eraseIdx j) g := by
 refine ⟨by rw [rise_fst, incAt_fst, ← rise_fst]; exact h.rise, fun y hy => ?_, fun a ha => ?_, fun a ha => h.le a (mem_of_eraseIdx ha)⟩
 ·
  obtain ⟨k, hk⟩ := List.getElem?_of_mem hy
  rw [incAt_get] at hk
  cases hz : ps[k]? with
  | none => rw [hz] at hk; cases hk
  | some z =>
   rw [hz] at hk
   have hk' : (if i = k then (z.1, z.2 + (-1)) else z) = y := Option.some.inj hk
   obtain ⟨c1, c2⟩ := h.cnt z (List.mem_of_getElem? hz)
   have hc := count_eraseIdx_int hj z.1
   by_cases e : i = k
   ·
    rw [if_pos e] at hk'
    subst hk'
    subst e
    rw [hx] at hz
    cases hz
    rw [if_pos hxv.symm] at hc
    show x.2 + (-1) = (((gens.eraseIdx j).count x.1 : Nat) : Int) ∧ 1 ≤ x.2 + (-1)
    omega
   ·
    rw [if_neg e] at hk'
    subst hk'
    rw [if_neg (fun e2 => e (rise_idx h.rise hx hz (hxv.trans e2)))] at hc
    omega
 ·
  obtain ⟨y, hy, hya⟩ := h.mem a (mem_of_eraseIdx ha)
  have : a ∈ (incAt ps i (-1)).map (·.1) := by rw [incAt_fst]; exact List.mem_map.2 ⟨y, hy, hya⟩
  exact List.mem_map.1 this
theorem PinsOk.gone {ps : List (Int × Int)} {gens : List Int} {g : Nat} (h : PinsOk ps gens g) {j : Nat} {v : Int} (hj : gens[j]? = some v) {i : Nat} {x : Int × Int} (hx : ps[i]? = some x) (hxv : x.1 = v) (h1 : x.2 = 1) : PinsOk (ps.eraseIdx i) (gens.eraseIdx j) g := by
 have hne : ∀ {k z}, k ≠ i → ps[k]? = some z → v ≠ z.1 := fun {k z} hk hz e => hk (rise_idx h.rise hz hx (by rw [hxv, e]))
 refine ⟨h.rise.sublist (List.eraseIdx_sublist _ _), fun y hy => ?_, fun a ha => ?_, fun a ha => h.le a (mem_of_eraseIdx ha)⟩
 ·
  rw [List.mem_eraseIdx_iff_getElem?] at hy
  obtain ⟨k, hk, hz⟩ := hy
  obtain ⟨c1, c2⟩ := h.cnt y (List.mem_of_getElem? hz)
  have hc := count_eraseIdx_int hj y.1
  rw [if_neg (hne hk hz)] at hc
  omega
 ·
  have hav : a ≠ v := fun e => by
   subst e
   have hc := count_eraseIdx_int hj a
   rw [if_pos rfl] at hc
   have := (h.cnt x (List.mem_of_getElem? hx)).1
   rw [hxv] at this
   have := List.count_pos_iff.2 ha
   omega
  obtain ⟨y, hy, hya⟩ := h.mem a (mem_of_eraseIdx ha)
  obtain ⟨k, hk⟩ := List.getElem?_of_mem hy
  refine ⟨y, ?_, hya⟩
  rw [List.mem_eraseIdx_iff_getElem?]
  refine ⟨k, fun e => hav ?_, hk⟩
  subst e
  rw [hx] at hk
  cases hk
  rw [← hya, hxv]
end Go.Proofs.YtbbgdbnjmonbgaaGreatDoor

set_option linter.unusedVariables false
set_option maxRecDepth 100000
namespace Go.Proofs.YtbbgdbnjmonbgaaGreatDoor
open Go.RowKit
end Go.Proofs.YtbbgdbnjmonbgaaGreatDoor

