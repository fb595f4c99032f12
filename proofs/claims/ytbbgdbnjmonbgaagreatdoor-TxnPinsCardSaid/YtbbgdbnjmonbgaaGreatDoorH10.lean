/-
  A pager.
  pager.write.
  pager.Format..
  pager.Open..
-/
import Derived.Test.YtbbgdbnjmonbgaaGreatDoorH00
import Derived.Test.YtbbgdbnjmonbgaaGreatDoorH04
import Derived.Test.YtbbgdbnjmonbgaaGreatDoorH06
import Derived.Test.YtbbgdbnjmonbgaaGreatDoorH09
import Derived.BigQuiet
set_option linter.unusedVariables false
set_option maxRecDepth 100000
namespace Go.Proofs.YtbbgdbnjmonbgaaGreatDoor
open Go.RowKit
structure PG where
 S : SD
 F : FL
 g : Nat
 r : Nat
 n : Nat
 d : Nat
 L : Int → Bool
 pins : List (Int × Int)
 kept : Bool
 laid : Bool
 failed : Bool
def isMaps (bs : List Nat) : Nat → Obj → Bool
 | i, .map _ _ => bs.contains i
 | _, _ => false
def isTy (t : TypeId) : Nat → Obj → Bool
 | _, .cells _ t' _ => t' == t
 | _, _ => false
def ofGr : Nat → Obj → Bool
 | _, .map _ _ => true
 | _, .cells _ t _ => t == 78 || t == 140 || t == 92 || t == 123
 | _, _ => false
def ofGrP (P : Nat) : Nat → Obj → Bool
 | i, .map _ _ => decide (i < P)
 | i, o => ofGr i o
theorem ofGrP_ofGr {P : Nat} (i : Nat) (o : Obj) (h : ofGrP P i o = true) : ofGr i o = true := by
 cases o with
 | map es c => rfl
 | cells c t f => exact h
 | _ => cases h
theorem Keeps.mono {K K' : Nat → Obj → Bool} {w w' : World} (h : Keeps K w w') (hk : ∀ i o, K i o = true → K' i o = true) : Keeps K' w w' :=
 ⟨h.size, fun {i o} h1 h2 => h.stay h1 (by cases h3 : K i o with | false => rfl | true => rw [hk i o h3] at h2; cases h2)⟩
theorem Keeps.of_only {bs : List Nat} {w w' : World} (h : Only bs w w') (hm : ∀ b ∈ bs, ∃ es c, w.heap[b]? = some (.map es c)) : Keeps (isMaps bs) w w' :=
 ⟨h.size, fun {i o} h1 h2 => by
  rw [h.block (aL h1)]
  ·
   exact h1
  ·
   intro hb
   obtain ⟨es, c, he⟩ := hm i hb
   rw [h1] at he
   cases he
   simp only [isMaps, List.contains_eq_mem, hb, decide_true] at h2
   cases h2⟩
theorem Keeps.of_grown {w w' : World} {b : Nat} {o : Obj} {K : Nat → Obj → Bool} (h : w.grownBy w' (some b)) (hb : w.heap[b]? = some o) (hK : K b o = true) : Keeps K w w' :=
 Keeps.grown h fun i o' hi h1 => by cases hi; rw [hb] at h1; cases h1; exact hK
theorem ofDisk_ofGr {lm fm : Nat} (i : Nat) (o : Obj) (h : ofDisk lm fm i o = true) : ofGr i o = true := by
 cases o with
 | map es c => rfl
 | cells c t f =>
  simp only [ofDisk, ofGr, Bool.or_eq_true] at h ⊢
  rcases h with h | h <;> simp [h]
 | _ => cases h
theorem isPager_ofGr (i : Nat) (o : Obj) (h : isTy 92 i o = true) : ofGr i o = true := by
 cases o with
 | cells c t f =>
  simp only [isTy, ofGr, Bool.or_eq_true] at h ⊢
  simp [h]
 | _ => cases h
theorem isPin_ofGr (i : Nat) (o : Obj) (h : isTy 123 i o = true) : ofGr i o = true := by
 cases o with
 | cells c t f =>
  simp only [isTy, ofGr, Bool.or_eq_true] at h ⊢
  simp [h]
 | _ => cases h
def pcells (ps : List (Int × Int)) : List Value := ps.flatMap fun x => [.int .i64 x.1, .int .i64 x.2]
theorem pcells_length (ps : List (Int × Int)) : (pcells ps).length = ps.length * 2 := by
 induction ps with
 | nil => rfl
 | cons x ps ih => simp only [pcells, List.flatMap_cons, List.length_append, List.length_cons, List.length_nil] at *; omega
theorem isMaps_ofGrP {P : Nat} {bs : List Nat} (hb : ∀ b ∈ bs, b < P) (i : Nat) (o : Obj) (h : isMaps bs i o = true) : ofGrP P i o = true := by
 cases o with
 | map es c =>
  simp only [isMaps, List.contains_eq_mem, decide_eq_true_eq] at h
  exact decide_eq_true (hb i h)
 | _ => cases h
theorem ofDisk_ofGrP {P lm fm : Nat} (h1 : lm < P) (h2 : fm < P) (i : Nat) (o : Obj) (h : ofDisk lm fm i o = true) : ofGrP P i o = true := by
 cases o with
 | map es c =>
  simp only [ofDisk, Bool.or_eq_true, beq_iff_eq] at h
  refine decide_eq_true ?_
  rcases h with h | h <;> omega
 | cells c t f => exact ofDisk_ofGr i _ h
 | _ => cases h
theorem isPager_ofGrP {P : Nat} (i : Nat) (o : Obj) (h : isTy 92 i o = true) : ofGrP P i o = true := by
 cases o with
 | cells c t f => exact isPager_ofGr i _ h
 | _ => cases h
theorem isPin_ofGrP {P : Nat} (i : Nat) (o : Obj) (h : isTy 123 i o = true) : ofGrP P i o = true := by
 cases o with
 | cells c t f => exact isPin_ofGr i _ h
 | _ => cases h
def setOf (L : Int → Bool) : Int → Option Value := fun k => if L k = true then some (.agg #[]) else none
def grCells (pd pl la : Nat) (v : Value) (X : PG) : Array Value :=
 #[.pointer (some ⟨pd, 0, none⟩), .pointer (some ⟨pl, 0, none⟩), .int .i64 X.g, .int .i64 X.r, .int .i64 X.n, .int .i64 X.d, .map (some la), v, .bool X.kept, .bool X.laid, .bool X.failed]
structure GrIs (w : World) (B P pd lm fm pl um wm la : Nat) (v : Value) (X : PG) : Prop where
 blk : w.heap[P]? = some (.cells (grCells pd pl la v X) 92 (0, 0))
 disk : DiskAt w B pd lm fm X.S
 list : FrIs w pl um wm X.F
 mla : MapSt w la (setOf X.L)
 pins : w.ownsRow B 123 2 v X.pins.length (pcells X.pins)
 bP : B ≤ P
 bu : B ≤ um
 bw : B ≤ wm
 ba : B ≤ la
 nlm : lm ≠ um ∧ lm ≠ wm ∧ lm ≠ la
 nfm : fm ≠ um ∧ fm ≠ wm ∧ fm ≠ la
 nla : la ≠ um ∧ la ≠ wm
 g0 : X.g ≤ 1152921504606846976
 mP : lm < P ∧ fm < P ∧ um < P ∧ wm < P ∧ la < P
def GrAt (w : World) (B P pd : Nat) (X : PG) : Prop := ∃ lm fm pl um wm la v, GrIs w B P pd lm fm pl um wm la v X
structure GrStep (w w' : World) (B P pd : Nat) (X : PG) : Prop where
 at_ : GrAt w' B P pd X
 below : Below B w w'
 kp : Keeps (ofGrP P) w w'
theorem GrStep.keeps {w w' : World} {B P pd : Nat} {X : PG} (h : GrStep w w' B P pd X) : Keeps ofGr w w' := h.kp.mono ofGrP_ofGr
theorem GrStep.of {w w1 w2 : World} {B P pd : Nat} {X : PG} (hb : Below B w w1) (hk : Keeps (ofGrP P) w w1) (h : GrStep w1 w2 B P pd X) : GrStep w w2 B P pd X := ⟨h.at_, hb.trans h.below, hk.trans h.kp⟩
section
variable {w w' : World} {B P pd lm fm pl um wm la : Nat} {v : Value} {X : PG}
theorem MapSt.keeps {K : Nat → Obj → Bool} {b : Nat} {f : Int → Option Value} (h : MapSt w b f) (hk : Keeps K w w') (hK : ∀ es c, K b (.map es c) = false) : MapSt w' b f := by
 obtain ⟨es, c, hb, hst⟩ := h.st
 exact h.block (by rw [hk.stay hb (hK _ _), hb])
theorem FrIs.keeps {K : Nat → Obj → Bool} {F : FL} (h : FrIs w pl um wm F) (hk : Keeps K w w') (hl : ∀ c, K pl (.cells c 149 (0, 0)) = false) (hu : ∀ es c, K um (.map es c) = false) (hw : ∀ es c, K wm (.map es c) = false) : FrIs w' pl um wm F :=
 ⟨hk.stay h.blk (hl _), h.mu.keeps hk hu, h.mw.keeps hk hw, h.ne, h.ok⟩
theorem DiskAt.keeps {K : Nat → Obj → Bool} {S : SD} (h : DiskAt w B pd lm fm S) (hk : Keeps K w w') (hd : ∀ i c f, K i (.cells c 78 f) = false) (hw : ∀ i c f, K i (.cells c 140 f) = false) (hu : ∀ i c f, K i (.cells c 5 f) = false)
  (h1 : ∀ es c, K lm (.map es c) = false) (h2 : ∀ es c, K fm (.map es c) = false) : DiskAt w' B pd lm fm S := by
 obtain ⟨v, ms, fl, ff, h⟩ := h
 have hs : ∀ {g : Nat} {l : List UInt8}, Sec w g l → Sec w' g l := fun {g l} h => hk.stay h (hu _ _ _)
 have hm : ∀ {m : Nat} {f : Int → Option Value}, MapIs w m f → (∀ es c, K m (.map es c) = false) → MapIs w' m f := fun {m f} h hK => by
  obtain ⟨es, c, hb, hr⟩ := h
  exact ⟨es, c, hk.stay hb (hK _ _), hr⟩
 refine ⟨v, ms, fl, ff, hk.stay h.blk (hd _ _ _), h.hp, h.lb, h.fb, h.ne, h.ws, owns_on h.own fun g c h => hk.stay h (hw _ _ _), fun x hx => hs (h.sec x hx), hm h.ml h1, hm h.mf h2, fun k => ?_, fun k => ?_, h.ok⟩
 ·
  rcases h.ll k with h | ⟨g, h, h'⟩
  ·
   exact .inl h
  ·
   exact .inr ⟨g, h, hs h'⟩
 ·
  rcases h.lf k with h | ⟨g, l, h, h1, h'⟩
  ·
   exact .inl h
  ·
   exact .inr ⟨g, l, h, h1, hs h'⟩
theorem pins_keeps {K : Nat → Obj → Bool} {n : Nat} {xs : List Value} (h : w.ownsRow B 123 2 v n xs) (hk : Keeps K w w') (hK : ∀ i c f, K i (.cells c 123 f) = false) : w'.ownsRow B 123 2 v n xs := by
 refine ⟨h.1, ?_⟩
 rcases h.2 with h0 | ⟨g, cap, cur, hv, h1, hg, h2⟩
 ·
  exact .inl h0
 ·
  exact .inr ⟨g, cap, cur, hv, h1, hk.stay hg (hK _ _ _), h2⟩
theorem GrIs.mUW (h : GrIs w B P pd lm fm pl um wm la v X) : ∀ b ∈ [um, wm], b < P := by
 intro b hb
 simp only [List.mem_cons, List.not_mem_nil, or_false] at hb
 rcases hb with rfl | rfl
 ·
  exact h.mP.2.2.1
 ·
  exact h.mP.2.2.2.1
theorem GrIs.mLa (h : GrIs w B P pd lm fm pl um wm la v X) : ∀ b ∈ [la], b < P := by
 intro b hb
 rw [List.mem_singleton] at hb
 subst hb
 exact h.mP.2.2.2.2
theorem GrIs.base (h : GrIs w B P pd lm fm pl um wm la v X) : B ≤ w.heap.size := h.disk.base
theorem GrAt.base (h : GrAt w B P pd X) : B ≤ w.heap.size := by
 obtain ⟨lm, fm, pl, um, wm, la, v, h⟩ := h
 exact h.base
theorem GrIs.below (h : GrIs w B P pd lm fm pl um wm la v X) (hb : Below w.heap.size w w') : GrIs w' B P pd lm fm pl um wm la v X := by
 obtain ⟨h1, h2, h3, h4, h5, h6, h7, h8, h9, h10, h11, h12, h13, h14⟩ := h
 refine ⟨by rw [hb.block _ (aL h1)]; exact h1, h2.below hb, h3.below hb, h4.block (hb.block _ h4.lt), pins_keeps (K := fun _ _ => false) h5 (Keeps.below hb) (fun _ _ _ => rfl), h6, h7, h8, h9, h10, h11, h12, h13, h14⟩
theorem GrAt.below (h : GrAt w B P pd X) (hb : Below w.heap.size w w') : GrAt w' B P pd X := by
 obtain ⟨lm, fm, pl, um, wm, la, v, h⟩ := h
 exact ⟨lm, fm, pl, um, wm, la, v, h.below hb⟩
theorem pd_ne (h : GrIs w B P pd lm fm pl um wm la v X) : (∃ es c, w.heap[um]? = some (.map es c)) ∧ (∃ es c, w.heap[wm]? = some (.map es c)) ∧ ∃ es c, w.heap[la]? = some (.map es c) := by
 obtain ⟨e1, c1, h1, _⟩ := h.list.mu.st
 obtain ⟨e2, c2, h2, _⟩ := h.list.mw.st
 obtain ⟨e3, c3, h3, _⟩ := h.mla.st
 exact ⟨⟨_, _, h1⟩, ⟨_, _, h2⟩, _, _, h3⟩
theorem GrIs.onDisk {S : SD} (h : GrIs w B P pd lm fm pl um wm la v X) (hs : DiskStep w w' B pd lm fm S) : GrIs w' B P pd lm fm pl um wm la v { X with S := S } := by
 have hk := hs.keeps
 have ht : ∀ {b : Nat}, b ≠ lm → b ≠ fm → ∀ es c, ofDisk lm fm b (.map es c) = false := fun {b} h1 h2 es c => by simp [ofDisk, h1, h2]
 refine ⟨hk.stay h.blk rfl, hs.disk, h.list.keeps hk (fun _ => rfl) (ht h.nlm.1.symm h.nfm.1.symm) (ht h.nlm.2.1.symm h.nfm.2.1.symm), h.mla.keeps hk (ht h.nlm.2.2.symm h.nfm.2.2.symm), pins_keeps h.pins hk (fun _ _ _ => rfl), h.bP, h.bu, h.bw, h.ba, h.nlm, h.nfm, h.nla, h.g0, h.mP⟩
theorem GrIs.onList {F : FL} (h : GrIs w B P pd lm fm pl um wm la v X) (hf : FrIs w' pl um wm F) (ho : Only [um, wm] w w') : GrIs w' B P pd lm fm pl um wm la v { X with F := F } ∧ Below B w w' ∧ Keeps (isMaps [um, wm]) w w' := by
 obtain ⟨m1, m2, m3⟩ := pd_ne h
 have hk : Keeps (isMaps [um, wm]) w w' := Keeps.of_only ho fun b hb => by
  simp only [List.mem_cons, List.not_mem_nil, or_false] at hb
  rcases hb with rfl | rfl
  ·
   exact m1
  ·
   exact m2
 have ht : ∀ {b : Nat}, b ≠ um → b ≠ wm → ∀ es c, isMaps [um, wm] b (.map es c) = false := fun {b} h1 h2 es c => by simp [isMaps, h1, h2]
 refine ⟨⟨hk.stay h.blk rfl, h.disk.keeps hk (fun _ _ _ => rfl) (fun _ _ _ => rfl) (fun _ _ _ => rfl) (ht h.nlm.1 h.nlm.2.1) (ht h.nfm.1 h.nfm.2.1), hf, h.mla.keeps hk (ht h.nla.1 h.nla.2), pins_keeps h.pins hk (fun _ _ _ => rfl), h.bP, h.bu, h.bw, h.ba, h.nlm, h.nfm, h.nla, h.g0, h.mP⟩, ho.below h.base ?_, hk⟩
 intro b hb
 simp only [List.mem_cons, List.not_mem_nil, or_false] at hb
 rcases hb with rfl | rfl
 ·
  exact h.bu
 ·
  exact h.bw
theorem GrStep.list {F : FL} (h : GrIs w B P pd lm fm pl um wm la v X) (hf : FrIs w' pl um wm F) (ho : Only [um, wm] w w') : GrStep w w' B P pd { X with F := F } := by
 obtain ⟨h1, h2, h3⟩ := h.onList hf ho
 exact ⟨⟨lm, fm, pl, um, wm, la, v, h1⟩, h2, h3.mono (isMaps_ofGrP h.mUW)⟩
theorem GrIs.onLaid {L : Int → Bool} (h : GrIs w B P pd lm fm pl um wm la v X) (hm : MapSt w' la (setOf L)) (hg : w.grownBy w' (some la)) : GrIs w' B P pd lm fm pl um wm la v { X with L := L } ∧ Below B w w' ∧ Keeps (isMaps [la]) w w' := by
 obtain ⟨m1, m2, es, c, m3⟩ := pd_ne h
 have hk : Keeps (isMaps [la]) w w' := Keeps.of_grown hg m3 (by simp [isMaps])
 have ht : ∀ {b : Nat}, b ≠ la → ∀ es c, isMaps [la] b (.map es c) = false := fun {b} h1 es c => by simp [isMaps, h1]
 refine ⟨⟨hk.stay h.blk rfl, h.disk.keeps hk (fun _ _ _ => rfl) (fun _ _ _ => rfl) (fun _ _ _ => rfl) (ht h.nlm.2.2) (ht h.nfm.2.2), h.list.keeps hk (fun _ => rfl) (ht h.nla.1.symm) (ht h.nla.2.symm), hm, pins_keeps h.pins hk (fun _ _ _ => rfl), h.bP, h.bu, h.bw, h.ba, h.nlm, h.nfm, h.nla, h.g0, h.mP⟩, (Below.refl B w).grown hg h.base (fun k hk => by cases hk; exact h.ba), hk⟩
theorem GrIs.onOwn {v' : Value} {Y : PG} (h : GrIs w B P pd lm fm pl um wm la v X) (hb : w'.heap[P]? = some (.cells (grCells pd pl la v' Y) 92 (0, 0))) (hg : w.grownBy w' (some P)) (hp : w.ownsRow B 123 2 v' Y.pins.length (pcells Y.pins))
  (hS : Y.S = X.S) (hF : Y.F = X.F) (hL : Y.L = X.L) (g0 : Y.g ≤ 1152921504606846976) : GrIs w' B P pd lm fm pl um wm la v' Y ∧ Below B w w' ∧ Keeps (isTy 92) w w' := by
 have hk : Keeps (isTy 92) w w' := Keeps.of_grown hg h.blk (by simp [isTy])
 refine ⟨⟨hb, by rw [hS]; exact h.disk.keeps hk (fun _ _ _ => rfl) (fun _ _ _ => rfl) (fun _ _ _ => rfl) (fun _ _ => rfl) (fun _ _ => rfl), by rw [hF]; exact h.list.keeps hk (fun _ => rfl) (fun _ _ => rfl) (fun _ _ => rfl), by rw [hL]; exact h.mla.keeps hk (fun _ _ => rfl), pins_keeps hp hk (fun _ _ _ => rfl), h.bP, h.bu, h.bw, h.ba, h.nlm, h.nfm, h.nla, g0, h.mP⟩, (Below.refl B w).grown hg h.base (fun k hk => by cases hk; exact h.bP), hk⟩
theorem GrStep.own {v' : Value} {Y : PG} (h : GrIs w B P pd lm fm pl um wm la v X) (hb : w'.heap[P]? = some (.cells (grCells pd pl la v' Y) 92 (0, 0))) (hg : w.grownBy w' (some P)) (hp : w.ownsRow B 123 2 v' Y.pins.length (pcells Y.pins))
  (hS : Y.S = X.S) (hF : Y.F = X.F) (hL : Y.L = X.L) (g0 : Y.g ≤ 1152921504606846976) : GrStep w w' B P pd Y := by
 obtain ⟨h1, h2, h3⟩ := h.onOwn hb hg hp hS hF hL g0
 exact ⟨⟨lm, fm, pl, um, wm, la, v', h1⟩, h2, h3.mono isPager_ofGrP⟩
end
theorem Own.bytes {w : World} {B B' lm fm : Nat} {v : Value} {l : List UInt8} (h : Own w B' v l) {n : Nat} (hn : n = l.length) : ∃ q c, v = .slice q n c ∧ n ≤ c ∧ c ≤ 9223372036854775807 ∧ Bytes w B lm fm q l := by
 obtain ⟨p, c, hv, h1, h2, h3, _⟩ := h.form hn
 refine ⟨p, c, hv, h1, h2, fun w' _ hk => ?_⟩
 have h' : Own w' B' v l := by
  refine ⟨h.1, ?_⟩
  rcases h.2 with h0 | ⟨g, cap, cur, hv, h1, hg, h2⟩
  ·
   exact .inl h0
  ·
   exact .inr ⟨g, cap, cur, hv, h1, hk.stay hg (ofDisk_u8 _ _), h2⟩
 obtain ⟨p', c', hv', _, _, h3', _⟩ := h'.form hn
 rw [hv] at hv'
 cases hv'
 exact h3'
end Go.Proofs.YtbbgdbnjmonbgaaGreatDoor

set_option linter.unusedVariables false
set_option maxRecDepth 100000
namespace Go.Proofs.YtbbgdbnjmonbgaaGreatDoor
open Go.RowKit
set_option maxHeartbeats 1600000 in
theorem grWrite_gen {w : World} (hT : Tab w) {B pd lm fm : Nat} {g r n d : Nat} (hm : MRight g r n d) {z : Int} {R : World → Prop}
  (HW : ∀ w1 q c, Below w.heap.size w w1 → Bytes w1 B lm fm q (mPage g r n d) → Calls Tryz.prog 73 #[.pointer (some ⟨pd, 0, none⟩), .int .i64 ((g % 2 : Nat) : Int), .slice q 512 c] w1 fun e w' => e = .returned (.int .i64 z) ∧ R w') :
  Calls Tryz.prog 37 #[.pointer (some ⟨pd, 0, none⟩), .agg #[.int .i64 g, .int .i64 r, .int .i64 n, .int .i64 d]] w fun e w' => e = .returned (.int .i64 z) ∧ R w' := by
 have HS : Hid (∀ w1, Below w.heap.size w w1 → Calls Tryz.prog 72 #[.agg #[.int .i64 g, .int .i64 r, .int .i64 n, .int .i64 d]] w1 (MSealPost w1 (mPage g r n d) (g % 2))) := Hq fun w1 hb => mseal_ok (hT.below hT.lt hb) hm
 have HWh := Hq HW
 have HL : Hid (512 = (mPage g r n d).length) := Hq (mPage_length g r n d).symm
 clear hT hm HW
 generalize mPage g r n d = l at *
 generalize g % 2 = no at *
 generalize (g : Int) = g' at *
 generalize (r : Int) = r' at *
 generalize (n : Int) = n' at *
 generalize (d : Int) = d' at *
 go_enter Tryz.func37, Tryz.ntmps37
 go_wp2_with fail
 refine (HS.out _ (sbox1 _ _)).mono ?_; rintro e w1 ⟨v, rfl, ho, hb⟩
 obtain ⟨q, c, rfl, _, _, hby⟩ := ho.bytes (B := B) (lm := lm) (fm := fm) HL.out
 have HB := Hq ((sbox1 w _).trans (hb.mono (sbox1 w _).size))
 have HBY := Hq hby
 clear ho hb hby
 go_wp2_with fail
 refine (HWh.out _ _ _ HB.out HBY.out).mono ?_; rintro e w2 ⟨rfl, hr⟩
 have HR := Hq hr
 clear hr
 go_wp2
 go_ret
 exact ⟨rfl, HR.out⟩
theorem grWrite_ok {w : World} (hT : Tab w) {B pd lm fm : Nat} {S : SD} (h : DiskAt w B pd lm fm S) (h0 : S.left ≠ 0) (hl : -1 ≤ S.left) (hu : S.left ≤ 9223372036854775807) (ho : S.ops ≤ 999999999) (h2 : 2 ≤ S.size) {g r n d : Nat} (hm : MRight g r n d) :
  Calls Tryz.prog 37 #[.pointer (some ⟨pd, 0, none⟩), .agg #[.int .i64 g, .int .i64 r, .int .i64 n, .int .i64 d]] w fun e w' => e = .returned (.int .i64 0) ∧ DiskStep w w' B pd lm fm (S.write ((g % 2 : Nat) : Int) (mPage g r n d)) :=
 grWrite_gen hT hm fun w1 q c hb hby =>
  (write_any (h.below hb) h0 hl hu ho (by omega) (by omega) c hby (mPage_length g r n d).symm (by rw [mPage_length]; omega)).mono fun e w' ⟨he, hs⟩ => ⟨he, DiskStep.of (hb.mono h.base) (Keeps.below hb) hs⟩
structure MendOn (w : World) (pd : Nat) (no : Int) (l : List UInt8) (G R N D E : Nat) : Prop where
 rd : Calls Tryz.prog 39 #[.pointer (some ⟨pd, 0, none⟩), .int .i64 no] w (ReadPost w l)
 op : ∀ w1 g, Below w.heap.size w w1 → Sec w1 g l → Calls Tryz.prog 78 #[.slice (some ⟨g, 0, none⟩) 512 512, .int .i64 no] w1 (MOpPost w1 G R N D E)
theorem SD.Ok.read_len {S : SD} (h : S.Ok) (k : Int) : (S.read k).length = 512 := by
 unfold SD.read
 cases hf : found S.waits k with
 | none => exact h.l k
 | some l => exact found_len h.w hf
theorem mendOn {w : World} (hT : Tab w) {B pd lm fm : Nat} {S : SD} (h : DiskAt w B pd lm fm S) {no : Int} (hno : no = 0 ∨ no = 1) (h2 : 2 ≤ S.size) :
  MendOn w pd no (S.read no) (mG (S.read no) no) (mR (S.read no) no) (mN (S.read no) no) (mD (S.read no) no) (mE (S.read no) no) :=
 ⟨read_any h (k := no) (by omega) (by omega), fun w1 g hb hs => mopen_any (hT.below hT.lt hb) hs.bs (h.ok.read_len no).symm (Nat.le_refl _) (by omega) no⟩
set_option maxHeartbeats 1600000 in
theorem grMend_there {w : World} {pd : Nat} {no : Int} {l : List UInt8} {G R N D E : Nat} (h : MendOn w pd no l G R N D E) (h0 : E = 0) :
  Calls Tryz.prog 41 #[.pointer (some ⟨pd, 0, none⟩), .int .i64 no] w fun e w' => e = .returned (.int .i64 0) ∧ Below w.heap.size w w' := by
 subst h0
 have H := Hq h
 clear h
 go_enter Tryz.func41, Tryz.ntmps41
 go_wp2_with fail
 refine H.out.rd.mono ?_; rintro e w1 ⟨g, rfl, hg, hs, hb1⟩
 have HB1 := Hq hb1
 have HS := Hq hs
 clear hg hs hb1
 go_wp2_with fail
 refine (H.out.op _ _ HB1.out HS.out).mono ?_; rintro e w2 ⟨rfl, hb2⟩
 have HB2 := Hq (HB1.out.trans (hb2.mono HB1.out.size))
 clear hb2
 go_wp2
 go_ret
 exact ⟨rfl, HB2.out.alloc HB2.out.size _⟩
set_option maxHeartbeats 1600000 in
theorem grMend_gen {w : World} {pd : Nat} {no : Int} {l : List UInt8} {G R N D E : Nat} (h : MendOn w pd no l G R N D E) (h0 : E ≠ 0) {R1 R2 : World → Prop}
  (HW : ∀ w1, Below w.heap.size w w1 → Calls Tryz.prog 73 #[.pointer (some ⟨pd, 0, none⟩), .int .i64 no, .slice none 0 0] w1 fun e w' => e = .returned (.int .i64 0) ∧ R1 w')
  (HF : ∀ w1, R1 w1 → Calls Tryz.prog 38 #[.pointer (some ⟨pd, 0, none⟩)] w1 fun e w' => e = .returned (.int .i64 0) ∧ R2 w') :
  Calls Tryz.prog 41 #[.pointer (some ⟨pd, 0, none⟩), .int .i64 no] w fun e w' => e = .returned (.int .i64 0) ∧ R2 w' := by
 have hb : ((E : Int) == 0) = false := by rw [beq_eq_false_iff_ne]; omega
 have H := Hq h
 have HWh := Hq HW
 have HFh := Hq HF
 clear h h0 HW HF
 go_enter Tryz.func41, Tryz.ntmps41
 go_wp2_with fail
 refine H.out.rd.mono ?_; rintro e w1 ⟨g, rfl, hg, hs, hb1⟩
 have HB1 := Hq hb1
 have HS := Hq hs
 clear hg hs hb1
 go_wp2_with fail
 refine (H.out.op _ _ HB1.out HS.out).mono ?_; rintro e w2 ⟨rfl, hb2⟩
 have HB2 := Hq (HB1.out.trans (hb2.mono HB1.out.size))
 clear hb2
 go_wp2_with fail
 refine (HWh.out _ (HB2.out.alloc HB2.out.size _)).mono ?_; rintro e w3 ⟨rfl, h3⟩
 have H3 := Hq h3
 clear h3
 go_wp2_with fail
 refine (HFh.out _ H3.out).mono ?_; rintro e w4 ⟨rfl, h4⟩
 have H4 := Hq h4
 clear h4
 go_wp2
 go_ret
 exact ⟨rfl, H4.out⟩
theorem SD.tick_left {S : SD} (h : S.left = -1) : S.tick.left = -1 := by simp [SD.tick, h]
theorem grMend_mend {w : World} (hT : Tab w) {B pd lm fm : Nat} {S : SD} (h : DiskAt w B pd lm fm S) (hl : S.left = -1) (ho : S.ops ≤ 999999990) {no : Int} (hno : no = 0 ∨ no = 1) (h2 : 2 ≤ S.size) (hE : mE (S.read no) no ≠ 0) :
  Calls Tryz.prog 41 #[.pointer (some ⟨pd, 0, none⟩), .int .i64 no] w fun e w' => e = .returned (.int .i64 0) ∧ DiskStep w w' B pd lm fm (S.write no []).flush :=
 grMend_gen (mendOn hT h hno h2) hE (R1 := fun w1 => DiskStep w w1 B pd lm fm (S.write no []))
  (fun w1 hb => (write_any (h.below hb) (by omega) (by omega) (by omega) (by omega) (by omega) (by omega) 0 (Bytes.nil _ _ _ _ _) rfl (by simp)).mono fun e w' ⟨he, hs⟩ => ⟨he, DiskStep.of (hb.mono h.base) (Keeps.below hb) hs⟩)
  (fun w1 hs => (flush_any hs.disk (by show S.tick.left ≠ 0; rw [SD.tick_left hl]; decide) (by show -1 ≤ S.tick.left; rw [SD.tick_left hl]; decide) (by show S.tick.left ≤ _; rw [SD.tick_left hl]; decide) (by show S.ops + 1 ≤ _; omega)).mono fun e w' ⟨he, hs'⟩ => ⟨he, DiskStep.of hs.below hs.keeps hs'⟩)
end Go.Proofs.YtbbgdbnjmonbgaaGreatDoor

set_option linter.unusedVariables false
set_option maxRecDepth 100000
namespace Go.Proofs.YtbbgdbnjmonbgaaGreatDoor
open Go.RowKit
def fmtS (S : SD) : Nat → SD
 | 0 => S
 | 1 => S.write 1 (mPage 1 0 1 1)
 | _ => (S.write 1 (mPage 1 0 1 1)).write 0 (mPage 2 0 1 1)
theorem fmtS_left {S : SD} (h : S.left = -1) (j : Nat) : (fmtS S j).left = -1 := by
 unfold fmtS
 split
 ·
  exact h
 ·
  exact SD.tick_left h
 ·
  exact SD.tick_left (S := S.write 1 _) (SD.tick_left h)
theorem fmtS_ops {S : SD} (j : Nat) : (fmtS S j).ops ≤ S.ops + 2 ∧ S.ops ≤ (fmtS S j).ops := by
 unfold fmtS
 split
 ·
  omega
 ·
  show S.ops + 1 ≤ _ ∧ _ ≤ S.ops + 1; omega
 ·
  show S.ops + 1 + 1 ≤ _ ∧ _ ≤ S.ops + 1 + 1; omega
theorem fmtS_size {S : SD} (j : Nat) : (fmtS S j).size = S.size := by
 unfold fmtS
 split <;> rfl
theorem fmt_right {g : Nat} (h1 : 1 ≤ g) (h2 : g ≤ 2) : MRight g (0 : Nat) (1 : Nat) (1 : Nat) := MRight.mk' (by omega)
set_option maxHeartbeats 1600000 in
theorem grFormat_ok {w : World} (hT : Tab w) {B pd lm fm : Nat} (hB : 1 < B) {S : SD} (h : DiskAt w B pd lm fm S) (hl : S.left = -1) (ho : S.ops ≤ 999999990) (h4 : 4 ≤ S.size) :
  Calls Tryz.prog 17 #[.pointer (some ⟨pd, 0, none⟩)] w fun e w' => e = .returned (.int .i64 0) ∧ DiskStep w w' B pd lm fm (fmtS S 2).flush := by
 have HLN := Hq (len_any h)
 have HW : Hid (∀ w1 (j : Nat), DiskStep w w1 B pd lm fm (fmtS S j) → j < 2 → Calls Tryz.prog 37 #[.pointer (some ⟨pd, 0, none⟩), .agg #[.int .i64 ((j : Int) + 1), .int .i64 0, .int .i64 1, .int .i64 1]] w1 fun e w' => e = .returned (.int .i64 0) ∧ DiskStep w w' B pd lm fm (fmtS S (j + 1))) := Hq fun w1 j hs hj => by
  have hz := fmtS_ops (S := S) j
  have h1 := grWrite_ok (hT.below hB hs.below) hs.disk (by rw [fmtS_left hl]; decide) (by rw [fmtS_left hl]; decide) (by rw [fmtS_left hl]; decide) (by omega) (by rw [fmtS_size]; omega) (fmt_right (g := j + 1) (by omega) (by omega))
  refine h1.mono fun e w' ⟨he, hs'⟩ => ⟨he, ?_⟩
  have e : (fmtS S j).write (((j + 1) % 2 : Nat) : Int) (mPage (j + 1) 0 1 1) = fmtS S (j + 1) := by
   rcases (by omega : j = 0 ∨ j = 1) with rfl | rfl <;> rfl
  rw [← e]
  exact DiskStep.of hs.below hs.keeps hs'
 have HF : Hid (∀ w1, DiskStep w w1 B pd lm fm (fmtS S 2) → Calls Tryz.prog 38 #[.pointer (some ⟨pd, 0, none⟩)] w1 fun e w' => e = .returned (.int .i64 0) ∧ DiskStep w w' B pd lm fm (fmtS S 2).flush) := Hq fun w1 hs => by
  have hz := fmtS_ops (S := S) 2
  exact (flush_any hs.disk (by rw [fmtS_left hl]; decide) (by rw [fmtS_left hl]; decide) (by rw [fmtS_left hl]; decide) (by omega)).mono fun e w' ⟨he, hs'⟩ => ⟨he, DiskStep.of hs.below hs.keeps hs'⟩
 have H0 : Hid (DiskStep w w B pd lm fm (fmtS S 0)) := Hq ⟨h, Below.refl _ _, Keeps.refl _ _⟩
 have hb1 : (S.size == 0) = false := by rw [beq_eq_false_iff_ne]; omega
 have hb2 : decide (S.size < 4) = false := decide_eq_false (by omega)
 clear hT h hl ho h4
 generalize S.size = n at *
 go_enter Tryz.func17, Tryz.ntmps17
 go_wp2_with fail
 refine HLN.out.mono ?_; rintro e w1 ⟨rfl, rfl⟩
 go_wp2_with fail
 refine HLN.out.mono ?_; rintro e w1 ⟨rfl, rfl⟩
 go_wp2
 go_loopw [3] (fun x wr => ∃ j : Nat, x = .int .i64 ((j : Int) + 1) ∧ j ≤ 2 ∧ DiskStep w wr B pd lm fm (fmtS S j)) (fun x _ => 3 - (intOf x).toNat)
 case atStart => exact ⟨0, rfl, by omega, H0.out⟩
 case round =>
  obtain ⟨j, rfl, hj, hs⟩ := hrel
  have HS := Hq hs
  clear hs
  by_cases hlt : j < 2
  ·
   have d1 : decide ((j : Int) + 1 ≤ 2) = true := decide_eq_true (by omega)
   go_wp2_with fail
   refine (HW.out _ j HS.out hlt).mono ?_; rintro e w2 ⟨rfl, hs⟩
   have HS2 := Hq hs
   clear hs
   go_wp2
   go_roundw
   case rel => exact ⟨j + 1, by go_num, by omega, HS2.out⟩
   case measure => simp [intOf]; omega
  ·
   have d1 : decide ((j : Int) + 1 ≤ 2) = false := decide_eq_false (by omega)
   obtain rfl : j = 2 := by omega
   go_wp2_with fail
   refine (HF.out _ HS.out).mono ?_; rintro e w2 ⟨rfl, hs⟩
   have HS2 := Hq hs
   clear hs
   go_wp2
   go_ret
   exact ⟨rfl, HS2.out⟩
end Go.Proofs.YtbbgdbnjmonbgaaGreatDoor

set_option linter.unusedVariables false
set_option maxRecDepth 100000
namespace Go.Proofs.YtbbgdbnjmonbgaaGreatDoor
open Go.RowKit
def read1 (S : SD) : List UInt8 := if 1 < S.size then S.read 1 else []
def Read1Post (w : World) (l : List UInt8) (e : Ending) (w' : World) : Prop :=
 ∃ q n c x, e = .returned (.tuple #[.slice q n c, .int .i64 x]) ∧ Bs w' q l ∧ n = l.length ∧ n ≤ c ∧ c ≤ 9223372036854775807 ∧ Below w.heap.size w w'
structure OpenOn (w : World) (pd : Nat) (l0 l1 : List UInt8) (size : Int) (G R N D : Nat) : Prop where
 r0 : Calls Tryz.prog 39 #[.pointer (some ⟨pd, 0, none⟩), .int .i64 0] w (ReadPost w l0)
 r1 : ∀ w1, Below w.heap.size w w1 → Calls Tryz.prog 39 #[.pointer (some ⟨pd, 0, none⟩), .int .i64 1] w1 (Read1Post w1 l1)
 nw : ∀ w1 g q n c, Below w.heap.size w w1 → Sec w1 g l0 → Bs w1 q l1 → n = l1.length → n ≤ c → c ≤ 9223372036854775807 →
  Calls Tryz.prog 40 #[.slice (some ⟨g, 0, none⟩) 512 512, .slice q n c] w1 (MNewPost w1 G R N D)
 ln : ∀ w1, Below w.heap.size w w1 → Calls Tryz.prog 36 #[.pointer (some ⟨pd, 0, none⟩)] w1 fun e w' => e = .returned (.int .i64 size) ∧ w1 = w'
 pos : 0 < size
theorem openOn {w : World} (hT : Tab w) {B pd lm fm : Nat} {S : SD} (h : DiskAt w B pd lm fm S) :
  OpenOn w pd (S.read 0) (read1 S) S.size (newG (S.read 0) (read1 S)) (newR (S.read 0) (read1 S)) (newN (S.read 0) (read1 S)) (newD (S.read 0) (read1 S)) := by
 have h1 := h.ok.s1
 refine ⟨read_any h (by omega) (by omega), fun w1 hb => ?_, fun w1 g q n c hb hs hq hn hnc hc => mNewest_any (hT.below hT.lt hb) hs.bs (h.ok.read_len 0).symm (Nat.le_refl _) (by omega) hq hn hnc hc, fun w1 hb => len_any (h.below hb), by omega⟩
 unfold read1
 by_cases h2 : 1 < S.size
 ·
  rw [if_pos h2]
  refine (read_any (h.below hb) (by omega) h2).mono ?_
  rintro e w' ⟨g, rfl, hg, hs, hb'⟩
  exact ⟨_, _, _, _, rfl, hs.bs, (h.ok.read_len 1).symm, Nat.le_refl _, by omega, hb'⟩
 ·
  rw [if_neg h2]
  refine (read_bad (h.below hb) (k := 1) (by omega)).mono ?_
  rintro e w' ⟨rfl, rfl⟩
  exact ⟨_, _, _, _, rfl, Bs.nil _ _, rfl, Nat.le_refl _, by omega, Below.refl _ _⟩
def PG.new (S : SD) (G R N D : Nat) : PG := ⟨S, FL.new 2 S.size, G, R, N, D, fun _ => false, [], false, false, false⟩
theorem GrIs.opened {w w' : World} {B pd lm fm pl um wm : Nat} {S : SD} {G R N D : Nat} (hd : DiskAt w B pd lm fm S) (hw : Below w.heap.size w w') (hl : FrIs w' pl um wm (FL.new 2 S.size)) (hu : w.heap.size ≤ um) (hm : w.heap.size ≤ wm) (hG : G ≤ 1152921504606846976) :
  GrIs ((w'.alloc (.map #[] 0)).alloc (.cells #[.pointer (some ⟨pd, 0, none⟩), .pointer (some ⟨pl, 0, none⟩), .int .i64 G, .int .i64 R, .int .i64 N, .int .i64 D, .map (some w'.heap.size), .slice none 0 0, .bool false, .bool false, .bool false] 92)) B (w'.heap.size + 1) pd lm fm pl um wm w'.heap.size (.slice none 0 0) (PG.new S G R N D) := by
 have hb := sbox2 w' (.map #[] 0) (.cells #[.pointer (some ⟨pd, 0, none⟩), .pointer (some ⟨pl, 0, none⟩), .int .i64 G, .int .i64 R, .int .i64 N, .int .i64 D, .map (some w'.heap.size), .slice none 0 0, .bool false, .bool false, .bool false] 92)
 have e1 : (w'.alloc (.map #[] 0)).heap.size = w'.heap.size + 1 := by simp
 have hBw := hd.base
 have hws := hw.size
 obtain ⟨l1, l2⟩ : lm < w.heap.size ∧ fm < w.heap.size := by
  obtain ⟨v, ms, fl, ff, h⟩ := hd
  exact ⟨h.ml.lt, h.mf.lt⟩
 have l3 := hl.mu.lt
 have l4 := hl.mw.lt
 refine ⟨?_, (hd.below hw).below hb, hl.below hb, ?_, World.ownsRow_nil _ B _ _, by omega, by omega, by omega, by omega, by omega, by omega, by omega, hG, by omega⟩
 ·
  have := heap_alloc_new (w'.alloc (.map #[] 0)) (.cells #[.pointer (some ⟨pd, 0, none⟩), .pointer (some ⟨pl, 0, none⟩), .int .i64 G, .int .i64 R, .int .i64 N, .int .i64 D, .map (some w'.heap.size), .slice none 0 0, .bool false, .bool false, .bool false] 92)
  rw [e1] at this
  exact this
 ·
  have e2 : setOf (fun _ => false) = fun _ => none := by funext k; simp [setOf]
  show MapSt _ _ (setOf fun _ => false)
  rw [e2]
  refine MapSt.new ?_
  rw [Below.heap_alloc _ _ _ (by omega)]
  exact heap_alloc_new w' _
def OpenedPost (w : World) (B pd : Nat) (X : PG) (e : Ending) (w' : World) : Prop :=
 ∃ P, e = .returned (.tuple #[.pointer (some ⟨P, 0, none⟩), .int .i64 0]) ∧ GrStep w w' B P pd X
set_option maxHeartbeats 3200000 in
theorem grOpen_yes {w : World} {B pd lm fm : Nat} {S S' : SD} {l0 l1 : List UInt8} {G R N D : Nat} (h : OpenOn w pd l0 l1 S.size G R N D) (hB : B ≤ w.heap.size) (h0 : G ≠ 0) (hG : G ≤ 1152921504606846976) (hr : (R : Int) < S.size) (hz : S'.size = S.size) (h2 : 2 ≤ S.size)
  (hM : ∀ w1, Below w.heap.size w w1 → Calls Tryz.prog 41 #[.pointer (some ⟨pd, 0, none⟩), .int .i64 (((G + 1) % 2 : Nat) : Int)] w1 fun e w' => e = .returned (.int .i64 0) ∧ DiskStep w1 w' B pd lm fm S') :
  Calls Tryz.prog 18 #[.pointer (some ⟨pd, 0, none⟩)] w (OpenedPost w B pd (PG.new S' G R N D)) := by
 have H := Hq h
 have HMD := Hq hM
 have hb1 : (S.size == 0) = false := by rw [beq_eq_false_iff_ne]; have := h.pos; omega
 have HD : Hid (decide (G ≠ 0) = true) := Hq (decide_eq_true h0)
 have d1 : decide (S.size ≤ (R : Int)) = false := decide_eq_false (by omega)
 obtain ⟨m, hm⟩ : ∃ m : Int, m = (((G + 1) % 2 : Nat) : Int) := ⟨_, rfl⟩
 have hGm : ((G : Int) + 1) % 2 = m := by omega
 rw [← hm] at HMD
 clear hm
 have HZ := Hq hz
 have H2 := Hq h2
 have HBB := Hq hB
 clear h h0 hM hz h2 hr hB
 obtain ⟨z, hz⟩ : ∃ z, z = S.size := ⟨_, rfl⟩
 rw [← hz] at H hb1 d1
 have HSZ := Hq hz
 clear hz
 go_enter Tryz.func18, Tryz.ntmps18
 go_wp2_with fail
 refine (H.out.ln _ (Below.refl _ _)).mono ?_; rintro e w1 ⟨rfl, rfl⟩
 go_wp2_with fail
 refine H.out.r0.mono ?_; rintro e w1 ⟨g, rfl, hg, hs, hb1⟩
 have HB1 := Hq hb1
 have HS := Hq hs
 clear hg hs hb1
 go_wp2_with fail
 refine (H.out.r1 _ HB1.out).mono ?_; rintro e w2 ⟨q, n, c, x, rfl, hq, hn, hnc, hc, hb2⟩
 have HB2 := Hq (HB1.out.trans (hb2.mono HB1.out.size))
 have HS2 := Hq (HS.out.below hb2)
 have HQ := Hq hq
 have HN := Hq hn
 have HNC := Hq hnc
 have HC := Hq hc
 clear hq hn hnc hc hb2
 go_wp2_with fail
 refine (H.out.nw _ _ _ _ _ HB2.out HS2.out HQ.out HN.out HNC.out HC.out).mono ?_; rintro e w3 ⟨he, hb3⟩
 rw [HD.out] at he
 subst he
 have HB3 := Hq (HB2.out.trans (hb3.mono HB2.out.size))
 clear hb3
 obtain ⟨W, hW⟩ : ∃ W, W = w3.alloc (.cells #[.int .i64 (G : Int), .int .i64 (R : Int), .int .i64 (N : Int), .int .i64 (D : Int)] 49) := ⟨_, rfl⟩
 have hBX : W.heap[w3.heap.size]? = some (.cells #[.int .i64 (G : Int), .int .i64 (R : Int), .int .i64 (N : Int), .int .i64 (D : Int)] 49 (0, 0)) := by rw [hW]; exact heap_alloc_new w3 _
 have HBX := Hq hBX
 have HBW : Hid (Below w.heap.size w W) := Hq (by rw [hW]; exact HB3.out.alloc HB3.out.size _)
 clear hBX
 go_wp2_with fail
 rw [← hW]
 clear hW
 have g0 : W.cell? ⟨w3.heap.size, 0, none⟩ = some (.int .i64 (G : Int)) := (jC HBX.out 0).trans rfl
 have g1 : W.cell? ⟨w3.heap.size, 1, none⟩ = some (.int .i64 (R : Int)) := (jC HBX.out 1).trans rfl
 have g2 : W.cell? ⟨w3.heap.size, 2, none⟩ = some (.int .i64 (N : Int)) := (jC HBX.out 2).trans rfl
 have g3 : W.cell? ⟨w3.heap.size, 3, none⟩ = some (.int .i64 (D : Int)) := (jC HBX.out 3).trans rfl
 have HLN := Hq fun k => (H.out.ln (W.drewN k) (belowN HBW.out k)).mono fun e w' ⟨h1, h2⟩ => (⟨h1, h2.symm⟩ : _ ∧ w' = W.drewN k)
 go_quiet (first | (go_at_call 36; with_reducible exact Calls.quiet_of_same (HLN.out _)))
 go_wp2_with fail
 refine (HMD.out _ (belowN HBW.out _)).mono ?_; rintro e w4 ⟨rfl, hs⟩
 have HLN4 := Hq (len_any hs.disk)
 have HS4 := Hq (DiskStep.of ((belowN HBW.out _).mono HBB.out) (Keeps.below (belowN HBW.out _)) hs)
 have HX4 : Hid (w4.heap[w3.heap.size]? = some (.cells #[.int .i64 (G : Int), .int .i64 (R : Int), .int .i64 (N : Int), .int .i64 (D : Int)] 49 (0, 0))) := Hq (hs.keeps.stay (by rw [(belowN (Below.refl W.heap.size W) nq).block _ (aL HBX.out)]; exact HBX.out) rfl)
 rw [HZ.out, ← HSZ.out] at HLN4
 have HNEW := Hq (frNew_yes (w := w4) (lo := 2) (hi := z) (by decide) (by have := HSZ.out; have := H2.out; omega) (by have := HSZ.out; have := hs.disk.ok.s2; have := HZ.out; omega))
 clear hs g0 g1 g2 g3 HLN
 go_wp2_with fail
 refine HLN4.out.mono ?_; rintro e w5 ⟨rfl, rfl⟩
 go_wp2_with fail
 refine HNEW.out.mono ?_; rintro e w6 ⟨pl, um, wm, rfl, hf, hb6, hpl, hum, hwm⟩
 have HFIN := Hq (GrIs.opened (G := G) (R := R) (N := N) (D := D) HS4.out.disk hb6 (by rw [HZ.out, ← HSZ.out]; exact hf) hum hwm hG)
 have HB6 := Hq hb6
 have g0 : w6.heap[w3.heap.size]? = some (.cells #[.int .i64 (G : Int), .int .i64 (R : Int), .int .i64 (N : Int), .int .i64 (D : Int)] 49 (0, 0)) := by rw [hb6.block _ (aL HX4.out)]; exact HX4.out
 have c0 : w6.cell? ⟨w3.heap.size, 0, none⟩ = some (.int .i64 (G : Int)) := (jC g0 0).trans rfl
 have c1 : w6.cell? ⟨w3.heap.size, 1, none⟩ = some (.int .i64 (R : Int)) := (jC g0 1).trans rfl
 have c2 : w6.cell? ⟨w3.heap.size, 2, none⟩ = some (.int .i64 (N : Int)) := (jC g0 2).trans rfl
 have c3 : w6.cell? ⟨w3.heap.size, 3, none⟩ = some (.int .i64 (D : Int)) := (jC g0 3).trans rfl
 have hmm := @run_makeMap Tryz.prog
 clear hf hb6 hpl hum hwm g0
 go_wp2
 go_ret2
 have hb := fun o o' => HB6.out.trans ((sbox2 w6 o o').mono HB6.out.size)
 exact ⟨_, rfl, ⟨_, _, _, _, _, _, _, HFIN.out⟩, HS4.out.below.trans ((hb _ _).mono HS4.out.disk.base), (HS4.out.keeps.mono (ofDisk_ofGrP (HFIN.out).mP.1 (HFIN.out).mP.2.1)).trans (Keeps.below (hb _ _))⟩
end Go.Proofs.YtbbgdbnjmonbgaaGreatDoor

