/-
  pager: Abort.
  The parts of a meta; what stays of a pager that no call made.
  A store in memory (TxBox), its transaction (WkBox); made, open, Begin, Commit, Abort, Peek, Next.
-/
import Derived.Test.YtngnmakeaniapaaGreatDoorH17
import Derived.Test.YtngnmakeaniapaaGreatDoorH16
import Derived.Test.YtngnmakeaniapaaGreatDoorH14
import Derived.Deep.RegionWith
import Derived.LoopTactic
import Derived.StillTailTactics
import Derived.Deep.RegionHeld3
set_option linter.unusedVariables false
set_option maxRecDepth 100000
namespace Go.Proofs.YtngnmakeaniapaaGreatDoor
open Go.RowKit

section
variable {P : Program} {w w' : World} {ops : Array Oper} {rest : List Oper} {o : Oper} {a : Act} {Q : Exit → Act → World → Prop} {b r : Nat} {f : Int → Option Value} {left : Int → Bool}
/-- The step, for any map. -/
theorem st_nextv (hg : o.guard = none) (it : Operand) (hop : o.op = Op.next it false) (hit : a.eval it = .pointer (some ⟨r, 0, none⟩)) (h : Rng w b r f left)
    (hDone : (∀ k, left k = false) → wpList P ops Q rest (a.put o.dst (.tuple #[.bool false])) w)
    (hMore : ∀ (k : Int) (v : Value) (w' : World), left k = true → f k = some v → Rng w' b r f (fun x => left x && !(x == k)) → w'.rangeLeft b r < w.rangeLeft b r → w.grownBy w' (some r) → w'.heap.size = w.heap.size →
      (Instr.entry (.pointer (some ⟨r, 0, none⟩))).run P w' = .ok (.tuple #[.int .i64 k, v]) w' → wpList P ops Q rest (a.put o.dst (.tuple #[.bool true, .int .i64 k, v])) w') :
    wpList P ops Q (o :: rest) a w := by
  refine wpList_plain hg fun K' hK' => ?_
  unfold Oper.wp
  rcases h.next (P := P) o.type with ⟨hl, hrun⟩ | ⟨k, v, w', hl, hfk, hrun, hrg, hlt, hgr, hsz, hen⟩
  · simp [execOp, hop, hit, hrun, Result.andThen]
    exact hK' _ _ (hDone hl)
  · simp [execOp, hop, hit, hrun, Result.andThen]
    exact hK' _ _ (hMore k v w' hl hfk hrg hlt hgr hsz hen)

theorem Rng.keeps {K : Nat → Obj → Bool} (h : Rng w b r f left) (hk : Keeps K w w') (hb : ∀ es c, K b (.map es c) = false) (hr : ∀ m s e c, K r (.mapIter m s e c) = false) : Rng w' b r f left ∧ w'.rangeLeft b r = w.rangeLeft b r := by
  obtain ⟨es, c, since, seen, c0, h1, h2, h3⟩ := id h
  have e1 := hk.stay h1 (hb _ _)
  have e2 := hk.stay h2 (hr _ _ _ _)
  obtain ⟨h4, h5, h6, h7, h8, h9, h10⟩ := h3
  exact ⟨⟨es, c, since, seen, c0, e1, e2, h4, h5, h6, h7, h8, h9.block (by rw [e1, h1]), h10⟩, rangeLeft_kept (by rw [e1, h1]) (by rw [e2, h2])⟩
theorem Rng.iter (h : Rng w b r f left) : ∃ m s e c, w.heap[r]? = some (.mapIter m s e c) := by
  obtain ⟨es, c, since, seen, c0, h1, h2, h3⟩ := h
  exact ⟨_, _, _, _, h2⟩
end

def isIter : Nat → Obj → Bool
  | _, .mapIter _ _ _ _ => true
  | _, _ => false

/-- Of the pages in use, those that are not such any more. -/
def FL.abo (F : FL) (L left : Int → Bool) : FL := { F with used := fun x => F.used x && !(L x && !left x) }
def FL.less (F : FL) (L : Int → Bool) : FL := { F with used := fun x => F.used x && !L x }
theorem FL.abo_start (F : FL) (L : Int → Bool) : F.abo L L = F := by
  obtain ⟨lo, hi, u, ws⟩ := F
  simp only [FL.abo, FL.mk.injEq, true_and, and_true]
  funext x
  cases L x <;> simp
theorem FL.abo_end (F : FL) (L left : Int → Bool) (h : ∀ k, left k = false) : F.abo L left = F.less L := by
  obtain ⟨lo, hi, u, ws⟩ := F
  simp only [FL.abo, FL.less, FL.mk.injEq, true_and, and_true]
  funext x
  rw [h x]
  simp
theorem FL.abo_drop (F : FL) (L left : Int → Bool) {k : Int} (hk : L k = true) : (F.abo L left).drop k = F.abo L fun x => left x && !(x == k) := by
  obtain ⟨lo, hi, u, ws⟩ := F
  simp only [FL.abo, FL.drop, FL.mk.injEq, true_and, and_true]
  funext x
  by_cases hx : x = k
  · subst hx
    simp [hk]
  · have hb : (x == k) = false := by simpa using hx
    simp [hx, hb]
theorem FL.abo_st (F : FL) (L left : Int → Bool) {k : Int} (hs : F.st k = 2) (hl : left k = true) : (F.abo L left).st k = 2 := by
  obtain ⟨h1, h2⟩ := FL.st_two.1 hs
  exact FL.st_two.2 ⟨h1, by simp [FL.abo, h2, hl]⟩

/-- Behind Abort. -/
def PG.abort (X : PG) : PG := { X with L := fun _ => false, F := (X.F.less X.L).back fun g => g == (X.g : Int) + 1 }

section
variable {w w' : World} {B P pd lm fm pl um wm la : Nat} {v : Value} {X : PG}

theorem GrIs.apart {K : Nat → Obj → Bool} (h : GrIs w B P pd lm fm pl um wm la v X) (hk : Keeps K w w') (h1 : ∀ i c t f, K i (.cells c t f) = false) (h2 : ∀ i es c, K i (.map es c) = false) : GrIs w' B P pd lm fm pl um wm la v X :=
  ⟨hk.stay h.blk (h1 _ _ _ _), h.disk.keeps hk (fun _ _ _ => h1 _ _ _ _) (fun _ _ _ => h1 _ _ _ _) (fun _ _ _ => h1 _ _ _ _) (fun _ _ => h2 _ _ _) (fun _ _ => h2 _ _ _), h.list.keeps hk (fun _ => h1 _ _ _ _) (fun _ _ => h2 _ _ _) (fun _ _ => h2 _ _ _), h.mla.keeps hk (fun _ _ => h2 _ _ _), pins_keeps h.pins hk (fun _ _ _ => h1 _ _ _ _), h.bP, h.bu, h.bw, h.ba, h.nlm, h.nfm, h.nla, h.g0, h.mP⟩

/-- A round of Abort. -/
structure AbInv (w wr : World) (B P pd lm fm pl um wm la r : Nat) (v : Value) (X : PG) (left : Int → Bool) : Prop where
  is : GrIs wr B P pd lm fm pl um wm la v { X with F := X.F.abo X.L left }
  rng : Rng wr la r (setOf X.L) left
  hr : w.heap.size ≤ r
  below : Below B w wr
  keeps : Keeps (ofGrP P) w wr

theorem AbInv.step {w wr w1 : World} {B P pd lm fm pl um wm la r : Nat} {v : Value} {X : PG} {left l' : Int → Bool} (h : AbInv w wr B P pd lm fm pl um wm la r v X left) (hB : B ≤ w.heap.size) (hg : wr.grownBy w1 (some r)) :
    GrIs w1 B P pd lm fm pl um wm la v { X with F := X.F.abo X.L left } ∧ Below B w w1 ∧ Keeps (ofGrP P) w w1 := by
  obtain ⟨m, s, e, c, hi⟩ := h.rng.iter
  have hk : Keeps isIter wr w1 := Keeps.of_grown hg hi rfl
  refine ⟨h.is.apart hk (fun _ _ _ _ => rfl) (fun _ _ _ => rfl), h.below.grown hg (Nat.le_trans hB h.keeps.size) (fun k hk => by cases hk; have := h.hr; omega), ⟨Nat.le_trans h.keeps.size hg.size, fun {i o} h1 h2 => ?_⟩⟩
  exact grown_at hg (h.keeps.stay h1 h2) (by have := (Array.getElem?_eq_some_iff.1 h1).1; have := h.hr; omega)

set_option maxHeartbeats 3200000 in
theorem grAbort (h : GrIs w B P pd lm fm pl um wm la v X) (hfl : X.failed = false) (hL : ∀ k, X.L k = true → X.F.st k = 2) :
    Calls Tryz.prog 68 #[.pointer (some ⟨P, 0, none⟩)] w fun e w' => e = .returned (.int .i64 0) ∧ GrStep w w' B P pd X.abort := by
  have HM := Lib.hid h.made
  have c10 := h.c10
  rw [hfl] at c10
  have c6 := h.c6
  have H := Lib.hid h
  have HLL := Lib.hid hL
  have HBB := Lib.hid h.base
  have HGV : Hid (∀ w1 left k, GrIs w1 B P pd lm fm pl um wm la v { X with F := X.F.abo X.L left } → X.L k = true → left k = true → Calls Tryz.prog 110 #[.pointer (some ⟨pl, 0, none⟩), .int .i64 k] w1 (FrStep w1 pl um wm (X.F.abo X.L fun x => left x && !(x == k)) (.int .i64 0))) := Lib.hid fun w1 left k h1 hk hl => by
    have h2 := FL.abo_st X.F X.L left (hL k hk) hl
    have hh := frGive_any h1.list (k := k) (FL.st_two.1 h2).1
    rw [if_pos h2, if_pos h2, FL.abo_drop X.F X.L left hk] at hh
    exact hh
  clear h hL
  go_enter Tryz.func68, Tryz.ntmps68
  go_wp2_with fail
  refine HM.out.mono ?_; rintro e w1 ⟨rfl, rfl⟩
  go_wp2_with (at_range; refine st_range rfl _ _ 3 162 rfl Tryz.underlying135 rfl H.out.mla ?_; intro w0 hr0 hb0 hs0)
  go_frame
  go_loopw [3] (fun _ wr => ∃ left, AbInv w wr B P pd lm fm pl um wm la w.heap.size v X left) (fun _ wr => wr.rangeLeft la w.heap.size)
  case atStart =>
    have e : (fun k => (setOf X.L k).isSome) = X.L := by
      funext k
      simp only [setOf]
      cases X.L k <;> simp
    rw [e] at hr0
    refine ⟨X.L, ?_, hr0, Nat.le_refl _, hb0.mono HBB.out, Keeps.below hb0⟩
    rw [FL.abo_start]
    exact H.out.below hb0
  case round =>
    obtain ⟨left, hl⟩ := hrel
    have HLv := Lib.hid hl
    have HRG := Lib.hid hl.rng
    clear hl
    go_wp2_with (at_next; refine st_nextv rfl _ rfl rfl HRG.out ?_ ?_)
    · intro hd
      have HE : Hid (X.F.abo X.L left = X.F.less X.L) := Lib.hid (FL.abo_end _ _ _ hd)
      have hi := HLv.out.is
      rw [HE.out] at hi
      have HI := Lib.hid hi
      have c6 := hi.c6
      clear hd hi
      go_wp2_with (refine st_clear rfl _ _ 3 162 rfl Tryz.underlying135 rfl HI.out.mla ?_; intro w3 hm hg; obtain ⟨g1, g2, g3⟩ := HI.out.onLaid (L := fun _ => false) (by rw [setOf_none]; exact hm) hg; have G1 := Lib.hid g1; have G2 := Lib.hid (HLv.out.below.trans g2); have G3 := Lib.hid (HLv.out.keeps.trans (g3.mono (isMaps_ofGrP HI.out.mLa))); have GD := Lib.hid (g1.below (Below.drew (Below.refl _ _))); have HNX := Lib.hid (grNext (g1.below (Below.drew (Below.refl _ _)))); have HFG := Lib.hid (frForget_any (g1.below (Below.drew (Below.refl _ _))).list ((X.g : Int) + 1)); have c1 := g1.c1; clear hm hg g1 g2 g3)
      go_region_with (first | (go_at_call 106; (with_reducible refine HNX.out.mono ?_); rintro e w5 ⟨rfl, rfl⟩) | (go_at_call 111; (with_reducible refine HFG.out.mono ?_); rintro e w4 ⟨rfl, hfr, hon⟩; have HG := Lib.hid (GrStep.of (G2.out.trans (Below.drew (Below.refl _ _))) (G3.out.trans (Keeps.below (Below.drew (Below.refl _ _)))) (GrStep.list GD.out hfr hon)); clear hfr hon))
      all_goals
        go_wp2
        go_ret
        exact ⟨rfl, HG.out⟩
    · intro k u w1 hlk hfk hrg1 hlt1 hg1 hs1 hen
      have hk : X.L k = true := by
        simp only [setOf] at hfk
        cases hx : X.L k with
        | false => rw [hx] at hfk; simp at hfk
        | true => rfl
      obtain ⟨i1, i2, i3⟩ := HLv.out.step (l' := left) HBB.out hg1
      have I1 := Lib.hid i1
      have I2 := Lib.hid i2
      have I3 := Lib.hid i3
      have c1 := i1.c1
      have HR1 := Lib.hid hrg1
      have HT1 := Lib.hid hlt1
      have HK := Lib.hid hk
      have HLK := Lib.hid hlk
      clear hrg1 hg1 hlt1 hlk hfk hs1 i1 i2 i3 hk
      go_wp2_with fail
      refine (HGV.out _ _ _ I1.out HK.out HLK.out).mono ?_; rintro e w2 ⟨rfl, hfr, hon⟩
      obtain ⟨j1, j2, j3⟩ := I1.out.onList hfr hon
      have HJ : Hid (AbInv w w2 B P pd lm fm pl um wm la w.heap.size v X (fun x => left x && !(x == k)) ∧ w2.rangeLeft la w.heap.size = w1.rangeLeft la w.heap.size) := Lib.hid (by
        obtain ⟨m, s, e, c, hi⟩ := HR1.out.iter
        obtain ⟨q1, q2⟩ := HR1.out.keeps j3 (fun es c => by simp [isMaps, I1.out.nla.1, I1.out.nla.2]) (fun _ _ _ _ => rfl)
        exact ⟨⟨j1, q1, HLv.out.hr, I2.out.trans j2, I3.out.trans (j3.mono (isMaps_ofGrP I1.out.mUW))⟩, q2⟩)
      clear hfr hon j1 j2 j3 c1 hen
      go_wp2
      go_roundw
      case rel => exact ⟨_, HJ.out.1⟩
      case measure => rw [HJ.out.2]; exact HT1.out
end

end Go.Proofs.YtngnmakeaniapaaGreatDoor

set_option linter.unusedVariables false
set_option maxRecDepth 100000
namespace Go.Proofs.YtngnmakeaniapaaGreatDoor
open Go.RowKit

/-- A Meta's Gen, Root. -/
theorem meta_gen (w : World) (g r n d : Int) : (Instr.field 92 (.agg #[.int .i64 g, .int .i64 r, .int .i64 n, .int .i64 d]) 0).run Tryz.prog w = .ok (.int .i64 g) w := by kernel_rfl
theorem meta_root (w : World) (g r n d : Int) : (Instr.field 92 (.agg #[.int .i64 g, .int .i64 r, .int .i64 n, .int .i64 d]) 1).run Tryz.prog w = .ok (.int .i64 r) w := by kernel_rfl

/-- The law's own memory: what no call made, and the two that are asked; A is the world ahead. -/
structure GrMem (A wr : World) (z : Value) : Prop where
  z : wr.cell? ⟨A.heap.size, 0, none⟩ = some z
  a : wr.cell? ⟨A.heap.size + 1, 0, none⟩ = some (.pointer none)
  b : wr.cell? ⟨A.heap.size + 1, 1, none⟩ = some (.pointer (some ⟨A.heap.size, 0, none⟩))
  below : Below A.heap.size A wr

theorem GrMem.on {w wr w' : World} {z : Value} (h : GrMem w wr z) (hb : Below wr.heap.size wr w') : GrMem w w' z := by
  obtain ⟨h1, h2, h3, h4⟩ := h
  have q1 := World.block_lt_of_cell? _ _ h1
  have q2 := World.block_lt_of_cell? _ _ h2
  exact ⟨by rw [hb.cell (p := ⟨w.heap.size, 0, none⟩) q1]; exact h1, by rw [hb.cell (p := ⟨w.heap.size + 1, 0, none⟩) q2]; exact h2, by rw [hb.cell (p := ⟨w.heap.size + 1, 1, none⟩) q2]; exact h3, h4.trans (hb.mono h4.size)⟩

theorem GrMem.start (w : World) (cs : Array Value) (t t' : TypeId) {z : Value} (h : cs[0]? = some z) : GrMem w ((w.alloc (.cells cs t)).alloc (.cells #[.pointer none, .pointer (some ⟨w.heap.size, 0, none⟩)] t')) z := by
  have e1 : (w.alloc (.cells cs t)).heap.size = w.heap.size + 1 := by simp
  have b0 : ((w.alloc (.cells cs t)).alloc (.cells #[.pointer none, .pointer (some ⟨w.heap.size, 0, none⟩)] t')).heap[w.heap.size]? = some (.cells cs t (0, 0)) := by
    rw [Below.heap_alloc _ _ _ (by omega)]
    exact heap_alloc_new w _
  have b1 : ((w.alloc (.cells cs t)).alloc (.cells #[.pointer none, .pointer (some ⟨w.heap.size, 0, none⟩)] t')).heap[w.heap.size + 1]? = some (.cells #[.pointer none, .pointer (some ⟨w.heap.size, 0, none⟩)] t' (0, 0)) := by
    have := heap_alloc_new (w.alloc (.cells cs t)) (.cells #[.pointer none, .pointer (some ⟨w.heap.size, 0, none⟩)] t')
    rw [e1] at this
    exact this
  exact ⟨by rw [Joins.cell_of_block b0]; exact h, by rw [Joins.cell_of_block b1]; rfl, by rw [Joins.cell_of_block b1]; rfl, sbox2 _ _ _⟩

end Go.Proofs.YtngnmakeaniapaaGreatDoor

set_option linter.unusedVariables false
set_option linter.unusedSimpArgs false
set_option maxRecDepth 100000
namespace Go.Proofs.YtngnmakeaniapaaGreatDoor
open Go.RowKit

theorem heap_drew (w : World) : w.drew.heap = w.heap := rfl

/-- A store. -/
def TxBox (w : World) (s P : Nat) (nw : Value) (pm : Nat) (fl : Bool) : Prop := w.heap[s]? = some (.cells #[.pointer (some ⟨P, 0, none⟩), nw, .map (some pm), .bool fl] 62 (0, 0))
/-- A transaction. -/
def WkBox (w : World) (k P : Nat) (r n d : Int) (bk : Value) (br : Bool) : Prop := w.heap[k]? = some (.cells #[.pointer (some ⟨P, 0, none⟩), .int .i64 r, .int .i64 n, .int .i64 d, bk, .bool br] 99 (0, 0))
def wkv (k : Nat) : Value := .pointer (some ⟨k, 0, none⟩)

/-- What a store's calls may change. -/
def ofTx (P : Nat) : Nat → Obj → Bool
  | i, .cells c t f => t == 62 || t == 99 || t == 47 || ofGrP P i (.cells c t f)
  | i, o => ofGrP P i o
theorem ofGrP_ofTx {P : Nat} (i : Nat) (o : Obj) (h : ofGrP P i o = true) : ofTx P i o = true := by
  cases o with
  | cells c t f => simp only [ofTx, h, Bool.or_true]
  | map es c => exact h
  | _ => cases h
theorem isTy_ofTx {P : Nat} {t : TypeId} (ht : (t == 62 || t == 99 || t == 47) = true) (i : Nat) (o : Obj) (h : isTy t i o = true) : ofTx P i o = true := by
  cases o with
  | cells c t' f =>
    simp only [isTy, beq_iff_eq] at h
    subst h
    simp only [ofTx, ht, Bool.true_or]
  | _ => cases h

section
variable {w w' : World} {B P pd s k pm : Nat} {X : PG} {nw bk : Value} {fl br : Bool} {r n d : Int}

theorem TxBox.low (h : TxBox w s P nw pm fl) (hb : Below w.heap.size w w') : TxBox w' s P nw pm fl := by
  have hl := (Array.getElem?_eq_some_iff.1 h).1
  unfold TxBox
  rw [hb.block _ hl]
  exact h
theorem WkBox.low (h : WkBox w k P r n d bk br) (hb : Below w.heap.size w w') : WkBox w' k P r n d bk br := by
  have hl := (Array.getElem?_eq_some_iff.1 h).1
  unfold WkBox
  rw [hb.block _ hl]
  exact h
theorem TxBox.gr (h : TxBox w s P nw pm fl) (hk : Keeps ofGr w w') : TxBox w' s P nw pm fl := hk.stay h rfl
theorem WkBox.gr (h : WkBox w k P r n d bk br) (hk : Keeps ofGr w w') : WkBox w' k P r n d bk br := hk.stay h rfl
theorem TxBox.c0 (h : TxBox w s P nw pm fl) : w.cell? ⟨s, 0, none⟩ = some (.pointer (some ⟨P, 0, none⟩)) := (Joins.cell_of_block h 0).trans rfl
theorem TxBox.c1 (h : TxBox w s P nw pm fl) : w.cell? ⟨s, 1, none⟩ = some nw := (Joins.cell_of_block h 1).trans rfl
theorem TxBox.c2 (h : TxBox w s P nw pm fl) : w.cell? ⟨s, 2, none⟩ = some (.map (some pm)) := (Joins.cell_of_block h 2).trans rfl
theorem TxBox.c3 (h : TxBox w s P nw pm fl) : w.cell? ⟨s, 3, none⟩ = some (.bool fl) := (Joins.cell_of_block h 3).trans rfl
theorem WkBox.c0 (h : WkBox w k P r n d bk br) : w.cell? ⟨k, 0, none⟩ = some (.pointer (some ⟨P, 0, none⟩)) := (Joins.cell_of_block h 0).trans rfl
theorem WkBox.c1 (h : WkBox w k P r n d bk br) : w.cell? ⟨k, 1, none⟩ = some (.int .i64 r) := (Joins.cell_of_block h 1).trans rfl
theorem WkBox.c2 (h : WkBox w k P r n d bk br) : w.cell? ⟨k, 2, none⟩ = some (.int .i64 n) := (Joins.cell_of_block h 2).trans rfl
theorem WkBox.c3 (h : WkBox w k P r n d bk br) : w.cell? ⟨k, 3, none⟩ = some (.int .i64 d) := (Joins.cell_of_block h 3).trans rfl
theorem WkBox.c4 (h : WkBox w k P r n d bk br) : w.cell? ⟨k, 4, none⟩ = some bk := (Joins.cell_of_block h 4).trans rfl
theorem WkBox.c5 (h : WkBox w k P r n d bk br) : w.cell? ⟨k, 5, none⟩ = some (.bool br) := (Joins.cell_of_block h 5).trans rfl
theorem TxBox.ne (h : TxBox w s P nw pm fl) (h' : WkBox w k P r n d bk br) : s ≠ k := by
  rintro rfl
  unfold TxBox at h
  unfold WkBox at h'
  rw [h] at h'
  simp only [Option.some.injEq, Obj.cells.injEq] at h'
  exact absurd h'.2.1 (by decide)

/-- The store's own block is written. -/
theorem TxBox.set (h : TxBox w s P nw pm fl) (hg : GrAt w B P pd X) (hB : B ≤ s) {nw' : Value} {fl' : Bool} (hb : w'.heap[s]? = some (.cells #[.pointer (some ⟨P, 0, none⟩), nw', .map (some pm), .bool fl'] 62 (0, 0))) (hgr : w.grownBy w' (some s)) :
    TxBox w' s P nw' pm fl' ∧ GrAt w' B P pd X ∧ Below B w w' ∧ Keeps (isTy 62) w w' := by
  have hk : Keeps (isTy 62) w w' := Keeps.of_grown hgr h (by simp [isTy])
  refine ⟨hb, ?_, (Below.refl B w).grown hgr hg.base (fun k hk => by cases hk; exact hB), hk⟩
  obtain ⟨lm, fm, pl, um, wm, la, v, hg⟩ := hg
  exact ⟨lm, fm, pl, um, wm, la, v, ⟨hk.stay hg.blk rfl, hg.disk.keeps hk (fun _ _ _ => rfl) (fun _ _ _ => rfl) (fun _ _ _ => rfl) (fun _ _ => rfl) (fun _ _ => rfl), hg.list.keeps hk (fun _ => rfl) (fun _ _ => rfl) (fun _ _ => rfl), hg.mla.keeps hk (fun _ _ => rfl), pins_keeps hg.pins hk (fun _ _ _ => rfl), hg.bP, hg.bu, hg.bw, hg.ba, hg.nlm, hg.nfm, hg.nla, hg.g0, hg.mP⟩⟩
/-- The transaction's. -/
theorem WkBox.set (h : WkBox w k P r n d bk br) (hg : GrAt w B P pd X) (hB : B ≤ k) {r' n' d' : Int} {bk' : Value} {br' : Bool} (hb : w'.heap[k]? = some (.cells #[.pointer (some ⟨P, 0, none⟩), .int .i64 r', .int .i64 n', .int .i64 d', bk', .bool br'] 99 (0, 0))) (hgr : w.grownBy w' (some k)) :
    WkBox w' k P r' n' d' bk' br' ∧ GrAt w' B P pd X ∧ Below B w w' ∧ Keeps (isTy 99) w w' := by
  have hk : Keeps (isTy 99) w w' := Keeps.of_grown hgr h (by simp [isTy])
  refine ⟨hb, ?_, (Below.refl B w).grown hgr hg.base (fun k hk => by cases hk; exact hB), hk⟩
  obtain ⟨lm, fm, pl, um, wm, la, v, hg⟩ := hg
  exact ⟨lm, fm, pl, um, wm, la, v, ⟨hk.stay hg.blk rfl, hg.disk.keeps hk (fun _ _ _ => rfl) (fun _ _ _ => rfl) (fun _ _ _ => rfl) (fun _ _ => rfl) (fun _ _ => rfl), hg.list.keeps hk (fun _ => rfl) (fun _ _ => rfl) (fun _ _ => rfl), hg.mla.keeps hk (fun _ _ => rfl), pins_keeps hg.pins hk (fun _ _ _ => rfl), hg.bP, hg.bu, hg.bw, hg.ba, hg.nlm, hg.nfm, hg.nla, hg.g0, hg.mP⟩⟩

set_option maxHeartbeats 400000 in
theorem txBelow_yes (h : TxBox w s P nw pm fl) :
    Calls Tryz.prog 49 #[.pointer (some ⟨s, 0, none⟩)] w fun e w' => e = .returned (.pointer (some ⟨P, 0, none⟩)) ∧ w = w' := by
  have c0 := h.c0
  clear h
  go_enter Tryz.func49, Tryz.ntmps49
  go_wp2
  go_ret
  exact ⟨rfl, rfl⟩
set_option maxHeartbeats 400000 in
theorem txMade_yes (h : TxBox w s P nw pm fl) :
    Calls Tryz.prog 53 #[.pointer (some ⟨s, 0, none⟩)] w fun e w' => e = .returned (.bool true) ∧ w = w' := by
  have H := Lib.hid (txBelow_yes h)
  clear h
  go_enter Tryz.func53, Tryz.ntmps53
  go_wp2_with fail
  refine H.out.mono ?_; rintro e w1 ⟨rfl, rfl⟩
  go_wp2
  go_ret
  exact ⟨rfl, rfl⟩
set_option maxHeartbeats 800000 in
theorem txOpenW_yes (h : TxBox w s P (wkv k) pm fl) (hw : WkBox w k P r n d bk false) :
    Calls Tryz.prog 64 #[.pointer (some ⟨s, 0, none⟩)] w fun e w' => e = .returned (.tuple #[.pointer (some ⟨k, 0, none⟩), .int .i64 0]) ∧ w = w' := by
  have H := Lib.hid (txMade_yes h)
  have c1 : w.cell? ⟨s, 1, none⟩ = some (.pointer (some ⟨k, 0, none⟩)) := h.c1
  have c5 : w.cell? ⟨k, 5, none⟩ = some (.bool false) := hw.c5
  clear h hw
  go_enter Tryz.func64, Tryz.ntmps64
  go_wp2_with fail
  refine H.out.mono ?_; rintro e w1 ⟨rfl, rfl⟩
  go_wp2
  go_ret2
  exact ⟨rfl, rfl⟩

set_option maxHeartbeats 800000 in
theorem txPeek_yes (h : TxBox w s P (wkv k) pm fl) (hw : WkBox w k P r n d bk false) {j : Nat} (hj : j < 2) :
    Calls Tryz.prog 31 #[.pointer (some ⟨s, 0, none⟩), .int .i64 j] w fun e w' => e = .returned (.tuple #[.int .i64 (if j = 0 then n else d), .int .i64 0]) ∧ w = w' := by
  have H := Lib.hid (txOpenW_yes h hw)
  have c2 := hw.c2
  have c3 := hw.c3
  clear h hw
  rcases (by omega : j = 0 ∨ j = 1) with rfl | rfl
  · go_enter Tryz.func31, Tryz.ntmps31
    go_wp2_with fail
    refine H.out.mono ?_; rintro e w1 ⟨rfl, rfl⟩
    go_wp2
    go_ret2
    exact ⟨rfl, rfl⟩
  · go_enter Tryz.func31, Tryz.ntmps31
    go_wp2_with fail
    refine H.out.mono ?_; rintro e w1 ⟨rfl, rfl⟩
    go_wp2
    go_ret2
    exact ⟨rfl, rfl⟩
set_option maxHeartbeats 800000 in
theorem txPeek_bad (h : TxBox w s P (wkv k) pm fl) (hw : WkBox w k P r n d bk false) :
    Calls Tryz.prog 31 #[.pointer (some ⟨s, 0, none⟩), .int .i64 2] w fun e w' => e = .returned (.tuple #[.int .i64 0, .int .i64 2]) ∧ w = w' := by
  have H := Lib.hid (txOpenW_yes h hw)
  clear h hw
  go_enter Tryz.func31, Tryz.ntmps31
  go_wp2_with fail
  refine H.out.mono ?_; rintro e w1 ⟨rfl, rfl⟩
  go_wp2
  go_ret2
  exact ⟨rfl, rfl⟩
set_option maxHeartbeats 800000 in
theorem txNext_bad (h : TxBox w s P (wkv k) pm fl) (hw : WkBox w k P r n d bk false) :
    Calls Tryz.prog 30 #[.pointer (some ⟨s, 0, none⟩), .int .i64 2] w fun e w' => e = .returned (.tuple #[.int .i64 0, .int .i64 2]) ∧ w = w' := by
  have H := Lib.hid (txPeek_bad h hw)
  clear h hw
  go_enter Tryz.func30, Tryz.ntmps30
  go_wp2_with fail
  refine H.out.mono ?_; rintro e w1 ⟨rfl, rfl⟩
  go_wp2
  go_ret2
  exact ⟨rfl, rfl⟩
set_option maxHeartbeats 800000 in
theorem txNext_yes (h : TxBox w s P (wkv k) pm fl) (hw : WkBox w k P r n d bk false) {j : Nat} (hj : j < 2) (hn : 0 ≤ n ∧ n ≤ 1152921504606846976) (hd : 0 ≤ d ∧ d ≤ 1152921504606846976) :
    Calls Tryz.prog 30 #[.pointer (some ⟨s, 0, none⟩), .int .i64 j] w fun e w' => e = .returned (.tuple #[.int .i64 (if j = 0 then n else d), .int .i64 0]) ∧ WkBox w' k P r (if j = 0 then n + 1 else n) (if j = 0 then d else d + 1) bk false ∧ w.grownBy w' (some k) := by
  have H := Lib.hid (txPeek_yes h hw hj)
  have c1 : w.cell? ⟨s, 1, none⟩ = some (.pointer (some ⟨k, 0, none⟩)) := h.c1
  have c2 := hw.c2
  have c3 := hw.c3
  have f2 : w.frozen? ⟨k, 2, none⟩ = false := Joins.unfrozen_of_block hw 2
  have f3 : w.frozen? ⟨k, 3, none⟩ = false := Joins.unfrozen_of_block hw 3
  have HW := Lib.hid hw
  have d1 : decide ((1152921504606846976 : Int) < n) = false := decide_eq_false (by omega)
  have d2 : decide ((1152921504606846976 : Int) < d) = false := decide_eq_false (by omega)
  have e1 : wrap64 (n + 1) = n + 1 := IntWalk.wrap64_in _ (by omega)
  have e2 : wrap64 (d + 1) = d + 1 := IntWalk.wrap64_in _ (by omega)
  have e3 : IntKind.i64.wrap (n + 1) = n + 1 := by rw [IntKind.wrap_i64]; omega
  have e4 : IntKind.i64.wrap (d + 1) = d + 1 := by rw [IntKind.wrap_i64]; omega
  clear h hw
  rcases (by omega : j = 0 ∨ j = 1) with rfl | rfl
  · rw [if_pos rfl] at H
    go_enter Tryz.func30, Tryz.ntmps30
    go_wp2_with fail
    refine H.out.mono ?_; rintro e w1 ⟨rfl, rfl⟩
    go_wp2_with fail
    go_region_with fail
    go_wp2
    go_ret2
    obtain ⟨b2, g2⟩ := cell_set (i := 2) (v := .int .i64 (n + 1)) HW.out
    exact ⟨rfl, by unfold WkBox; rw [heap_drew]; simpa using b2, g2.os, g2.tape, g2.output, g2.size, g2.block⟩
  · rw [if_neg (by decide)] at H
    go_enter Tryz.func30, Tryz.ntmps30
    go_wp2_with fail
    refine H.out.mono ?_; rintro e w1 ⟨rfl, rfl⟩
    go_wp2_with fail
    go_region_with fail
    go_wp2
    go_ret2
    obtain ⟨b2, g2⟩ := cell_set (i := 3) (v := .int .i64 (d + 1)) HW.out
    exact ⟨rfl, by unfold WkBox; rw [heap_drew]; simpa using b2, g2.os, g2.tape, g2.output, g2.size, g2.block⟩

theorem txBegin_end {W : World} (h : TxBox W s P (.pointer none) pm false) (hg : GrAt W B P pd X) (hB : B ≤ s) {r n d : Int} {w' : World} (hw : w' = (W.setCell ⟨s, 1, none⟩ (.pointer (some ⟨W.heap.size, 0, none⟩))).alloc (.cells #[.pointer (some ⟨P, 0, none⟩), .int .i64 r, .int .i64 n, .int .i64 d, .slice none 0 0, .bool false] 99)) :
    TxBox w' s P (wkv W.heap.size) pm false ∧ WkBox w' W.heap.size P r n d (.slice none 0 0) false ∧ GrAt w' B P pd X ∧ Below B W w' ∧ Keeps (isTy 62) W w' := by
  subst hw
  obtain ⟨b2, g2⟩ := cell_set (i := 1) (v := wkv W.heap.size) h
  obtain ⟨q1, q2, q3, q4⟩ := h.set (nw' := wkv W.heap.size) (fl' := false) hg hB (by simpa using b2) g2
  have hsz : (W.setCell ⟨s, 1, none⟩ (wkv W.heap.size)).heap.size = W.heap.size := by simp
  have hw0 : wkv W.heap.size = .pointer (some ⟨W.heap.size, 0, none⟩) := rfl
  rw [← hw0]
  generalize W.setCell ⟨s, 1, none⟩ (wkv W.heap.size) = V at *
  have hb := sbox1 V (.cells #[.pointer (some ⟨P, 0, none⟩), .int .i64 r, .int .i64 n, .int .i64 d, .slice none 0 0, .bool false] 99)
  have hn : WkBox (V.alloc (.cells #[.pointer (some ⟨P, 0, none⟩), .int .i64 r, .int .i64 n, .int .i64 d, .slice none 0 0, .bool false] 99)) V.heap.size P r n d (.slice none 0 0) false := heap_alloc_new V _
  rw [hsz] at hn
  exact ⟨q1.low hb, hn, q2.below hb, q3.trans (hb.mono q2.base), q4.trans (Keeps.below hb)⟩

set_option maxHeartbeats 1600000 in
theorem txBegin_yes (h : TxBox w s P (.pointer none) pm false) (hg : GrAt w B P pd X) (hB : B ≤ s) :
    Calls Tryz.prog 18 #[.pointer (some ⟨s, 0, none⟩)] w fun e w' => e = .returned (.int .i64 0) ∧ ∃ k, TxBox w' s P (wkv k) pm false ∧ WkBox w' k P X.r X.n X.d (.slice none 0 0) false ∧ GrAt w' B P pd X ∧ Below B w w' ∧ Keeps (isTy 62) w w' ∧ w.heap.size ≤ k := by
  have H := Lib.hid (txMade_yes h)
  have c0 := h.c0
  have c1 := h.c1
  have c3 := h.c3
  have HM : Hid (Calls Tryz.prog 46 #[.pointer (some ⟨P, 0, none⟩)] w fun e w' => e = .returned (.agg #[.int .i64 X.g, .int .i64 X.r, .int .i64 X.n, .int .i64 X.d]) ∧ Below w.heap.size w w') := Lib.hid (by
    obtain ⟨lm, fm, pl, um, wm, la, v, hg⟩ := hg
    exact grMeta hg)
  have HH := Lib.hid h
  have HG := Lib.hid hg
  have HBs := Lib.hid hB
  clear h hg hB
  go_enter Tryz.func18, Tryz.ntmps18
  go_wp2_with fail
  refine H.out.mono ?_; rintro e w1 ⟨rfl, rfl⟩
  go_wp2_with fail
  refine HM.out.mono ?_; rintro e w1 ⟨rfl, hb1⟩
  obtain ⟨W, hW⟩ : ∃ W, W = w1.alloc (.cells #[.int .i64 X.g, .int .i64 X.r, .int .i64 X.n, .int .i64 X.d] 92) := ⟨_, rfl⟩
  have hbW : Below w.heap.size w W := by rw [hW]; exact hb1.alloc hb1.size _
  have HX : W.heap[w1.heap.size]? = some (.cells #[.int .i64 X.g, .int .i64 X.r, .int .i64 X.n, .int .i64 X.d] 92 (0, 0)) := by rw [hW]; exact heap_alloc_new w1 _
  obtain ⟨mb, hmb⟩ : ∃ mb, mb = w1.heap.size := ⟨_, rfl⟩
  rw [← hmb] at HX
  have x1 : W.cell? ⟨mb, 1, none⟩ = some (.int .i64 X.r) := (Joins.cell_of_block HX 1).trans rfl
  have x2 : W.cell? ⟨mb, 2, none⟩ = some (.int .i64 X.n) := (Joins.cell_of_block HX 2).trans rfl
  have x3 : W.cell? ⟨mb, 3, none⟩ = some (.int .i64 X.d) := (Joins.cell_of_block HX 3).trans rfl
  have HBW := Lib.hid hbW
  have HS := Lib.hid (HH.out.low hbW)
  have HXM := Lib.hid HX
  have HMB : mb < W.heap.size := (Array.getElem?_eq_some_iff.1 HX).1
  clear hbW HX c0 c1 c3
  go_wp2_with fail
  rw [← hW, ← hmb]
  clear hW hmb hb1
  have c0 := HS.out.c0
  have c1 := HS.out.c1
  have f1 : W.frozen? ⟨s, 1, none⟩ = false := Joins.unfrozen_of_block HS.out 1
  have hsl : s < W.heap.size := (Array.getElem?_eq_some_iff.1 HS.out).1
  have HX : Hid (∀ w3, Below W.heap.size W w3 → (w3.cell? ⟨mb, 1, none⟩ = some (.int .i64 X.r) ∧ w3.cell? ⟨mb, 2, none⟩ = some (.int .i64 X.n) ∧ w3.cell? ⟨mb, 3, none⟩ = some (.int .i64 X.d) ∧ w3.cell? ⟨s, 0, none⟩ = some (.pointer (some ⟨P, 0, none⟩)))) := Lib.hid fun w3 hb => ⟨(hb.cell (p := ⟨mb, 1, none⟩) HMB).trans x1, (hb.cell (p := ⟨mb, 2, none⟩) HMB).trans x2, (hb.cell (p := ⟨mb, 3, none⟩) HMB).trans x3, (hb.cell (p := ⟨s, 0, none⟩) hsl).trans c0⟩
  have HX2 : Hid (∀ o, ((W.setCell ⟨s, 1, none⟩ (.pointer (some ⟨W.heap.size, 0, none⟩))).alloc o).cell? ⟨mb, 1, none⟩ = some (.int .i64 X.r) ∧ ((W.setCell ⟨s, 1, none⟩ (.pointer (some ⟨W.heap.size, 0, none⟩))).alloc o).cell? ⟨mb, 2, none⟩ = some (.int .i64 X.n) ∧ ((W.setCell ⟨s, 1, none⟩ (.pointer (some ⟨W.heap.size, 0, none⟩))).alloc o).cell? ⟨mb, 3, none⟩ = some (.int .i64 X.d) ∧ ((W.setCell ⟨s, 1, none⟩ (.pointer (some ⟨W.heap.size, 0, none⟩))).alloc o).cell? ⟨s, 0, none⟩ = some (.pointer (some ⟨P, 0, none⟩))) := Lib.hid fun o => by
    obtain ⟨b2, g2⟩ := cell_set (i := 1) (v := .pointer (some ⟨W.heap.size, 0, none⟩)) HS.out
    have hm := grown_at g2 HXM.out (obj_ne HXM.out HS.out (by intro e; simp only [Obj.cells.injEq] at e; exact absurd e.2.1 (by decide)))
    have hb := sbox1 (W.setCell ⟨s, 1, none⟩ (.pointer (some ⟨W.heap.size, 0, none⟩))) o
    have l1 := (Array.getElem?_eq_some_iff.1 hm).1
    have l2 := (Array.getElem?_eq_some_iff.1 b2).1
    exact ⟨(hb.cell (p := ⟨mb, 1, none⟩) l1).trans ((Joins.cell_of_block hm 1).trans rfl), (hb.cell (p := ⟨mb, 2, none⟩) l1).trans ((Joins.cell_of_block hm 2).trans rfl), (hb.cell (p := ⟨mb, 3, none⟩) l1).trans ((Joins.cell_of_block hm 3).trans rfl), (hb.cell (p := ⟨s, 0, none⟩) l2).trans ((Joins.cell_of_block b2 0).trans rfl)⟩
  have HX3 : Hid (∀ o, ((W.setCell ⟨s, 1, none⟩ (.pointer (some ⟨W.heap.size, 0, none⟩))).alloc o).drew.cell? ⟨mb, 1, none⟩ = some (.int .i64 X.r) ∧ ((W.setCell ⟨s, 1, none⟩ (.pointer (some ⟨W.heap.size, 0, none⟩))).alloc o).drew.cell? ⟨mb, 2, none⟩ = some (.int .i64 X.n) ∧ ((W.setCell ⟨s, 1, none⟩ (.pointer (some ⟨W.heap.size, 0, none⟩))).alloc o).drew.cell? ⟨mb, 3, none⟩ = some (.int .i64 X.d) ∧ ((W.setCell ⟨s, 1, none⟩ (.pointer (some ⟨W.heap.size, 0, none⟩))).alloc o).drew.cell? ⟨s, 0, none⟩ = some (.pointer (some ⟨P, 0, none⟩))) := Lib.hid fun o => HX2.out o
  go_region_held3 (fun w' => w'.cell? ⟨mb, 1, none⟩ = some (.int .i64 X.r) ∧ w'.cell? ⟨mb, 2, none⟩ = some (.int .i64 X.n) ∧ w'.cell? ⟨mb, 3, none⟩ = some (.int .i64 X.d) ∧ w'.cell? ⟨s, 0, none⟩ = some (.pointer (some ⟨P, 0, none⟩)))
    (with_reducible first | exact HX.out _ (Below.refl _ _) | exact HX.out _ (Below.refl _ _).drew | exact HX.out _ (sbox1 _ _) | exact HX.out _ (sbox1 _ _).drew | exact HX2.out _ | exact HX3.out _ | fail)
    (first | fail)
  go_wp2
  go_ret
  obtain ⟨q1, q2, q3, q4, q5⟩ := txBegin_end HS.out (HG.out.below HBW.out) HBs.out (r := X.r) (n := X.n) (d := X.d) rfl
  exact ⟨rfl, W.heap.size, q1.low (Below.refl _ _).drew, q2.low (Below.refl _ _).drew, q3.below (Below.refl _ _).drew, ((HBW.out.mono HG.out.base).trans q4).drew, (Keeps.below HBW.out).trans (q5.trans (Keeps.below (Below.refl _ _).drew)), HBW.out.size⟩

set_option maxHeartbeats 1600000 in
theorem txCommit_yes {Y : PG} (h : TxBox w s P (wkv k) pm fl) {r n d : Nat} (hw : WkBox w k P r n d bk false) (hg : GrAt w B P pd X) (hB : B ≤ s)
    (HC : ∀ w1, Below B w w1 → GrAt w1 B P pd X → Calls Tryz.prog 67 #[.pointer (some ⟨P, 0, none⟩), .int .i64 r, .int .i64 n, .int .i64 d] w1 fun e w' => e = .returned (.int .i64 0) ∧ GrStep w1 w' B P pd Y) :
    Calls Tryz.prog 32 #[.pointer (some ⟨s, 0, none⟩)] w fun e w' => e = .returned (.int .i64 0) ∧ TxBox w' s P (.pointer none) pm fl ∧ GrAt w' B P pd Y ∧ Below B w w' ∧ Keeps (ofTx P) w w' := by
  have H := Lib.hid (txOpenW_yes h hw)
  have f1 : w.frozen? ⟨s, 1, none⟩ = false := Joins.unfrozen_of_block h 1
  have c1 := h.c1
  obtain ⟨W, hW⟩ : ∃ W, W = w.setCell ⟨s, 1, none⟩ (.pointer none) := ⟨_, rfl⟩
  obtain ⟨q1, q2, q3, q4⟩ : TxBox W s P (.pointer none) pm fl ∧ GrAt W B P pd X ∧ Below B w W ∧ Keeps (isTy 62) w W := by
    obtain ⟨b1, g1⟩ := cell_set (i := 1) (v := .pointer none) h
    subst hW
    exact h.set hg hB (by simpa using b1) g1
  have hwW : WkBox W k P r n d bk false := q4.stay hw rfl
  have x0 := q1.c0
  have x1 := hwW.c1
  have x2 := hwW.c2
  have x3 := hwW.c3
  have HQ := Lib.hid q1
  have HG := Lib.hid q2
  have HBW := Lib.hid q3
  have HKW := Lib.hid q4
  have HCM := Lib.hid (HC _ q3.drew (q2.below (Below.refl _ _).drew))
  have HWK := Lib.hid hwW
  clear h hw hg HC q1 q2 q3 q4 hwW
  go_enter Tryz.func32, Tryz.ntmps32
  go_wp2_with fail
  refine H.out.mono ?_; rintro e w1 ⟨rfl, rfl⟩
  go_wp2_with fail
  rw [← hW]
  clear hW c1 f1
  have HX : Hid (∀ w3, Keeps ofGr W w3 → w3.cell? ⟨s, 0, none⟩ = some (.pointer (some ⟨P, 0, none⟩)) ∧ w3.cell? ⟨k, 1, none⟩ = some (.int .i64 r) ∧ w3.cell? ⟨k, 2, none⟩ = some (.int .i64 n) ∧ w3.cell? ⟨k, 3, none⟩ = some (.int .i64 d)) := Lib.hid fun w3 hk => ⟨(HQ.out.gr hk).c0, (HWK.out.gr hk).c1, (HWK.out.gr hk).c2, (HWK.out.gr hk).c3⟩
  have HXC : Hid (∀ w3, GrStep W.drew w3 B P pd Y → w3.cell? ⟨s, 0, none⟩ = some (.pointer (some ⟨P, 0, none⟩)) ∧ w3.cell? ⟨k, 1, none⟩ = some (.int .i64 r) ∧ w3.cell? ⟨k, 2, none⟩ = some (.int .i64 n) ∧ w3.cell? ⟨k, 3, none⟩ = some (.int .i64 d)) := Lib.hid fun w3 hs => HX.out _ ((Keeps.below (Below.refl _ _).drew).trans hs.keeps)
  go_region_held3 (fun w' => w'.cell? ⟨s, 0, none⟩ = some (.pointer (some ⟨P, 0, none⟩)) ∧ w'.cell? ⟨k, 1, none⟩ = some (.int .i64 r) ∧ w'.cell? ⟨k, 2, none⟩ = some (.int .i64 n) ∧ w'.cell? ⟨k, 3, none⟩ = some (.int .i64 d))
    (with_reducible first | exact HXC.out _ HS.out | exact HX.out _ (Keeps.below (Below.refl _ _)) | exact HX.out _ (Keeps.below (Below.refl _ _).drew) | fail)
    (first | (go_at_call 67; (with_reducible refine HCM.out.mono ?_); rintro e w3 ⟨rfl, hs⟩; have HS := Lib.hid hs; clear hs) | fail)
  go_wp2
  go_ret
  have hbd : Below W.heap.size W W.drew := (Below.refl _ _).drew
  exact ⟨rfl, (HQ.out.low hbd).gr HS.out.keeps, HS.out.at_, (HBW.out.trans ((hbd.mono HG.out.base).trans HS.out.below)), (HKW.out.mono (isTy_ofTx (by decide))).trans ((Keeps.below hbd).trans (HS.out.kp.mono ofGrP_ofTx))⟩

set_option maxHeartbeats 1600000 in
theorem txAbort_yes {Y : PG} (h : TxBox w s P (wkv k) pm fl) (hg : GrAt w B P pd X) (hB : B ≤ s)
    (HC : ∀ w1, Below B w w1 → GrAt w1 B P pd X → Calls Tryz.prog 68 #[.pointer (some ⟨P, 0, none⟩)] w1 fun e w' => e = .returned (.int .i64 0) ∧ GrStep w1 w' B P pd Y) :
    Calls Tryz.prog 33 #[.pointer (some ⟨s, 0, none⟩)] w fun e w' => e = .returned (.int .i64 0) ∧ TxBox w' s P (.pointer none) pm fl ∧ GrAt w' B P pd Y ∧ Below B w w' ∧ Keeps (ofTx P) w w' := by
  have H := Lib.hid (txMade_yes h)
  have f1 : w.frozen? ⟨s, 1, none⟩ = false := Joins.unfrozen_of_block h 1
  have c1 : w.cell? ⟨s, 1, none⟩ = some (.pointer (some ⟨k, 0, none⟩)) := h.c1
  have c0 := h.c0
  obtain ⟨W, hW⟩ : ∃ W, W = w.setCell ⟨s, 1, none⟩ (.pointer none) := ⟨_, rfl⟩
  obtain ⟨q1, q2, q3, q4⟩ : TxBox W s P (.pointer none) pm fl ∧ GrAt W B P pd X ∧ Below B w W ∧ Keeps (isTy 62) w W := by
    obtain ⟨b1, g1⟩ := cell_set (i := 1) (v := .pointer none) h
    subst hW
    exact h.set hg hB (by simpa using b1) g1
  have x0 := q1.c0
  have HQ := Lib.hid q1
  have HG := Lib.hid q2
  have HBW := Lib.hid q3
  have HKW := Lib.hid q4
  have HCM := Lib.hid (HC _ q3 q2)
  clear h hg HC q1 q2 q3 q4
  go_enter Tryz.func33, Tryz.ntmps33
  go_wp2_with fail
  refine H.out.mono ?_; rintro e w1 ⟨rfl, rfl⟩
  go_wp2_with fail
  rw [← hW]
  clear hW c0 c1 f1
  refine HCM.out.mono ?_; rintro e w3 ⟨rfl, hs⟩
  have HS := Lib.hid hs
  clear hs
  go_wp2
  go_ret
  exact ⟨rfl, HQ.out.gr HS.out.keeps, HS.out.at_, HBW.out.trans HS.out.below, (HKW.out.mono (isTy_ofTx (by decide))).trans (HS.out.kp.mono ofGrP_ofTx)⟩
end

end Go.Proofs.YtngnmakeaniapaaGreatDoor

