/-
  pager: Abort.
  Plain facts on pagers: the least free page, counts, what a disk's sectors have behind a commit.
-/
import Derived.Test.YtpmiakcngjihnaaDoorGma
import Derived.Test.YtpmiakcngjihnaaDoorGmb
import Derived.Test.YtpmiakcngjihnaaDoorFrPure
import Derived.Deep.RegionWith
set_option linter.unusedVariables false
set_option maxRecDepth 100000
namespace Go.Proofs.YtpmiakcngjihnaaDoor
open Go.RowKit

section
variable {P : Program} {w w' : World} {ops : Array Oper} {rest : List Oper} {o : Oper} {a : Act} {Q : Exit → Act → World → Prop} {b r : Nat} {f : Int → Option Value} {left : Int → Bool}
/-- The step, for any map. -/
theorem st_nextv (hg : o.guard = none) (it : Operand) (hop : o.op = Op.next it false) (hit : a.eval it = .pointer (some ⟨r, 0, none⟩)) (h : Rng w b r f left)
    (hDone : (∀ k, left k = false) → wpList P ops Q rest (a.put o.dst (.tuple #[.bool false])) w)
    (hMore : ∀ (k : Int) (v : Value) (w' : World), left k = true → f k = some v → Rng w' b r f (fun x => left x && !(x == k)) → w'.rangeLeft b r < w.rangeLeft b r → w.grownBy w' (some r) → w'.heap.size = w.heap.size →
      (Instr.entry (.pointer (some ⟨r, 0, none⟩))).run P w' = .ok (.tuple #[.int .i64 k, v]) w' → wpList P ops Q rest (a.put o.dst (.tuple #[.bool true, .int .i64 k, v])) w') :
    wpList P ops Q (o :: rest) a w := by
  refine wpList_plain hg fun K' hK' => ?_
  unfold Oper.wp
  rcases h.next (P := P) o.type with ⟨hl, hrun⟩ | ⟨k, v, w', hl, hfk, hrun, hrg, hlt, hgr, hsz, hen⟩
  · simp [execOp, hop, hit, hrun, Result.andThen]
    exact hK' _ _ (hDone hl)
  · simp [execOp, hop, hit, hrun, Result.andThen]
    exact hK' _ _ (hMore k v w' hl hfk hrg hlt hgr hsz hen)

theorem Rng.keeps {K : Nat → Obj → Bool} (h : Rng w b r f left) (hk : Keeps K w w') (hb : ∀ es c, K b (.map es c) = false) (hr : ∀ m s e c, K r (.mapIter m s e c) = false) : Rng w' b r f left ∧ w'.rangeLeft b r = w.rangeLeft b r := by
  obtain ⟨es, c, since, seen, c0, h1, h2, h3⟩ := id h
  have e1 := hk.stay h1 (hb _ _)
  have e2 := hk.stay h2 (hr _ _ _ _)
  obtain ⟨h4, h5, h6, h7, h8, h9, h10⟩ := h3
  exact ⟨⟨es, c, since, seen, c0, e1, e2, h4, h5, h6, h7, h8, h9.block (by rw [e1, h1]), h10⟩, rangeLeft_kept (by rw [e1, h1]) (by rw [e2, h2])⟩
theorem Rng.iter (h : Rng w b r f left) : ∃ m s e c, w.heap[r]? = some (.mapIter m s e c) := by
  obtain ⟨es, c, since, seen, c0, h1, h2, h3⟩ := h
  exact ⟨_, _, _, _, h2⟩
end

def isIter : Nat → Obj → Bool
  | _, .mapIter _ _ _ _ => true
  | _, _ => false

/-- Of the pages in use, those that are not such any more. -/
def FL.abo (F : FL) (L left : Int → Bool) : FL := { F with used := fun x => F.used x && !(L x && !left x) }
def FL.less (F : FL) (L : Int → Bool) : FL := { F with used := fun x => F.used x && !L x }
theorem FL.abo_start (F : FL) (L : Int → Bool) : F.abo L L = F := by
  obtain ⟨lo, hi, u, ws⟩ := F
  simp only [FL.abo, FL.mk.injEq, true_and, and_true]
  funext x
  cases L x <;> simp
theorem FL.abo_end (F : FL) (L left : Int → Bool) (h : ∀ k, left k = false) : F.abo L left = F.less L := by
  obtain ⟨lo, hi, u, ws⟩ := F
  simp only [FL.abo, FL.less, FL.mk.injEq, true_and, and_true]
  funext x
  rw [h x]
  simp
theorem FL.abo_drop (F : FL) (L left : Int → Bool) {k : Int} (hk : L k = true) : (F.abo L left).drop k = F.abo L fun x => left x && !(x == k) := by
  obtain ⟨lo, hi, u, ws⟩ := F
  simp only [FL.abo, FL.drop, FL.mk.injEq, true_and, and_true]
  funext x
  by_cases hx : x = k
  · subst hx
    simp [hk]
  · have hb : (x == k) = false := by simpa using hx
    simp [hx, hb]
theorem FL.abo_st (F : FL) (L left : Int → Bool) {k : Int} (hs : F.st k = 2) (hl : left k = true) : (F.abo L left).st k = 2 := by
  obtain ⟨h1, h2⟩ := FL.st_two.1 hs
  exact FL.st_two.2 ⟨h1, by simp [FL.abo, h2, hl]⟩

/-- Behind Abort. -/
def PG.abort (X : PG) : PG := { X with L := fun _ => false, F := (X.F.less X.L).back fun g => g == (X.g : Int) + 1 }

section
variable {w w' : World} {B P pd lm fm pl um wm la : Nat} {v : Value} {X : PG}

theorem GrIs.apart {K : Nat → Obj → Bool} (h : GrIs w B P pd lm fm pl um wm la v X) (hk : Keeps K w w') (h1 : ∀ i c t f, K i (.cells c t f) = false) (h2 : ∀ i es c, K i (.map es c) = false) : GrIs w' B P pd lm fm pl um wm la v X :=
  ⟨hk.stay h.blk (h1 _ _ _ _), h.disk.keeps hk (fun _ _ _ => h1 _ _ _ _) (fun _ _ _ => h1 _ _ _ _) (fun _ _ _ => h1 _ _ _ _) (fun _ _ => h2 _ _ _) (fun _ _ => h2 _ _ _), h.list.keeps hk (fun _ => h1 _ _ _ _) (fun _ _ => h2 _ _ _) (fun _ _ => h2 _ _ _), h.mla.keeps hk (fun _ _ => h2 _ _ _), pins_keeps h.pins hk (fun _ _ _ => h1 _ _ _ _), h.bP, h.bu, h.bw, h.ba, h.nlm, h.nfm, h.nla, h.g0⟩

/-- A round of Abort. -/
structure AbInv (w wr : World) (B P pd lm fm pl um wm la r : Nat) (v : Value) (X : PG) (left : Int → Bool) : Prop where
  is : GrIs wr B P pd lm fm pl um wm la v { X with F := X.F.abo X.L left }
  rng : Rng wr la r (setOf X.L) left
  hr : w.heap.size ≤ r
  below : Below B w wr
  keeps : Keeps ofGr w wr

theorem AbInv.step {w wr w1 : World} {B P pd lm fm pl um wm la r : Nat} {v : Value} {X : PG} {left l' : Int → Bool} (h : AbInv w wr B P pd lm fm pl um wm la r v X left) (hB : B ≤ w.heap.size) (hg : wr.grownBy w1 (some r)) :
    GrIs w1 B P pd lm fm pl um wm la v { X with F := X.F.abo X.L left } ∧ Below B w w1 ∧ Keeps ofGr w w1 := by
  obtain ⟨m, s, e, c, hi⟩ := h.rng.iter
  have hk : Keeps isIter wr w1 := Keeps.of_grown hg hi rfl
  refine ⟨h.is.apart hk (fun _ _ _ _ => rfl) (fun _ _ _ => rfl), h.below.grown hg (Nat.le_trans hB h.keeps.size) (fun k hk => by cases hk; have := h.hr; omega), ⟨Nat.le_trans h.keeps.size hg.size, fun {i o} h1 h2 => ?_⟩⟩
  exact grown_at hg (h.keeps.stay h1 h2) (by have := (Array.getElem?_eq_some_iff.1 h1).1; have := h.hr; omega)

set_option maxHeartbeats 3200000 in
theorem grAbort (h : GrIs w B P pd lm fm pl um wm la v X) (hfl : X.failed = false) (hL : ∀ k, X.L k = true → X.F.st k = 2) :
    Calls Tryd.prog 17 #[.pointer (some ⟨P, 0, none⟩)] w fun e w' => e = .returned (.int .i64 0) ∧ GrStep w w' B P pd X.abort := by
  have HM := Lib.hid h.made
  have c10 := h.c10
  rw [hfl] at c10
  have c6 := h.c6
  have H := Lib.hid h
  have HLL := Lib.hid hL
  have HBB := Lib.hid h.base
  have HGV : Hid (∀ w1 left k, GrIs w1 B P pd lm fm pl um wm la v { X with F := X.F.abo X.L left } → X.L k = true → left k = true → Calls Tryd.prog 40 #[.pointer (some ⟨pl, 0, none⟩), .int .i64 k] w1 (FrStep w1 pl um wm (X.F.abo X.L fun x => left x && !(x == k)) (.int .i64 0))) := Lib.hid fun w1 left k h1 hk hl => by
    have h2 := FL.abo_st X.F X.L left (hL k hk) hl
    have hh := frGive_any h1.list (k := k) (FL.st_two.1 h2).1
    rw [if_pos h2, if_pos h2, FL.abo_drop X.F X.L left hk] at hh
    exact hh
  clear h hL
  go_enter Tryd.func17, Tryd.ntmps17
  go_wp2_with fail
  refine HM.out.mono ?_; rintro e w1 ⟨rfl, rfl⟩
  go_wp2_with (at_range; refine st_range rfl _ _ 3 86 rfl Tryd.underlying61 rfl H.out.mla ?_; intro w0 hr0 hb0 hs0)
  go_frame
  go_loopw [3] (fun _ wr => ∃ left, AbInv w wr B P pd lm fm pl um wm la w.heap.size v X left) (fun _ wr => wr.rangeLeft la w.heap.size)
  case atStart =>
    have e : (fun k => (setOf X.L k).isSome) = X.L := by
      funext k
      simp only [setOf]
      cases X.L k <;> simp
    rw [e] at hr0
    refine ⟨X.L, ?_, hr0, Nat.le_refl _, hb0.mono HBB.out, Keeps.below hb0⟩
    rw [FL.abo_start]
    exact H.out.below hb0
  case round =>
    obtain ⟨left, hl⟩ := hrel
    have HLv := Lib.hid hl
    have HRG := Lib.hid hl.rng
    clear hl
    go_wp2_with (at_next; refine st_nextv rfl _ rfl rfl HRG.out ?_ ?_)
    · intro hd
      have HE : Hid (X.F.abo X.L left = X.F.less X.L) := Lib.hid (FL.abo_end _ _ _ hd)
      have hi := HLv.out.is
      rw [HE.out] at hi
      have HI := Lib.hid hi
      have c6 := hi.c6
      clear hd hi
      go_wp2_with (refine st_clear rfl _ _ 3 86 rfl Tryd.underlying61 rfl HI.out.mla ?_; intro w3 hm hg; obtain ⟨g1, g2, g3⟩ := HI.out.onLaid (L := fun _ => false) (by rw [setOf_none]; exact hm) hg; have G1 := Lib.hid g1; have G2 := Lib.hid (HLv.out.below.trans g2); have G3 := Lib.hid (HLv.out.keeps.trans (g3.mono isMaps_ofGr)); have GD := Lib.hid (g1.below (Below.drew (Below.refl _ _))); have HNX := Lib.hid (grNext (g1.below (Below.drew (Below.refl _ _)))); have HFG := Lib.hid (frForget_any (g1.below (Below.drew (Below.refl _ _))).list ((X.g : Int) + 1)); have c1 := g1.c1; clear hm hg g1 g2 g3)
      go_region_with (first | (go_at_call 42; (with_reducible refine HNX.out.mono ?_); rintro e w5 ⟨rfl, rfl⟩) | (go_at_call 47; (with_reducible refine HFG.out.mono ?_); rintro e w4 ⟨rfl, hfr, hon⟩; have HG := Lib.hid (GrStep.of (G2.out.trans (Below.drew (Below.refl _ _))) (G3.out.trans (Keeps.below (Below.drew (Below.refl _ _)))) (GrStep.list GD.out hfr hon)); clear hfr hon))
      all_goals
        go_wp2
        go_ret
        exact ⟨rfl, HG.out⟩
    · intro k u w1 hlk hfk hrg1 hlt1 hg1 hs1 hen
      have hk : X.L k = true := by
        simp only [setOf] at hfk
        cases hx : X.L k with
        | false => rw [hx] at hfk; simp at hfk
        | true => rfl
      obtain ⟨i1, i2, i3⟩ := HLv.out.step (l' := left) HBB.out hg1
      have I1 := Lib.hid i1
      have I2 := Lib.hid i2
      have I3 := Lib.hid i3
      have c1 := i1.c1
      have HR1 := Lib.hid hrg1
      have HT1 := Lib.hid hlt1
      have HK := Lib.hid hk
      have HLK := Lib.hid hlk
      clear hrg1 hg1 hlt1 hlk hfk hs1 i1 i2 i3 hk
      go_wp2_with fail
      refine (HGV.out _ _ _ I1.out HK.out HLK.out).mono ?_; rintro e w2 ⟨rfl, hfr, hon⟩
      obtain ⟨j1, j2, j3⟩ := I1.out.onList hfr hon
      have HJ : Hid (AbInv w w2 B P pd lm fm pl um wm la w.heap.size v X (fun x => left x && !(x == k)) ∧ w2.rangeLeft la w.heap.size = w1.rangeLeft la w.heap.size) := Lib.hid (by
        obtain ⟨m, s, e, c, hi⟩ := HR1.out.iter
        obtain ⟨q1, q2⟩ := HR1.out.keeps j3 (fun es c => by simp [isMaps, I1.out.nla.1, I1.out.nla.2]) (fun _ _ _ _ => rfl)
        exact ⟨⟨j1, q1, HLv.out.hr, I2.out.trans j2, I3.out.trans (j3.mono isMaps_ofGr)⟩, q2⟩)
      clear hfr hon j1 j2 j3 c1 hen
      go_wp2
      go_roundw
      case rel => exact ⟨_, HJ.out.1⟩
      case measure => rw [HJ.out.2]; exact HT1.out
end

end Go.Proofs.YtpmiakcngjihnaaDoor

set_option linter.unusedVariables false
set_option maxRecDepth 100000
namespace Go.Proofs.YtpmiakcngjihnaaDoor
open Go.RowKit

theorem FL.least_is {F : FL} {k : Int} (h : F.st k = 1) (hb : ∀ i, F.lo ≤ i → i < k → F.st i ≠ 1) : F.least = some k := by
  cases hl : F.least with
  | none => exact absurd h (FL.least_none hl k)
  | some j =>
    obtain ⟨h1, h2⟩ := FL.least_some hl
    obtain ⟨_, _, h3, _⟩ := FL.free_used h1
    obtain ⟨_, _, h4, _⟩ := FL.free_used h
    rcases Int.lt_trichotomy j k with h5 | h5 | h5
    · exact absurd h1 (hb j h3 h5)
    · rw [h5]
    · exact absurd h (h2 k h4 h5)

theorem countP_list {l m : List Int} (p : Int → Bool) (hl : l.Nodup) (hm : m.Nodup) (h : ∀ k, k ∈ m ↔ (k ∈ l ∧ p k = true)) : l.countP p = m.length := by
  rw [List.countP_eq_length_filter]
  refine List.Perm.length_eq ?_
  refine (List.perm_ext_iff_of_nodup (hl.filter _) hm).2 fun k => ?_
  rw [List.mem_filter, h]
theorem FL.Ok.used_len {F : FL} (h : F.Ok) {m : List Int} (hm : m.Nodup) (hu : ∀ k, k ∈ m ↔ F.used k = true) : F.nUsed = m.length :=
  countP_list _ F.pages_nodup hm fun k => by
    rw [hu, FL.mem_pages]
    exact ⟨fun hk => ⟨h.hu hk, hk⟩, fun hk => hk.2⟩
theorem FL.no_waits {F : FL} (h : ∀ k, F.waits k = none) : F.nWaits = 0 := by
  unfold FL.nWaits
  rw [List.countP_eq_zero]
  intro k _
  simp [h k]

/-- The whole numbers from a one on, so many. -/
def upFrom (a : Int) (n : Nat) : List Int := (List.range n).map fun (i : Nat) => a + (i : Int)
theorem upFrom_length (a : Int) (n : Nat) : (upFrom a n).length = n := by simp [upFrom]
theorem upFrom_nodup (a : Int) (n : Nat) : (upFrom a n).Nodup := by
  refine List.pairwise_map.2 (List.Pairwise.imp ?_ List.nodup_range)
  intro i j h e
  omega
theorem mem_upFrom {a : Int} {n : Nat} {k : Int} : k ∈ upFrom a n ↔ a ≤ k ∧ k < a + n := by
  simp only [upFrom, List.mem_map, List.mem_range]
  constructor
  · rintro ⟨i, hi, rfl⟩
    omega
  · rintro ⟨h1, h2⟩
    exact ⟨(k - a).toNat, by omega, by omega⟩

theorem PG.comS_read (X : PG) (r n d : Nat) {k : Int} (hk : 2 ≤ k) : (X.comS r n d).read k = X.S.read k := by
  unfold PG.comS
  rw [SD.flush_read, SD.write_read, if_neg (by omega), SD.flush_read]
theorem PG.comS_left {X : PG} (h : X.S.left = -1) (r n d : Nat) : (X.comS r n d).left = -1 :=
  SD.tick_left (S := X.S.flush.write _ _) (SD.tick_left (S := X.S.flush) (SD.tick_left h))
theorem PG.comS_ops (X : PG) (r n d : Nat) : (X.comS r n d).ops = X.S.ops + 3 := by
  show X.S.ops + 1 + 1 + 1 = _
  omega
theorem PG.comS_size (X : PG) (r n d : Nat) : (X.comS r n d).size = X.S.size := rfl
theorem PG.lay_read (X : PG) {k : Int} {pg : List UInt8} (hp : pg.length = 512) (j : Int) : (X.lay k pg).S.read j = if j = k then pg else X.S.read j := by
  show (X.S.write k pg).read j = _
  rw [SD.write_read, pad_same hp]

theorem FL.leave_of_none {F : FL} (h : ∀ k, F.waits k = none) (such : Int → Bool) : F.leave such = F := by
  obtain ⟨lo, hi, u, ws⟩ := F
  simp only [FL.leave, FL.mk.injEq, true_and]
  funext x
  have := h x
  simp only at this
  rw [this]

end Go.Proofs.YtpmiakcngjihnaaDoor

