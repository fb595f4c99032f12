/-
  pager: settle; clear of a map; pins in memory.
  pager: Abort.
  pager: follows, finish, Commit.
-/
import Derived.Test.YtmlnpgbnbchbkaaDoorH20
import Derived.Deep.RegionWith
import Derived.BigQuiet
set_option linter.unusedVariables false
set_option maxRecDepth 100000
namespace Go.Proofs.YtmlnpgbnbchbkaaDoor
open Go.RowKit Go.MapKept
open Go.ChangeMaps (setBlock heap_setBlock_same heap_setBlock_other)

section
variable {P : Program} {w : World} {ops : Array Oper} {rest : List Oper} {o : Oper} {a : Act} {Q : Exit → Act → World → Prop} {b : Nat} {f : Int → Option Value} {t kt et : TypeId}

theorem MapSt.clear (h : MapSt w b f) (ht : P.underlying t = some (.map kt et)) (ty : TypeId) :
    ∃ w', (Builtin.clear_ #[t] ty #[.map (some b)]).run P w = .ok (.tuple #[]) w' ∧ MapSt w' b (fun _ => none) ∧ w.grownBy w' (some b) := by
  obtain ⟨es, c, hb, _⟩ := h.st
  refine ⟨setBlock w b (.map #[] c), ?_, ⟨⟨#[], c, heap_setBlock_same hb _, by simp, by simp, by simp⟩, #[], c, heap_setBlock_same hb _, by simp, by simp⟩, setBlock_grown hb⟩
  have hg := run_getObj_map w b es c hb (P := P)
  simp [Builtin.clear_, run_underlying ht, hg, run_setObj_map _ hb, Result.andThen, setBlock]

/-- clear(m) -/
theorem st_clear (hg : o.guard = none) (m : Operand) (t kt et : TypeId) (hop : o.op = Op.call { callee := Callee.builtin Builtin.clear, args := #[m], argTypes := #[t] }) (ht : P.underlying t = some (.map kt et))
    (hm : a.eval m = .map (some b)) (h : MapSt w b f)
    (hK : ∀ w', MapSt w' b (fun _ => none) → w.grownBy w' (some b) → wpList P ops Q rest (a.put o.dst (.tuple #[])) w') : wpList P ops Q (o :: rest) a w := by
  refine wpList_plain hg fun K' hK' => ?_
  obtain ⟨w1, hrun, h1, h2⟩ := h.clear ht o.type
  unfold Oper.wp
  simp [execOp, hop, resolve, invoke, builtin, hm, hrun, Result.andThen]
  exact hK' _ _ (hK _ h1 h2)
end

theorem setOf_none : setOf (fun _ => false) = fun _ => none := by funext k; simp [setOf]

theorem pcells_get {ps : List (Int × Int)} {i : Nat} {x : Int × Int} (h : ps[i]? = some x) : (pcells ps)[i * 2]? = some (.int .i64 x.1) ∧ (pcells ps)[i * 2 + 1]? = some (.int .i64 x.2) := by
  induction ps generalizing i with
  | nil => simp at h
  | cons y ms ih =>
    cases i with
    | zero =>
      simp at h
      subst h
      exact ⟨rfl, rfl⟩
    | succ i =>
      have h' := ih (by simpa using h)
      have e : pcells (y :: ms) = [.int .i64 y.1, .int .i64 y.2] ++ pcells ms := rfl
      rw [e]
      have e1 : (i + 1) * 2 = 2 + i * 2 := by omega
      rw [e1, List.getElem?_append_right (by simp), List.getElem?_append_right (by simp; omega)]
      have e2 : 2 + i * 2 - [Value.int IntKind.i64 y.1, Value.int IntKind.i64 y.2].length = i * 2 := by simp
      have e3 : 2 + i * 2 + 1 - [Value.int IntKind.i64 y.1, Value.int IntKind.i64 y.2].length = i * 2 + 1 := by simp; omega
      rw [e2, e3]
      exact h'

/-- The pins, in memory. -/
theorem pins_at {w : World} {B : Nat} {v : Value} {ps : List (Int × Int)} (h : w.ownsRow B 82 2 v ps.length (pcells ps)) :
    (v = .slice none 0 0 ∧ ps = []) ∨ ∃ g cap, v = .slice (some ⟨g, 0, none⟩) ps.length cap ∧ B ≤ g ∧ g < w.heap.size ∧ ps.length ≤ cap ∧ cap ≤ 9223372036854775807 ∧
      (∀ i x, ps[i]? = some x → w.cell? ⟨g, i * 2, none⟩ = some (.int .i64 x.1) ∧ w.cell? ⟨g, i * 2 + 1, none⟩ = some (.int .i64 x.2)) ∧ ∀ j, w.frozen? ⟨g, j, none⟩ = false := by
  rcases h.2 with ⟨rfl, h0⟩ | ⟨g, cap, cur, rfl, hb, hg, hnc, hcm, hcs, htake⟩
  · exact .inl ⟨rfl, List.eq_nil_of_length_eq_zero h0⟩
  · refine .inr ⟨g, cap, rfl, hb, (Array.getElem?_eq_some_iff.1 hg).1, hnc, by unfold maxLen at hcm; omega, fun i x hx => ?_, fun j => Joins.unfrozen_of_block hg j⟩
    obtain ⟨h1, h2⟩ := pcells_get hx
    have a1 := h.cells (g := g) rfl (i * 2) _ h1
    have a2 := h.cells (g := g) rfl (i * 2 + 1) _ h2
    rw [Addr.add_lit, Nat.zero_add] at a1 a2
    exact ⟨a1, a2⟩

/-- The least generation that is pinned, or the committed one. -/
def PG.low (X : PG) : Int := match X.pins with | [] => X.g | x :: _ => x.1
def PG.settle (X : PG) : PG := { X with F := X.F.leave fun g => decide (g ≤ X.low) }

section
variable {w w' : World} {B P pd lm fm pl um wm la : Nat} {v : Value} {X : PG}

set_option maxHeartbeats 1600000 in
theorem grSettle (h : GrIs w B P pd lm fm pl um wm la v X) :
    Calls Tryd.prog 39 #[.pointer (some ⟨P, 0, none⟩)] w fun e w' => e = .returned (.tuple #[]) ∧ GrStep w w' B P pd X.settle := by
  have c1 := h.c1
  have c2 := h.c2
  have c7 := h.c7
  have HS := frSettle_any h.list X.low
  have H := Lib.hid h
  rcases pins_at h.pins with ⟨hv, hp⟩ | ⟨g, cap, hv, hgB, hgl, hnc, hcap, hcell, _⟩
  · have e : X.low = X.g := by unfold PG.low; rw [hp]
    have HF : Hid (X.settle = { X with F := X.F.leave fun g => decide (g ≤ (X.g : Int)) }) := Lib.hid (by unfold PG.settle; rw [e])
    rw [e] at HS
    replace HS := Lib.hid HS
    rw [hv] at c7
    clear h hp e hv
    go_enter Tryd.func39, Tryd.ntmps39
    go_wp2_with fail
    refine HS.out.mono ?_; rintro e w1 ⟨rfl, hfr, hon⟩
    have HG := Lib.hid (GrStep.list H.out hfr hon)
    clear hfr hon
    go_wp2
    go_end0
    exact ⟨rfl, by rw [HF.out]; exact HG.out⟩
  · cases hp : X.pins with
    | nil =>
      have e : X.low = X.g := by unfold PG.low; rw [hp]
      have HF : Hid (X.settle = { X with F := X.F.leave fun g => decide (g ≤ (X.g : Int)) }) := Lib.hid (by unfold PG.settle; rw [e])
      rw [e] at HS
      replace HS := Lib.hid HS
      rw [hv, hp] at c7
      simp only [List.length_nil] at c7
      clear h hp e hv hcell hnc
      go_enter Tryd.func39, Tryd.ntmps39
      go_wp2_with fail
      refine HS.out.mono ?_; rintro e w1 ⟨rfl, hfr, hon⟩
      have HG := Lib.hid (GrStep.list H.out hfr hon)
      clear hfr hon
      go_wp2
      go_end0
      exact ⟨rfl, by rw [HF.out]; exact HG.out⟩
    | cons x ps =>
      have e : X.low = x.1 := by unfold PG.low; rw [hp]
      have HF : Hid (X.settle = { X with F := X.F.leave fun g => decide (g ≤ x.1) }) := Lib.hid (by unfold PG.settle; rw [e])
      rw [e] at HS
      replace HS := Lib.hid HS
      obtain ⟨x0, _⟩ := hcell 0 x (by rw [hp]; rfl)
      rw [hv] at c7
      obtain ⟨m, hm⟩ : ∃ m, m = X.pins.length := ⟨_, rfl⟩
      have hm1 : 0 < m := by rw [hm, hp]; simp
      rw [← hm] at c7 hnc
      have hm63 : m ≤ 9223372036854775807 := by omega
      have hd : decide ((0 : Int) < (m : Int)) = true := decide_eq_true (by omega)
      clear h hp e hv hcell hm
      simp only [Nat.zero_mul] at x0
      generalize x.1 = x1 at *
      go_enter Tryd.func39, Tryd.ntmps39
      go_wp2_with fail
      refine HS.out.mono ?_; rintro e w1 ⟨rfl, hfr, hon⟩
      have HG := Lib.hid (GrStep.list H.out hfr hon)
      clear hfr hon
      go_wp2
      go_end0
      exact ⟨rfl, by rw [HF.out]; exact HG.out⟩
end

end Go.Proofs.YtmlnpgbnbchbkaaDoor

set_option linter.unusedVariables false
set_option maxRecDepth 100000
namespace Go.Proofs.YtmlnpgbnbchbkaaDoor
open Go.RowKit

section
variable {P : Program} {w w' : World} {ops : Array Oper} {rest : List Oper} {o : Oper} {a : Act} {Q : Exit → Act → World → Prop} {b r : Nat} {f : Int → Option Value} {left : Int → Bool}
/-- The step, for any map. -/
theorem st_nextv (hg : o.guard = none) (it : Operand) (hop : o.op = Op.next it false) (hit : a.eval it = .pointer (some ⟨r, 0, none⟩)) (h : Rng w b r f left)
    (hDone : (∀ k, left k = false) → wpList P ops Q rest (a.put o.dst (.tuple #[.bool false])) w)
    (hMore : ∀ (k : Int) (v : Value) (w' : World), left k = true → f k = some v → Rng w' b r f (fun x => left x && !(x == k)) → w'.rangeLeft b r < w.rangeLeft b r → w.grownBy w' (some r) → w'.heap.size = w.heap.size →
      (Instr.entry (.pointer (some ⟨r, 0, none⟩))).run P w' = .ok (.tuple #[.int .i64 k, v]) w' → wpList P ops Q rest (a.put o.dst (.tuple #[.bool true, .int .i64 k, v])) w') :
    wpList P ops Q (o :: rest) a w := by
  refine wpList_plain hg fun K' hK' => ?_
  unfold Oper.wp
  rcases h.next (P := P) o.type with ⟨hl, hrun⟩ | ⟨k, v, w', hl, hfk, hrun, hrg, hlt, hgr, hsz, hen⟩
  · simp [execOp, hop, hit, hrun, Result.andThen]
    exact hK' _ _ (hDone hl)
  · simp [execOp, hop, hit, hrun, Result.andThen]
    exact hK' _ _ (hMore k v w' hl hfk hrg hlt hgr hsz hen)

theorem Rng.keeps {K : Nat → Obj → Bool} (h : Rng w b r f left) (hk : Keeps K w w') (hb : ∀ es c, K b (.map es c) = false) (hr : ∀ m s e c, K r (.mapIter m s e c) = false) : Rng w' b r f left ∧ w'.rangeLeft b r = w.rangeLeft b r := by
  obtain ⟨es, c, since, seen, c0, h1, h2, h3⟩ := id h
  have e1 := hk.stay h1 (hb _ _)
  have e2 := hk.stay h2 (hr _ _ _ _)
  obtain ⟨h4, h5, h6, h7, h8, h9, h10⟩ := h3
  exact ⟨⟨es, c, since, seen, c0, e1, e2, h4, h5, h6, h7, h8, h9.block (by rw [e1, h1]), h10⟩, rangeLeft_kept (by rw [e1, h1]) (by rw [e2, h2])⟩
theorem Rng.iter (h : Rng w b r f left) : ∃ m s e c, w.heap[r]? = some (.mapIter m s e c) := by
  obtain ⟨es, c, since, seen, c0, h1, h2, h3⟩ := h
  exact ⟨_, _, _, _, h2⟩
end

def isIter : Nat → Obj → Bool
  | _, .mapIter _ _ _ _ => true
  | _, _ => false

/-- Of the pages in use, those that are not such any more. -/
def FL.abo (F : FL) (L left : Int → Bool) : FL := { F with used := fun x => F.used x && !(L x && !left x) }
def FL.less (F : FL) (L : Int → Bool) : FL := { F with used := fun x => F.used x && !L x }
theorem FL.abo_start (F : FL) (L : Int → Bool) : F.abo L L = F := by
  obtain ⟨lo, hi, u, ws⟩ := F
  simp only [FL.abo, FL.mk.injEq, true_and, and_true]
  funext x
  cases L x <;> simp
theorem FL.abo_end (F : FL) (L left : Int → Bool) (h : ∀ k, left k = false) : F.abo L left = F.less L := by
  obtain ⟨lo, hi, u, ws⟩ := F
  simp only [FL.abo, FL.less, FL.mk.injEq, true_and, and_true]
  funext x
  rw [h x]
  simp
theorem FL.abo_drop (F : FL) (L left : Int → Bool) {k : Int} (hk : L k = true) : (F.abo L left).drop k = F.abo L fun x => left x && !(x == k) := by
  obtain ⟨lo, hi, u, ws⟩ := F
  simp only [FL.abo, FL.drop, FL.mk.injEq, true_and, and_true]
  funext x
  by_cases hx : x = k
  · subst hx
    simp [hk]
  · have hb : (x == k) = false := by simpa using hx
    simp [hx, hb]
theorem FL.abo_st (F : FL) (L left : Int → Bool) {k : Int} (hs : F.st k = 2) (hl : left k = true) : (F.abo L left).st k = 2 := by
  obtain ⟨h1, h2⟩ := FL.st_two.1 hs
  exact FL.st_two.2 ⟨h1, by simp [FL.abo, h2, hl]⟩

/-- Behind Abort. -/
def PG.abort (X : PG) : PG := { X with L := fun _ => false, F := (X.F.less X.L).back fun g => g == (X.g : Int) + 1 }

section
variable {w w' : World} {B P pd lm fm pl um wm la : Nat} {v : Value} {X : PG}

theorem GrIs.apart {K : Nat → Obj → Bool} (h : GrIs w B P pd lm fm pl um wm la v X) (hk : Keeps K w w') (h1 : ∀ i c t f, K i (.cells c t f) = false) (h2 : ∀ i es c, K i (.map es c) = false) : GrIs w' B P pd lm fm pl um wm la v X :=
  ⟨hk.stay h.blk (h1 _ _ _ _), h.disk.keeps hk (fun _ _ _ => h1 _ _ _ _) (fun _ _ _ => h1 _ _ _ _) (fun _ _ _ => h1 _ _ _ _) (fun _ _ => h2 _ _ _) (fun _ _ => h2 _ _ _), h.list.keeps hk (fun _ => h1 _ _ _ _) (fun _ _ => h2 _ _ _) (fun _ _ => h2 _ _ _), h.mla.keeps hk (fun _ _ => h2 _ _ _), pins_keeps h.pins hk (fun _ _ _ => h1 _ _ _ _), h.bP, h.bu, h.bw, h.ba, h.nlm, h.nfm, h.nla, h.g0⟩

/-- A round of Abort. -/
structure AbInv (w wr : World) (B P pd lm fm pl um wm la r : Nat) (v : Value) (X : PG) (left : Int → Bool) : Prop where
  is : GrIs wr B P pd lm fm pl um wm la v { X with F := X.F.abo X.L left }
  rng : Rng wr la r (setOf X.L) left
  hr : w.heap.size ≤ r
  below : Below B w wr
  keeps : Keeps ofGr w wr

theorem AbInv.step {w wr w1 : World} {B P pd lm fm pl um wm la r : Nat} {v : Value} {X : PG} {left l' : Int → Bool} (h : AbInv w wr B P pd lm fm pl um wm la r v X left) (hB : B ≤ w.heap.size) (hg : wr.grownBy w1 (some r)) :
    GrIs w1 B P pd lm fm pl um wm la v { X with F := X.F.abo X.L left } ∧ Below B w w1 ∧ Keeps ofGr w w1 := by
  obtain ⟨m, s, e, c, hi⟩ := h.rng.iter
  have hk : Keeps isIter wr w1 := Keeps.of_grown hg hi rfl
  refine ⟨h.is.apart hk (fun _ _ _ _ => rfl) (fun _ _ _ => rfl), h.below.grown hg (Nat.le_trans hB h.keeps.size) (fun k hk => by cases hk; have := h.hr; omega), ⟨Nat.le_trans h.keeps.size hg.size, fun {i o} h1 h2 => ?_⟩⟩
  exact grown_at hg (h.keeps.stay h1 h2) (by have := (Array.getElem?_eq_some_iff.1 h1).1; have := h.hr; omega)

set_option maxHeartbeats 3200000 in
theorem grAbort (h : GrIs w B P pd lm fm pl um wm la v X) (hfl : X.failed = false) (hL : ∀ k, X.L k = true → X.F.st k = 2) :
    Calls Tryd.prog 13 #[.pointer (some ⟨P, 0, none⟩)] w fun e w' => e = .returned (.int .i64 0) ∧ GrStep w w' B P pd X.abort := by
  have HM := Lib.hid h.made
  have c10 := h.c10
  rw [hfl] at c10
  have c6 := h.c6
  have H := Lib.hid h
  have HLL := Lib.hid hL
  have HBB := Lib.hid h.base
  have HGV : Hid (∀ w1 left k, GrIs w1 B P pd lm fm pl um wm la v { X with F := X.F.abo X.L left } → X.L k = true → left k = true → Calls Tryd.prog 34 #[.pointer (some ⟨pl, 0, none⟩), .int .i64 k] w1 (FrStep w1 pl um wm (X.F.abo X.L fun x => left x && !(x == k)) (.int .i64 0))) := Lib.hid fun w1 left k h1 hk hl => by
    have h2 := FL.abo_st X.F X.L left (hL k hk) hl
    have hh := frGive_any h1.list (k := k) (FL.st_two.1 h2).1
    rw [if_pos h2, if_pos h2, FL.abo_drop X.F X.L left hk] at hh
    exact hh
  clear h hL
  go_enter Tryd.func13, Tryd.ntmps13
  go_wp2_with fail
  refine HM.out.mono ?_; rintro e w1 ⟨rfl, rfl⟩
  go_wp2_with (at_range; refine st_range rfl _ _ 3 74 rfl Tryd.underlying66 rfl H.out.mla ?_; intro w0 hr0 hb0 hs0)
  go_frame
  go_loopw [3] (fun _ wr => ∃ left, AbInv w wr B P pd lm fm pl um wm la w.heap.size v X left) (fun _ wr => wr.rangeLeft la w.heap.size)
  case atStart =>
    have e : (fun k => (setOf X.L k).isSome) = X.L := by
      funext k
      simp only [setOf]
      cases X.L k <;> simp
    rw [e] at hr0
    refine ⟨X.L, ?_, hr0, Nat.le_refl _, hb0.mono HBB.out, Keeps.below hb0⟩
    rw [FL.abo_start]
    exact H.out.below hb0
  case round =>
    obtain ⟨left, hl⟩ := hrel
    have HLv := Lib.hid hl
    have HRG := Lib.hid hl.rng
    clear hl
    go_wp2_with (at_next; refine st_nextv rfl _ rfl rfl HRG.out ?_ ?_)
    · intro hd
      have HE : Hid (X.F.abo X.L left = X.F.less X.L) := Lib.hid (FL.abo_end _ _ _ hd)
      have hi := HLv.out.is
      rw [HE.out] at hi
      have HI := Lib.hid hi
      have c6 := hi.c6
      clear hd hi
      go_wp2_with (refine st_clear rfl _ _ 3 74 rfl Tryd.underlying66 rfl HI.out.mla ?_; intro w3 hm hg; obtain ⟨g1, g2, g3⟩ := HI.out.onLaid (L := fun _ => false) (by rw [setOf_none]; exact hm) hg; have G1 := Lib.hid g1; have G2 := Lib.hid (HLv.out.below.trans g2); have G3 := Lib.hid (HLv.out.keeps.trans (g3.mono isMaps_ofGr)); have GD := Lib.hid (g1.below (Below.drew (Below.refl _ _))); have HNX := Lib.hid (grNext (g1.below (Below.drew (Below.refl _ _)))); have HFG := Lib.hid (frForget_any (g1.below (Below.drew (Below.refl _ _))).list ((X.g : Int) + 1)); have c1 := g1.c1; clear hm hg g1 g2 g3)
      go_region_with (first | (go_at_call 36; (with_reducible refine HNX.out.mono ?_); rintro e w5 ⟨rfl, rfl⟩) | (go_at_call 41; (with_reducible refine HFG.out.mono ?_); rintro e w4 ⟨rfl, hfr, hon⟩; have HG := Lib.hid (GrStep.of (G2.out.trans (Below.drew (Below.refl _ _))) (G3.out.trans (Keeps.below (Below.drew (Below.refl _ _)))) (GrStep.list GD.out hfr hon)); clear hfr hon))
      all_goals
        go_wp2
        go_ret
        exact ⟨rfl, HG.out⟩
    · intro k u w1 hlk hfk hrg1 hlt1 hg1 hs1 hen
      have hk : X.L k = true := by
        simp only [setOf] at hfk
        cases hx : X.L k with
        | false => rw [hx] at hfk; simp at hfk
        | true => rfl
      obtain ⟨i1, i2, i3⟩ := HLv.out.step (l' := left) HBB.out hg1
      have I1 := Lib.hid i1
      have I2 := Lib.hid i2
      have I3 := Lib.hid i3
      have c1 := i1.c1
      have HR1 := Lib.hid hrg1
      have HT1 := Lib.hid hlt1
      have HK := Lib.hid hk
      have HLK := Lib.hid hlk
      clear hrg1 hg1 hlt1 hlk hfk hs1 i1 i2 i3 hk
      go_wp2_with fail
      refine (HGV.out _ _ _ I1.out HK.out HLK.out).mono ?_; rintro e w2 ⟨rfl, hfr, hon⟩
      obtain ⟨j1, j2, j3⟩ := I1.out.onList hfr hon
      have HJ : Hid (AbInv w w2 B P pd lm fm pl um wm la w.heap.size v X (fun x => left x && !(x == k)) ∧ w2.rangeLeft la w.heap.size = w1.rangeLeft la w.heap.size) := Lib.hid (by
        obtain ⟨m, s, e, c, hi⟩ := HR1.out.iter
        obtain ⟨q1, q2⟩ := HR1.out.keeps j3 (fun es c => by simp [isMaps, I1.out.nla.1, I1.out.nla.2]) (fun _ _ _ _ => rfl)
        exact ⟨⟨j1, q1, HLv.out.hr, I2.out.trans j2, I3.out.trans (j3.mono isMaps_ofGr)⟩, q2⟩)
      clear hfr hon j1 j2 j3 c1 hen
      go_wp2
      go_roundw
      case rel => exact ⟨_, HJ.out.1⟩
      case measure => rw [HJ.out.2]; exact HT1.out
end

end Go.Proofs.YtmlnpgbnbchbkaaDoor

set_option linter.unusedVariables false
set_option maxRecDepth 100000
namespace Go.Proofs.YtmlnpgbnbchbkaaDoor
open Go.RowKit

section
variable {w w' : World} {B P pd lm fm pl um wm la : Nat} {v : Value} {X : PG}

/-- What follows asks of a Meta that may be committed. -/
structure Follows (X : PG) (r n d : Nat) : Prop where
  root : r = 0 ∨ (r ≠ 0 ∧ X.F.st r = 2)
  right : MRight ((X.g + 1 : Nat) : Int) r n d
  n : X.n ≤ n
  d : X.d ≤ d

set_option maxHeartbeats 3200000 in
theorem grFollows (hT : Tab w) (h : GrIs w B P pd lm fm pl um wm la v X) {r n d : Nat} (hf : Follows X r n d) :
    Calls Tryd.prog 37 #[.pointer (some ⟨P, 0, none⟩), .agg #[.int .i64 ((X.g : Int) + 1), .int .i64 r, .int .i64 n, .int .i64 d]] w fun e w' => e = .returned (.bool true) ∧ Below w.heap.size w w' := by
  obtain ⟨W, hW⟩ : ∃ W, W = w.alloc (.cells #[.int .i64 ((X.g : Int) + 1), .int .i64 r, .int .i64 n, .int .i64 d] 49) := ⟨_, rfl⟩
  have hb : Below w.heap.size w W := by rw [hW]; exact sbox1 w _
  have hx : W.heap[w.heap.size]? = some (.cells #[.int .i64 ((X.g : Int) + 1), .int .i64 r, .int .i64 n, .int .i64 d] 49 (0, 0)) := by rw [hW]; exact heap_alloc_new w _
  have HB := Lib.hid hb
  have h1 := h.below hb
  have c1 := h1.c1
  have HST := Lib.hid fun k => frState_any (h.below (belowN hb k)).list r
  have HX : Hid (∀ w', Below W.heap.size W w' → w'.cell? ⟨w.heap.size, 0, none⟩ = some (.int .i64 ((X.g : Int) + 1)) ∧ w'.cell? ⟨w.heap.size, 1, none⟩ = some (.int .i64 r) ∧ w'.cell? ⟨w.heap.size, 2, none⟩ = some (.int .i64 n) ∧ w'.cell? ⟨w.heap.size, 3, none⟩ = some (.int .i64 d)) := Lib.hid fun w' hb' => by
    have hx' : w'.heap[w.heap.size]? = _ := (hb'.block _ (Array.getElem?_eq_some_iff.1 hx).1).trans hx
    exact ⟨(Joins.cell_of_block hx' 0).trans rfl, (Joins.cell_of_block hx' 1).trans rfl, (Joins.cell_of_block hx' 2).trans rfl, (Joins.cell_of_block hx' 3).trans rfl⟩
  have HP4 : Hid (∀ w', Below W.heap.size W w' → w'.cell? ⟨P, 4, none⟩ = some (.int .i64 X.n) ∧ w'.cell? ⟨P, 5, none⟩ = some (.int .i64 X.d)) := Lib.hid fun w' hb' => ⟨(h1.below hb').c4, (h1.below hb').c5⟩
  have HS : Hid (∀ w1, Below W.heap.size W w1 → Calls Tryd.prog 49 #[.agg #[.int .i64 ((X.g : Int) + 1), .int .i64 r, .int .i64 n, .int .i64 d]] w1 (MSealPost w1 (mPage (X.g + 1) r n d) ((X.g + 1) % 2))) := Lib.hid fun w1 hb1 => by
    have hh := mseal_ok (hT.below hT.lt (hb.trans (hb1.mono hb.size))) hf.right
    rw [show ((X.g + 1 : Nat) : Int) = (X.g : Int) + 1 by omega] at hh
    exact hh
  have dn : decide ((X.n : Int) ≤ (n : Int)) = true := decide_eq_true (by have := hf.n; omega)
  have dd : decide ((X.d : Int) ≤ (d : Int)) = true := decide_eq_true (by have := hf.d; omega)
  obtain ⟨x0, x1, x2, x3⟩ := HX.out W (Below.refl _ _)
  rcases hf.root with h0 | ⟨hr0', h2⟩
  · have hr0 : ((r : Int) != 0) = false := by rw [h0]; rfl
    clear h h1 hT hf hb hx HST
    generalize mPage (X.g + 1) r n d = pg at *
    generalize (X.g + 1) % 2 = no at *
    generalize (X.g : Int) = g at *
    generalize (X.n : Int) = xn at *
    generalize (X.d : Int) = xd at *
    generalize (n : Int) = n' at *
    generalize (d : Int) = d' at *
    generalize (r : Int) = r' at *
    go_enter Tryd.func37, Tryd.ntmps37
    go_wp2_with fail
    rw [← hW]
    clear hW
    go_quiet (fail)
    have HBQ : Hid (Below W.heap.size W (W.drewN nq)) := Lib.hid (belowN (Below.refl _ _) nq)
    clear c1 x0 x1 x2 x3
    have c1 := HX.out _ HBQ.out
    obtain ⟨x0, x1, x2, x3⟩ := c1
    go_wp2_with fail
    refine (HS.out _ HBQ.out).mono ?_; rintro e w2 ⟨v2, rfl, _, hb2⟩
    have hbw := HBQ.out.trans (hb2.mono HBQ.out.size)
    have HBW := Lib.hid (HB.out.trans (hbw.mono HB.out.size))
    obtain ⟨y0, y1, y2, y3⟩ := HX.out _ hbw
    obtain ⟨y4, y5⟩ := HP4.out _ hbw
    clear hb2 hbw
    go_wp2_with fail
    go_quiet (fail)
    go_wp2
    go_ret
    exact ⟨rfl, belowN HBW.out _⟩
  · have hr0 : ((r : Int) != 0) = true := by
      rw [bne_iff_ne]
      omega
    have HST1 : Hid (Calls Tryd.prog 59 #[.pointer (some ⟨pl, 0, none⟩), .int .i64 r] W.drew fun e w' => e = .returned (.int .i64 2) ∧ Below W.heap.size W w') := Lib.hid ((frState_any (h.below hb.drew).list r).mono fun e w' ⟨he, hb'⟩ => ⟨by rw [he, h2], (Below.drew (Below.refl W.heap.size W)).trans hb'⟩)
    clear h h1 hT hf hb hx HST h2
    generalize mPage (X.g + 1) r n d = pg at *
    generalize (X.g + 1) % 2 = no at *
    generalize (X.g : Int) = g at *
    generalize (X.n : Int) = xn at *
    generalize (X.d : Int) = xd at *
    generalize (n : Int) = n' at *
    generalize (d : Int) = d' at *
    generalize (r : Int) = r' at *
    go_enter Tryd.func37, Tryd.ntmps37
    go_wp2_with fail
    rw [← hW]
    clear hW
    go_region_with (first | (go_at_call 59; (with_reducible refine HST1.out.mono ?_); rintro e w5 ⟨rfl, hb5⟩; have HBQ := Lib.hid hb5; clear hb5; obtain ⟨z0, z1, z2, z3⟩ := HX.out _ HBQ.out))
    all_goals
      go_wp2_with fail
      refine (HS.out _ HBQ.out).mono ?_; rintro e w2 ⟨v2, rfl, _, hb2⟩
      have hbw := HBQ.out.trans (hb2.mono HBQ.out.size)
      have HBW := Lib.hid (HB.out.trans (hbw.mono HB.out.size))
      obtain ⟨y0, y1, y2, y3⟩ := HX.out _ hbw
      obtain ⟨y4, y5⟩ := HP4.out _ hbw
      clear hb2 hbw
      go_wp2_with fail
      go_quiet (fail)
      go_wp2
      go_ret
      exact ⟨rfl, belowN HBW.out _⟩
end

end Go.Proofs.YtmlnpgbnbchbkaaDoor

