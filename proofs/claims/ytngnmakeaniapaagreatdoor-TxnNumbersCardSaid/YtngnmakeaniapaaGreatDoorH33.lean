/-
  What a law's own memory stays by, while a pager changes: whole numbers that lie there; append to slices of the law's own.
  pager: Keep.
  cobweblaw10.holds: the pages of a state are as they were.
  cobweblaw10.found: what is found behind a crash.
  What a disk has behind a crash, plain: a commit, ahead of the next one, and in it.
-/
import Derived.Test.YtngnmakeaniapaaGreatDoorH30
import Derived.Test.YtngnmakeaniapaaGreatDoorH32
import Derived.Test.YtngnmakeaniapaaGreatDoorH18
import Derived.BigQuiet
import Derived.Deep.RegionWith
set_option linter.unusedVariables false
set_option maxRecDepth 100000
namespace Go.Proofs.YtngnmakeaniapaaGreatDoor
open Go.RowKit

/-- The types of a pager's blocks. -/
def grTypes : List TypeId := [140, 56, 102, 5, 198, 183]

theorem GrIs.types {w w' : World} {B P pd lm fm pl um wm la : Nat} {v : Value} {X : PG} {K : Nat → Obj → Bool} (h : GrIs w B P pd lm fm pl um wm la v X) (hk : Keeps K w w') (h1 : ∀ t ∈ grTypes, ∀ i c f, K i (.cells c t f) = false) (h2 : ∀ i es c, K i (.map es c) = false) : GrIs w' B P pd lm fm pl um wm la v X :=
  ⟨hk.stay h.blk (h1 _ (by simp [grTypes]) _ _ _), h.disk.keeps hk (fun _ _ _ => h1 _ (by simp [grTypes]) _ _ _) (fun _ _ _ => h1 _ (by simp [grTypes]) _ _ _) (fun _ _ _ => h1 _ (by simp [grTypes]) _ _ _) (fun _ _ => h2 _ _ _) (fun _ _ => h2 _ _ _), h.list.keeps hk (fun _ => h1 _ (by simp [grTypes]) _ _ _) (fun _ _ => h2 _ _ _) (fun _ _ => h2 _ _ _), h.mla.keeps hk (fun _ _ => h2 _ _ _), pins_keeps h.pins hk (fun _ _ _ => h1 _ (by simp [grTypes]) _ _ _), h.bP, h.bu, h.bw, h.ba, h.nlm, h.nfm, h.nla, h.g0, h.mP⟩
theorem isTy_off {T : TypeId} (hT : T ∉ grTypes) : ∀ t ∈ grTypes, ∀ i c f, isTy T i (.cells c t f) = false := fun t ht i c f => by
  show (t == T) = false
  rw [beq_eq_false_iff_ne]
  rintro rfl
  exact hT ht

/-- What lies below a block stays, but for a pager's. -/
structure Stay (B : Nat) (w w' : World) : Prop where
  size : w.heap.size ≤ w'.heap.size
  stay : ∀ {i : Nat} {o : Obj}, i < B → w.heap[i]? = some o → ofGr i o = false → w'.heap[i]? = some o
theorem Stay.refl (B : Nat) (w : World) : Stay B w w := ⟨Nat.le_refl _, fun _ h _ => h⟩
theorem Stay.trans {B : Nat} {w w1 w2 : World} (h : Stay B w w1) (h' : Stay B w1 w2) : Stay B w w2 := ⟨Nat.le_trans h.size h'.size, fun hi h1 h2 => h'.stay hi (h.stay hi h1 h2) h2⟩
theorem Stay.keeps {B : Nat} {w w' : World} (h : Keeps ofGr w w') : Stay B w w' := ⟨h.size, fun _ h1 h2 => h.stay h1 h2⟩
theorem Stay.below {B : Nat} {w w' : World} (h : Below w.heap.size w w') : Stay B w w' := Stay.keeps (Keeps.below h)
theorem Stay.grown {B : Nat} {w w' : World} {row : Option Nat} (h : w.grownBy w' row) (hr : ∀ b, row = some b → B ≤ b) : Stay B w w' :=
  ⟨h.size, fun {i o} hi h1 _ => by
    rw [h.block i (Array.getElem?_eq_some_iff.1 h1).1 (fun e => by have := hr i e.symm; omega)]
    exact h1⟩

/-- Whole numbers that lie in blocks below B. -/
def Lie (B : Nat) (w : World) (v : Value) (l : List Int) : Prop := ∃ q c, v = .slice q l.length c ∧ l.length ≤ c ∧ c ≤ 9223372036854775807 ∧ ∀ i x, l[i]? = some x → ∃ b o cs fr, q = some ⟨b, o, none⟩ ∧ b < B ∧ w.heap[b]? = some (.cells cs 3 fr) ∧ cs[o + i]? = some (.int .i64 x)
theorem ofGr_int (i : Nat) (c : Array Value) (f : Nat × Nat) : ofGr i (.cells c 3 f) = false := by
  show ((3 : TypeId) == 56 || (3 : TypeId) == 102 || (3 : TypeId) == 140 || (3 : TypeId) == 183) = false
  decide
theorem Lie.stay {B : Nat} {w w' : World} {v : Value} {l : List Int} (h : Lie B w v l) (hs : Stay B w w') : Lie B w' v l := by
  obtain ⟨q, c, hv, hc, hm, h1⟩ := h
  refine ⟨q, c, hv, hc, hm, fun i x hx => ?_⟩
  obtain ⟨b, o, cs, fr, h2, h3, h4, h5⟩ := h1 i x hx
  exact ⟨b, o, cs, fr, h2, h3, hs.stay h3 h4 (ofGr_int _ _ _), h5⟩
theorem Lie.mono {B B' : Nat} {w : World} {v : Value} {l : List Int} (h : Lie B w v l) (hB : B ≤ B') : Lie B' w v l := by
  obtain ⟨q, c, hv, hc, hm, h1⟩ := h
  refine ⟨q, c, hv, hc, hm, fun i x hx => ?_⟩
  obtain ⟨b, o, cs, fr, h2, h3, h4⟩ := h1 i x hx
  exact ⟨b, o, cs, fr, h2, by omega, h4⟩
theorem Lie.at {B : Nat} {w : World} {q : Option Addr} {n c : Nat} {l : List Int} (h : Lie B w (.slice q n c) l) {i : Nat} {x : Int} (hx : l[i]? = some x) : ∃ b o, q = some ⟨b, o, none⟩ ∧ w.cell? ⟨b, o + i, none⟩ = some (.int .i64 x) := by
  obtain ⟨q', c', hv, _, _, h1⟩ := h
  cases hv
  obtain ⟨b, o, cs, fr, h2, _, h4, h5⟩ := h1 i x hx
  exact ⟨b, o, h2, by rw [Joins.cell_of_block h4]; exact h5⟩
theorem Lie.form {B : Nat} {w : World} {v : Value} {l : List Int} (h : Lie B w v l) : ∃ q n c, v = .slice q n c ∧ n = l.length ∧ n ≤ c ∧ c ≤ 9223372036854775807 := by
  obtain ⟨q, c, hv, hc, hm, _⟩ := h
  exact ⟨q, _, c, hv, rfl, hc, hm⟩
theorem OwnI.lie {w : World} {B : Nat} {v : Value} {l : List Int} (h : OwnI w B v l) : Lie w.heap.size w v l := by
  rcases h.2 with ⟨rfl, h0⟩ | ⟨g, cap, cur, rfl, hb, hg, hnc, hcm, hcs, htake⟩
  · obtain rfl := List.eq_nil_of_length_eq_zero h0
    exact ⟨none, 0, rfl, Nat.le_refl _, by omega, fun i x hx => by simp at hx⟩
  · refine ⟨some ⟨g, 0, none⟩, cap, rfl, hnc, by unfold maxLen at hcm; omega, fun i x hx => ⟨g, 0, cur, (0, 0), rfl, (Array.getElem?_eq_some_iff.1 hg).1, hg, ?_⟩⟩
    have h1 := h.cells (g := g) rfl i (.int .i64 x) (by simp [i64s, hx])
    rw [Addr.add_lit, Nat.zero_add, Joins.cell_of_block hg] at h1
    rw [Nat.zero_add]
    exact h1
theorem OwnI.keepsG {w w' : World} {B : Nat} {v : Value} {l : List Int} (h : OwnI w B v l) (hk : Keeps ofGr w w') : OwnI w' B v l := by
  refine ⟨h.1, ?_⟩
  rcases h.2 with h0 | ⟨g, cap, cur, hv, h1, hg, h2⟩
  · exact .inl h0
  · exact .inr ⟨g, cap, cur, hv, h1, hk.stay hg (ofGr_int _ _ _), h2⟩
theorem OwnI.block {w : World} {B : Nat} {v : Value} {l : List Int} (h : OwnI w B v l) {b : Nat} (hb : v.ownBlock = some b) : B ≤ b ∧ ∃ cur, w.heap[b]? = some (.cells cur 3 (0, 0)) := by
  rcases h.2 with ⟨rfl, _⟩ | ⟨g, cap, cur, rfl, h1, h2, _⟩
  · cases hb
  · cases hb
    exact ⟨h1, _, h2⟩
theorem int_off : 3 ∉ grTypes := by decide
/-- An int was appended. -/
theorem AbM.app {w wr w' : World} {P p B : Nat} {X : PG} (h : AbM w wr P p X) {v : Value} {l : List Int} (ho : OwnI wr B v l) (hB : w.heap.size ≤ B) (hg : wr.grownBy w' v.ownBlock) : AbM w w' P p X := by
  obtain ⟨lm, fm, pl, um, wm, la, vv, hI⟩ := h.at_
  have hk : Keeps (isTy 3) wr w' := Keeps.grown hg fun b o hb ho' => by
    obtain ⟨_, cur, hc⟩ := ho.block hb
    rw [hc] at ho'
    cases ho'
    simp [isTy]
  exact ⟨⟨lm, fm, pl, um, wm, la, vv, hI.types hk (isTy_off int_off) (fun _ _ _ => rfl)⟩, h.below.grown hg h.below.size fun k hk' => by have := (ho.block hk').1; omega⟩

/-- A step, with what stays. -/
structure AbS (w wr w' : World) (P p : Nat) (X : PG) : Prop where
  m : AbM w w' P p X
  k : Keeps ofGr wr w'
theorem AbM.stepS {w wr w' : World} {P p : Nat} {X Y : PG} (h : AbM w wr P p X) (hs : GrStep wr w' w.heap.size P p Y) : AbS w wr w' P p Y := ⟨h.step hs, hs.keeps⟩

theorem PnX.fit {X : PG} {g m a l b : Nat} {ops : Int} {ps : List (Int × Int)} (h : PnX X g m a l b ops ps) (ho : ops ≤ 10000) : Fit X.S 999999990 :=
  ⟨by rw [h.c.left]; decide, by rw [h.c.left]; decide, by have := h.c.ops; omega⟩

theorem pn_lay {w wr : World} (hT : Tab w) {P p : Nat} {X : PG} (h : AbM w wr P p X) {g m a l b : Nat} {ops : Int} {ps : List (Int × Int)} (ha : PnX X g m a l b ops ps) (ho : ops ≤ 10000) (hg : g ≤ 1000) {q : Option Addr} {n c : Nat} {bs : List UInt8} (hl : GBytes wr w.heap.size q bs) (hn : n = bs.length) (hnc : n ≤ c) (hc : c ≤ 9223372036854775807) (h493 : n ≤ 493) :
    Calls Tryz.prog 242 #[.pointer (some ⟨P, 0, none⟩), .int .u8 5, .slice q n c] wr fun e w' => e = .returned (.tuple #[.int .i64 (b : Int), .int .i64 0]) ∧ AbS w wr w' P p (X.lay (b : Int) (pageB 5 b (X.g + 1) bs)) := by
  obtain ⟨lm, fm, pl, um, wm, la, v, hI⟩ := h.at_
  have hh := grLay_ok (k := b) (hT.below hT.lt h.below) hT.lt hI ha.c.fl ha.least (by rw [ha.c.left]; decide) (by rw [ha.c.left]; decide) (by rw [ha.c.left]; decide) (by have := ha.c.ops; omega) (by rw [ha.c.hi, ha.c.size]) (by rw [ha.c.g]; omega) 5 hl hn hnc hc h493
  exact hh.mono fun e w' ⟨he, hs⟩ => ⟨he, h.stepS hs⟩
theorem pn_drop {w wr : World} {P p : Nat} {X : PG} (h : AbM w wr P p X) {g m a l b : Nat} {ops : Int} {ps : List (Int × Int)} (ha : PnX X g m a l b ops ps) (hal : a < l) (hlb : l < b) (hg : 3 ≤ g) :
    Calls Tryz.prog 232 #[.pointer (some ⟨P, 0, none⟩), .int .i64 (a : Int)] wr fun e w' => e = .returned (.int .i64 0) ∧ AbS w wr w' P p (X.drop (a : Int)) := by
  obtain ⟨lm, fm, pl, um, wm, la, v, hI⟩ := h.at_
  have hh := grDrop_any hI (ha.laid (a : Int))
  rw [(ha.drop hal hlb hg).2] at hh
  exact hh.mono fun e w' ⟨he, hs⟩ => ⟨he, h.stepS hs⟩
theorem pn_commit {w wr : World} (hT : Tab w) {P p : Nat} {X : PG} (h : AbM w wr P p X) {g m a l b : Nat} {ops : Int} {ps : List (Int × Int)} (ha : PnX X g m a l b ops ps) (ho : ops ≤ 10000) (hg : g ≤ 1000) {r : Nat} (h1 : a ≤ r) (h2 : r < b) :
    Calls Tryz.prog 67 #[.pointer (some ⟨P, 0, none⟩), .int .i64 (r : Int), .int .i64 1, .int .i64 1] wr fun e w' => e = .returned (.int .i64 0) ∧ AbS w wr w' P p (X.commit r 1 1) := by
  obtain ⟨lm, fm, pl, um, wm, la, v, hI⟩ := h.at_
  exact (grCommit_ok (hT.below hT.lt h.below) hT.lt hI ha.c.fl (ha.fit ho) (by rw [ha.c.size]; decide) ha.c.left (ha.follows h1 h2 hg)).mono fun e w' ⟨he, hs⟩ => ⟨he, h.stepS hs⟩
theorem pn_pin {w wr : World} {P p : Nat} {X : PG} (h : AbM w wr P p X) {m a l b : Nat} {ops : Int} (ha : PnX X 3 m a l b ops []) :
    Calls Tryz.prog 66 #[.pointer (some ⟨P, 0, none⟩)] wr fun e w' => e = .returned (.tuple #[.int .i64 3, .int .i64 0]) ∧ AbS w wr w' P p { X with pins := [(3, 1)] } := by
  obtain ⟨lm, fm, pl, um, wm, la, v, hI⟩ := h.at_
  have hh := grPin_new hI (by rw [ha.c.ps]; rfl) (by rw [ha.c.ps]; decide)
  have hg3 : ((X.g : Nat) : Int) = 3 := by rw [ha.c.g]; rfl
  rw [ha.c.ps, hg3] at hh
  exact hh.mono fun e w' ⟨he, hs⟩ => ⟨he, h.stepS hs⟩
theorem pn_read {w wr : World} (hT : Tab w) {P p : Nat} {X : PG} (h : AbM w wr P p X) {g m a l b : Nat} {ops : Int} {ps : List (Int × Int)} (ha : PnX X g m a l b ops ps) {j : Nat} (hj : j < m) (hb : 2 + j < b) :
    Calls Tryz.prog 121 #[.pointer (some ⟨P, 0, none⟩), .int .i64 ((2 + j : Nat) : Int)] wr (PgReadPost wr 5 [UInt8.ofNat j]) := by
  obtain ⟨lm, fm, pl, um, wm, la, v, hI⟩ := h.at_
  exact grRead (k := 2 + j) (kind := 5) (gen := 3) (l := [UInt8.ofNat j]) (hT.below hT.lt h.below) hI (ha.st_any (by omega) (by omega)) (by rw [ha.c.size]; have := ha.al; omega) (ha.c.rd j hj) (by simp) (by omega)
theorem pn_counts {w wr : World} {P p : Nat} {X : PG} (h : AbM w wr P p X) {g m a l b : Nat} {ops : Int} {ps : List (Int × Int)} (ha : PnX X g m a l b ops ps) :
    Calls Tryz.prog 51 #[.pointer (some ⟨P, 0, none⟩)] wr fun e w' => e = .returned (.int .i64 ((a - 2 : Nat) : Int)) ∧ wr = w' := by
  obtain ⟨lm, fm, pl, um, wm, la, v, hI⟩ := h.at_
  have r := grWaiting hI
  rw [(upFrom_used ha hI.list.ok).2] at r
  exact r
/-- Unpin of the one pin, and what is told behind it. -/
structure PnEnd (w wr : World) (P p : Nat) (Y : PG) (n : Nat) : Prop where
  m : AbM w wr P p Y
  un : Calls Tryz.prog 70 #[.pointer (some ⟨P, 0, none⟩), .int .i64 3] wr fun e w' => e = .returned (.int .i64 13) ∧ Below wr.heap.size wr w'
  wt : ∀ w', Below wr.heap.size wr w' → Calls Tryz.prog 51 #[.pointer (some ⟨P, 0, none⟩)] w' fun e w2 => e = .returned (.int .i64 0) ∧ w' = w2
  us : ∀ w', Below wr.heap.size wr w' → Calls Tryz.prog 50 #[.pointer (some ⟨P, 0, none⟩)] w' fun e w2 => e = .returned (.int .i64 (n : Int)) ∧ w' = w2
  fr : ∀ w', Below wr.heap.size wr w' → Calls Tryz.prog 52 #[.pointer (some ⟨P, 0, none⟩)] w' fun e w2 => e = .returned (.int .i64 (98 - (n : Int))) ∧ Below w'.heap.size w' w2
theorem pn_unpin {w wr : World} {P p : Nat} {X : PG} (h : AbM w wr P p X) {g m a b : Nat} {ops : Int} (ha : PnX X g m a b b ops [(3, 1)]) :
    Calls Tryz.prog 70 #[.pointer (some ⟨P, 0, none⟩), .int .i64 3] wr fun e w' => e = .returned (.int .i64 0) ∧ ∃ Y, PnEnd w w' P p Y (b - a) := by
  obtain ⟨lm, fm, pl, um, wm, la, v, hI⟩ := h.at_
  have hh := grUnpin_gone hI (gen := 3) (i := 0) (x := (3, 1)) (by rw [ha.c.ps]; rfl) (by rw [ha.c.ps]; rfl) rfl
  refine hh.mono fun e w' ⟨he, hs⟩ => ⟨he, ?_⟩
  rw [ha.c.ps] at hs
  have hM := h.step hs
  obtain ⟨lm, fm, pl, um, wm, la, v, hJ⟩ := hM.at_
  obtain ⟨u1, u2, u3⟩ := settle_free (X := { X with pins := [] }) ha.pins rfl (fun x w hw => (ha.w2 x w hw).2.2 rfl) hJ.list.ok
  refine ⟨_, hM, grUnpin_none hJ rfl, fun w2 hb => ?_, fun w2 hb => ?_, fun w2 hb => ?_⟩
  · have r := grWaiting (hJ.below hb)
    change Calls _ _ _ _ (fun e w3 => e = .returned (.int .i64 (({ X with pins := [] } : PG).settle.F.nWaits : Int)) ∧ w2 = w3) at r
    rw [u2] at r
    exact r
  · have r := grUsed (hJ.below hb)
    change Calls _ _ _ _ (fun e w3 => e = .returned (.int .i64 (({ X with pins := [] } : PG).settle.F.nUsed : Int)) ∧ w2 = w3) at r
    rw [u1] at r
    exact r
  · have r := grFree (hJ.below hb)
    change Calls _ _ _ _ (fun e w3 => e = .returned (.int .i64 ({ X with pins := [] } : PG).settle.F.nFree) ∧ Below w2.heap.size w2 w3) at r
    rw [u3] at r
    exact r

end Go.Proofs.YtngnmakeaniapaaGreatDoor

set_option linter.unusedVariables false
set_option maxRecDepth 100000
namespace Go.Proofs.YtngnmakeaniapaaGreatDoor
open Go.RowKit

/-- Whole numbers that stay while a pager changes. -/
def GKs (w : World) (B : Nat) (q : Option Addr) (l : List Int) : Prop := ∀ w', Below B w w' → Keeps ofGr w w' → Ks w' q l
theorem GKs.on {w w' : World} {B : Nat} {q : Option Addr} {l : List Int} (h : GKs w B q l) (h1 : Below B w w') (h2 : Keeps ofGr w w') : GKs w' B q l := fun w2 h3 h4 => h w2 (h1.trans h3) (h2.trans h4)
theorem GKs.nil (w : World) (B : Nat) (q : Option Addr) : GKs w B q [] := fun _ _ _ => Ks.nil _ _
theorem Lie.cell_ {B : Nat} {w : World} {b o n c : Nat} {l : List Int} (h : Lie B w (.slice (some ⟨b, o, none⟩) n c) l) {i : Nat} {x : Int} (hx : l[i]? = some x) : w.cell? ⟨b, o + i, none⟩ = some (.int .i64 x) := by
  obtain ⟨b', o', hq, hc⟩ := h.at hx
  cases hq
  exact hc
theorem Lie.gks {C B : Nat} {w : World} {q : Option Addr} {n c : Nat} {l : List Int} (h : Lie C w (.slice q n c) l) : GKs w B q l := fun w' _ hk hne => by
  have h' := h.stay (Stay.keeps hk)
  obtain ⟨x, hx⟩ : ∃ x, l[0]? = some x := by
    cases l with
    | nil => exact absurd rfl hne
    | cons x l => exact ⟨x, rfl⟩
  obtain ⟨b, o, hq, _⟩ := h'.at hx
  subst hq
  exact ⟨b, o, rfl, fun i x hx => h'.cell_ hx⟩

/-- These pages are taken. -/
def FL.takes (F : FL) (l : List Int) : FL := l.foldl FL.take F
theorem FL.takes_snoc (F : FL) (l : List Int) (k : Int) : F.takes (l ++ [k]) = (F.takes l).take k := by simp [FL.takes, List.foldl_append]
theorem FL.takes_used (F : FL) (l : List Int) (x : Int) : (F.takes l).used x = (F.used x || l.contains x) ∧ (F.takes l).waits x = F.waits x ∧ (F.takes l).lo = F.lo ∧ (F.takes l).hi = F.hi := by
  induction l generalizing F with
  | nil => simp [FL.takes]
  | cons y l ih =>
    obtain ⟨h1, h2, h3, h4⟩ := ih (F.take y)
    have e : F.takes (y :: l) = (F.take y).takes l := rfl
    rw [e, h1, h2, h3, h4]
    refine ⟨?_, rfl, rfl, rfl⟩
    simp only [FL.take, List.contains_cons]
    by_cases hx : x = y
    · simp [hx]
    · have hb : (x == y) = false := by simpa using hx
      simp [hx, hb]
theorem FL.takes_st {F : FL} {l : List Int} {k : Int} (h : F.st k = 1) (hk : k ∉ l) : (F.takes l).st k = 1 := by
  obtain ⟨h1, h2, h3, h4⟩ := FL.free_used h
  obtain ⟨u1, u2, u3, u4⟩ := F.takes_used l k
  have hh : (F.takes l).has k = true := FL.has_iff.2 (by rw [u3, u4]; exact ⟨h3, h4⟩)
  unfold FL.st
  rw [if_pos hh, u1, u2, h1, h2]
  simp [hk]

section
variable {w w' : World} {B P pd lm fm pl um wm la : Nat} {v : Value} {X : PG}

set_option maxHeartbeats 3200000 in
theorem grKeep (h : GrIs w B P pd lm fm pl um wm la v X) (hk : X.kept = false) (hl : X.laid = false) {q : Option Addr} {n c : Nat} {l : List Int} (hq : GKs w B q l) (hn : n = l.length) (hmax : n ≤ 9223372036854775807) (hnd : l.Nodup) (hfr : ∀ k ∈ l, X.F.st k = 1) :
    Calls Tryz.prog 47 #[.pointer (some ⟨P, 0, none⟩), .slice q n c] w fun e w' => e = .returned (.int .i64 0) ∧ GrStep w w' B P pd { X with kept := true, F := X.F.takes l } := by
  have HM := Lib.hid h.made
  have c8 := h.c8
  have c9 := h.c9
  rw [hk] at c8
  rw [hl] at c9
  have uf := h.soft
  have HQ := Lib.hid hq
  have HN := Lib.hid hn
  have HND := Lib.hid hnd
  have HFR := Lib.hid hfr
  have HBS := Lib.hid h.base
  have H0 : Hid (∀ w0, w0 = w.setCell ⟨P, 8, none⟩ (.bool true) → GrIs w0 B P pd lm fm pl um wm la v { X with kept := true } ∧ Below B w w0 ∧ Keeps (ofGrP P) w w0) := Lib.hid (by
    rintro w0 rfl
    obtain ⟨b1, g1⟩ := cell_set (i := 8) (v := .bool true) h.blk
    obtain ⟨q1, q2, q3⟩ := h.onOwn (Y := { X with kept := true }) (v' := v) (by simpa [grCells] using b1) g1 h.pins rfl rfl rfl h.g0
    exact ⟨q1, q2, q3.mono isPager_ofGrP⟩)
  clear h hq hn hnd hfr
  go_enter Tryz.func47, Tryz.ntmps47
  go_wp2_with fail
  refine HM.out.mono ?_; rintro e w1 ⟨rfl, rfl⟩
  have HG0 := Lib.hid (H0.out _ rfl)
  go_wp2
  obtain ⟨W0, hW0⟩ : ∃ W0, W0 = w.setCell ⟨P, 8, none⟩ (.bool true) := ⟨_, rfl⟩
  rw [← hW0] at HG0 ⊢
  clear hW0
  go_loopw [23] (fun i wr => ∃ j : Nat, i = .int .i64 j ∧ j ≤ n ∧ GrIs wr B P pd lm fm pl um wm la v { X with kept := true, F := X.F.takes (l.take j) } ∧ Below B w wr ∧ Keeps (ofGrP P) w wr) (fun i _ => n - (intOf i).toNat)
  case atStart => exact ⟨0, rfl, by omega, HG0.out.1, HG0.out.2.1, HG0.out.2.2⟩
  case round =>
    obtain ⟨j, rfl, hj, hI, hb, hkk⟩ := hrel
    have HI := Lib.hid hI
    have HB := Lib.hid hb
    have HK := Lib.hid hkk
    have c1 := hI.c1
    clear hI hb hkk
    by_cases hlt : j < n
    · have hjl : j < l.length := by have := HN.out; omega
      obtain ⟨x, hx⟩ : ∃ x, l[j]? = some x := ⟨_, List.getElem?_eq_getElem hjl⟩
      obtain ⟨b, o, rfl, hc⟩ := (HQ.out wr HB.out (HK.out.mono ofGrP_ofGr)).at hx
      have hxm : x ∈ l := List.mem_of_getElem? hx
      have hxn : x ∉ l.take j := by
        intro hm
        have hd := HND.out
        rw [← List.take_append_drop j l] at hd
        obtain ⟨_, _, hd⟩ := List.nodup_append.1 hd
        exact hd x hm x (List.mem_of_getElem? (i := 0) (by rw [List.getElem?_drop]; exact hx)) rfl
      have hus := frUse_yes HI.out.list (k := x) (FL.takes_st (HFR.out x hxm) hxn)
      have et : (X.F.takes (l.take j)).take x = X.F.takes (l.take (j + 1)) := by rw [List.take_add_one, hx, Option.toList_some, FL.takes_snoc]
      change Calls _ _ _ _ (FrStep wr pl um wm ((X.F.takes (l.take j)).take x) (.int .i64 0)) at hus
      rw [et] at hus
      have HUS := Lib.hid hus
      have hj0 : (0 : Int) ≤ (j : Int) := by omega
      have hj1 : (j : Int) < (n : Int) := by omega
      clear hx hxm hxn hus et
      go_wp2_with fail
      refine HUS.out.mono ?_; rintro e w2 ⟨rfl, hfr, hon⟩
      obtain ⟨q1, q2, q3⟩ := HI.out.onList hfr hon
      have Q1 := Lib.hid q1
      have Q2 := Lib.hid (HB.out.trans q2)
      have Q3 := Lib.hid (HK.out.trans (q3.mono (isMaps_ofGrP HI.out.mUW)))
      clear hfr hon q1 q2 q3 hc c1
      go_wp2
      go_roundw
      case rel => exact ⟨j + 1, by go_num, by omega, Q1.out, Q2.out, Q3.out⟩
      case measure => simp [intOf]; omega
    · have hjn : j = n := by omega
      have HE : Hid (l.take j = l) := Lib.hid (List.take_of_length_le (by have := HN.out; omega))
      subst hjn
      go_wp2
      go_ret
      have h := HI.out
      rw [HE.out] at h
      exact ⟨rfl, ⟨lm, fm, pl, um, wm, la, v, h⟩, HB.out, HK.out⟩
end

end Go.Proofs.YtngnmakeaniapaaGreatDoor

set_option linter.unusedVariables false
set_option maxRecDepth 100000
namespace Go.Proofs.YtngnmakeaniapaaGreatDoor
open Go.RowKit

theorem ofGr_str (i : Nat) (c : Array Value) (f : Nat × Nat) : ofGr i (.cells c 9 f) = false := by
  show ((9 : TypeId) == 56 || (9 : TypeId) == 102 || (9 : TypeId) == 140 || (9 : TypeId) == 183) = false
  decide

/-- Strings that lie in blocks below B. -/
def LieS (B : Nat) (w : World) (v : Value) (l : List ByteArray) : Prop := ∃ q c, v = .slice q l.length c ∧ l.length ≤ c ∧ c ≤ 9223372036854775807 ∧ ∀ i x, l[i]? = some x → ∃ b o cs fr, q = some ⟨b, o, none⟩ ∧ b < B ∧ w.heap[b]? = some (.cells cs 9 fr) ∧ cs[o + i]? = some (.string x)
theorem LieS.stay {B : Nat} {w w' : World} {v : Value} {l : List ByteArray} (h : LieS B w v l) (hs : Stay B w w') : LieS B w' v l := by
  obtain ⟨q, c, hv, hc, hm, h1⟩ := h
  refine ⟨q, c, hv, hc, hm, fun i x hx => ?_⟩
  obtain ⟨b, o, cs, fr, h2, h3, h4, h5⟩ := h1 i x hx
  exact ⟨b, o, cs, fr, h2, h3, hs.stay h3 h4 (ofGr_str _ _ _), h5⟩
theorem LieS.mono {B B' : Nat} {w : World} {v : Value} {l : List ByteArray} (h : LieS B w v l) (hB : B ≤ B') : LieS B' w v l := by
  obtain ⟨q, c, hv, hc, hm, h1⟩ := h
  refine ⟨q, c, hv, hc, hm, fun i x hx => ?_⟩
  obtain ⟨b, o, cs, fr, h2, h3, h4⟩ := h1 i x hx
  exact ⟨b, o, cs, fr, h2, by omega, h4⟩
theorem LieS.form {B : Nat} {w : World} {v : Value} {l : List ByteArray} (h : LieS B w v l) : ∃ q n c, v = .slice q n c ∧ n = l.length ∧ n ≤ c ∧ c ≤ 9223372036854775807 := by
  obtain ⟨q, c, hv, hc, hm, _⟩ := h
  exact ⟨q, _, c, hv, rfl, hc, hm⟩
theorem LieS.at {B : Nat} {w : World} {q : Option Addr} {n c : Nat} {l : List ByteArray} (h : LieS B w (.slice q n c) l) {i : Nat} {x : ByteArray} (hx : l[i]? = some x) : ∃ b o, q = some ⟨b, o, none⟩ ∧ w.cell? ⟨b, o + i, none⟩ = some (.string x) := by
  obtain ⟨q', c', hv, _, _, h1⟩ := h
  cases hv
  obtain ⟨b, o, cs, fr, h2, _, h4, h5⟩ := h1 i x hx
  exact ⟨b, o, h2, by rw [Joins.cell_of_block h4]; exact h5⟩

/-- A page, and what is in it. -/
structure Page where
  no : Nat
  b : List UInt8

/-- The pages of a state are there: in use or waiting, and as they were. -/
def PagesIn (X : PG) (ps : List Page) : Prop := ∀ x ∈ ps, (x.no : Int) < X.S.size ∧ x.b.length ≤ 493 ∧ ∃ gen, gen ≤ 1152921504606846976 ∧ X.S.read x.no = pageB 5 x.no gen x.b ∧ X.F.st x.no ≠ 0
def pnos (ps : List Page) : List Int := ps.map fun x => (x.no : Int)
def pstr (ps : List Page) : List ByteArray := ps.map fun x => ⟨x.b.toArray⟩

end Go.Proofs.YtngnmakeaniapaaGreatDoor

set_option linter.unusedVariables false
set_option maxRecDepth 100000
namespace Go.Proofs.YtngnmakeaniapaaGreatDoor
open Go.RowKit

/-- A disk that has a Meta, and these pages. -/
structure FoundOn (C : SD) (g r n d : Nat) (ps : List Page) : Prop where
  left : C.left = -1
  ops : C.ops = 0
  size : 4 ≤ C.size ∧ C.size ≤ 4096
  right : MRight g r n d
  rs : (r : Int) < C.size
  m1 : C.read ((g % 2 : Nat) : Int) = mPage g r n d
  m2 : mG (C.read (((g + 1) % 2 : Nat) : Int)) (((g + 1) % 2 : Nat) : Int) < g
  nd : (pnos ps).Nodup
  pg : ∀ x ∈ ps, 2 ≤ x.no ∧ (x.no : Int) < C.size ∧ x.b.length ≤ 493 ∧ ∃ gen, gen ≤ 1152921504606846976 ∧ C.read x.no = pageB 5 x.no gen x.b

/-- The pager behind Keep. -/
noncomputable def foundX (C : SD) (g r n d : Nat) (ps : List Page) : PG := { PG.new (openS C g) g r n d with kept := true, F := (PG.new (openS C g) g r n d).F.takes (pnos ps) }
theorem mem_pnos {ps : List Page} {k : Int} : k ∈ pnos ps ↔ ∃ x ∈ ps, (x.no : Int) = k := by simp [pnos]
theorem FoundOn.free {C : SD} {g r n d : Nat} {ps : List Page} (h : FoundOn C g r n d ps) : ∀ k ∈ pnos ps, (PG.new (openS C g) g r n d).F.st k = 1 := by
  intro k hk
  obtain ⟨x, hx, rfl⟩ := mem_pnos.1 hk
  obtain ⟨h1, h2, _⟩ := h.pg x hx
  show (FL.new 2 (openS C g).size).st _ = 1
  have hh : (FL.new 2 (openS C g).size).has (x.no : Int) = true := FL.has_iff.2 ⟨show (2 : Int) ≤ _ by omega, show (x.no : Int) < (openS C g).size by rw [openS_size]; exact h2⟩
  unfold FL.st
  rw [if_pos hh]
  rfl
theorem FoundOn.pages {C : SD} {g r n d : Nat} {ps : List Page} (h : FoundOn C g r n d ps) : PagesIn (foundX C g r n d ps) ps := by
  intro x hx
  obtain ⟨h1, h2, h3, gen, h4, h5⟩ := h.pg x hx
  have hm : (x.no : Int) ∈ pnos ps := mem_pnos.2 ⟨x, hx, rfl⟩
  refine ⟨by show (x.no : Int) < (openS C g).size; rw [openS_size]; exact h2, h3, gen, h4, ?_, ?_⟩
  · show (openS C g).read _ = _
    rw [openS_read C g (by omega)]
    exact h5
  · have hu := (FL.takes_used (PG.new (openS C g) g r n d).F (pnos ps) (x.no : Int))
    have : (foundX C g r n d ps).F.st (x.no : Int) = 2 := FL.st_two.2 ⟨FL.has_iff.2 ?_, ?_⟩
    · rw [this]; decide
    · show ((PG.new (openS C g) g r n d).F.takes (pnos ps)).lo ≤ _ ∧ _ < ((PG.new (openS C g) g r n d).F.takes (pnos ps)).hi
      rw [hu.2.2.1, hu.2.2.2]
      exact ⟨show (2 : Int) ≤ _ by omega, show (x.no : Int) < (openS C g).size by rw [openS_size]; exact h2⟩
    · show ((PG.new (openS C g) g r n d).F.takes (pnos ps)).used _ = true
      rw [hu.1]
      simp [hm]
theorem FoundOn.used {C : SD} {g r n d : Nat} {ps : List Page} (h : FoundOn C g r n d ps) (hF : (foundX C g r n d ps).F.Ok) : (foundX C g r n d ps).F.nUsed = ps.length := by
  rw [hF.used_len h.nd fun k => ?_]
  · simp [pnos]
  · have hu := (FL.takes_used (PG.new (openS C g) g r n d).F (pnos ps) k).1
    show _ ↔ ((PG.new (openS C g) g r n d).F.takes (pnos ps)).used k = true
    rw [hu]
    show _ ↔ (false || (pnos ps).contains k) = true
    simp

end Go.Proofs.YtngnmakeaniapaaGreatDoor

set_option linter.unusedVariables false
set_option maxRecDepth 100000
namespace Go.Proofs.YtngnmakeaniapaaGreatDoor
open Go.RowKit

theorem kept_other {f : Int → List UInt8} {k : Int} : ∀ l : List (Wr × Int), (∀ p ∈ l, p.1.k ≠ k) → kept f l k = f k := by
  have : ∀ l : List (Wr × Int), (∀ p ∈ l, p.1.k ≠ k) → kept f l.reverse k = f k := by
    intro l
    induction l with
    | nil => intro _; rfl
    | cons x l ih =>
      intro h
      rw [List.reverse_cons, kept_snoc]
      unfold keepOne
      split
      · exact ih fun y hy => h y (by simp [hy])
      · unfold putAt
        rw [if_neg (fun e => h x (by simp) e.symm)]
        exact ih fun y hy => h y (by simp [hy])
  intro l h
  have h' := this l.reverse (fun p hp => h p (by simpa using hp))
  rwa [List.reverse_reverse] at h'

theorem crash_read (S : SD) (keep : List Int) (k : Int) : (S.crash keep).read k = kept S.lasts (S.waits.zip keep) k := rfl
theorem crash_other {S : SD} {keep : List Int} {k : Int} (h : ∀ x ∈ S.waits, x.k ≠ k) : (S.crash keep).read k = S.lasts k := by
  rw [crash_read]
  exact kept_other _ fun p hp => h p.1 (List.of_mem_zip (show (p.1, p.2) ∈ _ from hp)).1

/-- What lasts: a commit's Meta, an elder one beside it, its pages; what waits is none of these. -/
structure DInv (S : SD) (g r n d : Nat) (done : List Page) : Prop where
  ok : S.Ok
  size : 4 ≤ S.size
  right : MRight g r n d
  rs : (r : Int) < S.size
  m1 : S.lasts ((g % 2 : Nat) : Int) = mPage g r n d
  m2 : ∃ g' r' n' d' : Nat, MRight g' r' n' d' ∧ g = g' + 1 ∧ S.lasts ((g' % 2 : Nat) : Int) = mPage g' r' n' d'
  ws : ∀ x ∈ S.waits, 2 ≤ x.k ∧ x.k ∉ pnos done
  nd : (pnos done).Nodup
  pg : ∀ x ∈ done, 2 ≤ x.no ∧ (x.no : Int) < S.size ∧ x.b.length ≤ 493 ∧ ∃ gen, gen ≤ 1152921504606846976 ∧ S.lasts x.no = pageB 5 x.no gen x.b

/-- Behind a crash ahead of the next commit. -/
theorem DInv.found {S : SD} {g r n d : Nat} {done : List Page} (h : DInv S g r n d done) (keep : List Int) : FoundOn (S.crash keep) g r n d done := by
  obtain ⟨g', r', n', d', q1, q2, q3⟩ := h.m2
  have hno : (((g + 1) % 2 : Nat) : Int) = ((g' % 2 : Nat) : Int) := by omega
  refine ⟨rfl, rfl, ⟨h.size, h.ok.s2⟩, h.right, h.rs, ?_, ?_, h.nd, fun x hx => ?_⟩
  · rw [crash_other fun x hx => by have := (h.ws x hx).1; omega]
    exact h.m1
  · rw [crash_other fun x hx => by have := (h.ws x hx).1; omega, hno, q3]
    obtain ⟨_, e, _⟩ := page_is q1 (no := ((g' % 2 : Nat) : Int)) rfl
    rw [e]
    omega
  · obtain ⟨a1, a2, a3, gen, a4, a5⟩ := h.pg x hx
    refine ⟨a1, a2, a3, gen, a4, ?_⟩
    rw [crash_other fun y hy e => (h.ws y hy).2 (by rw [e]; exact mem_pnos.2 ⟨x, hx, rfl⟩)]
    exact a5

theorem flush_other {S : SD} {k : Int} (h : ∀ x ∈ S.waits, x.k ≠ k) : S.flush.lasts k = S.lasts k := by
  show flushed S.lasts S.waits k = _
  rw [read_flush, found_none h]
  rfl
theorem flush_lasts (S : SD) (k : Int) : S.flush.lasts k = S.read k := read_flush _ _ _

theorem SD.Ok.flush' {S : SD} (h : S.Ok) : S.flush.Ok := by
  refine ⟨h.s1, h.s2, fun k => ?_, by simp [SD.flush], ?_, ?_⟩
  · rw [flush_lasts]; exact h.read_len k
  · show ((([] : List Wr).length : Nat) : Int) ≤ S.ops + 1
    have := h.o1
    simp
    omega
  · show 0 ≤ S.ops + 1
    have := h.o1
    omega
theorem SD.Ok.write' {S : SD} (h : S.Ok) {k : Int} {b : List UInt8} (hk : 0 ≤ k ∧ k < S.size) (hb : b.length ≤ 512) : (S.write k b).Ok := by
  refine ⟨h.s1, h.s2, h.l, fun x hx => ?_, ?_, ?_⟩
  · rcases List.mem_append.1 hx with hx | hx
    · exact h.w x hx
    · obtain rfl := List.mem_singleton.1 hx
      exact ⟨pad_length hb, hk⟩
  · show ((S.waits ++ [_]).length : Int) ≤ S.ops + 1
    have := h.n
    rw [List.length_append]
    simp
    omega
  · show 0 ≤ S.ops + 1
    have := h.o1
    omega

/-- .. of a flush of what waited. -/
theorem DInv.flush {S : SD} {g r n d : Nat} {done : List Page} (h : DInv S g r n d done) : DInv S.flush g r n d done := by
  obtain ⟨g', r', n', d', q1, q2, q3⟩ := h.m2
  have hw : ∀ k : Int, k < 2 → S.flush.lasts k = S.lasts k := fun k hk => flush_other fun x hx => by have := (h.ws x hx).1; omega
  refine ⟨h.ok.flush', h.size, h.right, h.rs, by rw [hw _ (by omega)]; exact h.m1, ⟨g', r', n', d', q1, q2, by rw [hw _ (by omega)]; exact q3⟩, by simp [SD.flush], h.nd, fun x hx => ?_⟩
  obtain ⟨a1, a2, a3, gen, a4, a5⟩ := h.pg x hx
  refine ⟨a1, a2, a3, gen, a4, ?_⟩
  rw [flush_other fun y hy e => (h.ws y hy).2 (by rw [e]; exact mem_pnos.2 ⟨x, hx, rfl⟩)]
  exact a5

/-- .. of a page that is none of its. -/
theorem DInv.write {S : SD} {g r n d : Nat} {done : List Page} (h : DInv S g r n d done) {k : Nat} (hk : 2 ≤ k ∧ (k : Int) < S.size) (hn : (k : Int) ∉ pnos done) {b : List UInt8} (hb : b.length ≤ 512) : DInv (S.write k b) g r n d done := by
  refine ⟨h.ok.write' (by omega) hb, h.size, h.right, h.rs, h.m1, h.m2, fun x hx => ?_, h.nd, h.pg⟩
  rcases List.mem_append.1 hx with hx | hx
  · exact h.ws x hx
  · obtain rfl := List.mem_singleton.1 hx
    exact ⟨by show (2 : Int) ≤ (k : Int); omega, hn⟩

/-- Behind the next commit: all that Read tells lasts. -/
theorem DInv.commit {S : SD} {g r n d r2 n2 d2 : Nat} {done now : List Page} (h : DInv S g r n d done) (hr : MRight ((g + 1 : Nat) : Int) r2 n2 d2) (hrs : (r2 : Int) < S.size) (hnd : (pnos now).Nodup)
    (hpg : ∀ x ∈ now, 2 ≤ x.no ∧ (x.no : Int) < S.size ∧ x.b.length ≤ 493 ∧ ∃ gen, gen ≤ 1152921504606846976 ∧ S.read x.no = pageB 5 x.no gen x.b) :
    DInv ((S.flush.write (((g + 1) % 2 : Nat) : Int) (mPage (g + 1) r2 n2 d2)).flush) (g + 1) r2 n2 d2 now := by
  have hl : ∀ k, ((S.flush.write (((g + 1) % 2 : Nat) : Int) (mPage (g + 1) r2 n2 d2)).flush).lasts k = if k = (((g + 1) % 2 : Nat) : Int) then mPage (g + 1) r2 n2 d2 else S.read k := fun k => by
    rw [flush_lasts, SD.write_read, mPage_pad, SD.flush_read]
  refine ⟨((h.ok.flush').write' (by show (0 : Int) ≤ _ ∧ _ < S.size; have := h.size; omega) (by rw [mPage_length]; omega)).flush', h.size, hr, hrs, by rw [hl, if_pos rfl], ⟨g, r, n, d, h.right, rfl, ?_⟩, by simp [SD.flush], hnd, fun x hx => ?_⟩
  · rw [hl, if_neg (by omega), ← flush_lasts, flush_other fun x hx => by have := (h.ws x hx).1; omega]
    exact h.m1
  · obtain ⟨a1, a2, a3, gen, a4, a5⟩ := hpg x hx
    refine ⟨a1, a2, a3, gen, a4, ?_⟩
    rw [hl, if_neg (by omega)]
    exact a5

/-- A crash in the last flush of a commit: that one's, or the elder one's. -/
theorem DInv.torn {S : SD} {g r n d r2 n2 d2 : Nat} {done now : List Page} (h : DInv S g r n d done) (hr : MRight ((g + 1 : Nat) : Int) r2 n2 d2) (hrs : (r2 : Int) < S.size) (hnd : (pnos now).Nodup)
    (hpg : ∀ x ∈ now, 2 ≤ x.no ∧ (x.no : Int) < S.size ∧ x.b.length ≤ 493 ∧ ∃ gen, gen ≤ 1152921504606846976 ∧ S.read x.no = pageB 5 x.no gen x.b) (keep : List Int) :
    FoundOn ((S.flush.write (((g + 1) % 2 : Nat) : Int) (mPage (g + 1) r2 n2 d2)).crash keep) g r n d done ∨
    (FoundOn ((S.flush.write (((g + 1) % 2 : Nat) : Int) (mPage (g + 1) r2 n2 d2)).crash keep) (g + 1) r2 n2 d2 now ∧ FoundOn ((S.flush.write (((g + 1) % 2 : Nat) : Int) (mPage (g + 1) r2 n2 d2)).crash keep) (g + 1) r2 n2 d2 done) := by
  obtain ⟨g', r', n', d', q1, q2, q3⟩ := h.m2
  obtain ⟨C, hC⟩ : ∃ C, C = (S.flush.write (((g + 1) % 2 : Nat) : Int) (mPage (g + 1) r2 n2 d2)).crash keep := ⟨_, rfl⟩
  rw [← hC]
  have hno : (((g + 1) % 2 : Nat) : Int) = ((g' % 2 : Nat) : Int) := by omega
  have hF := h.flush
  have hoth : ∀ k : Int, k ≠ (((g + 1) % 2 : Nat) : Int) → C.read k = S.flush.lasts k := fun k hk => by
    rw [hC, crash_other fun x hx => ?_]
    · rfl
    · rcases List.mem_append.1 hx with hx | hx
      · cases hx
      · obtain rfl := List.mem_singleton.1 hx
        exact fun e => hk e.symm
  have hleft : C.left = -1 := by rw [hC]; rfl
  have hops : C.ops = 0 := by rw [hC]; rfl
  have hsz : C.size = S.size := by rw [hC]; rfl
  have hpd : ∀ x ∈ done, 2 ≤ x.no ∧ (x.no : Int) < C.size ∧ x.b.length ≤ 493 ∧ ∃ gen, gen ≤ 1152921504606846976 ∧ C.read x.no = pageB 5 x.no gen x.b := fun x hx => by
    obtain ⟨a1, a2, a3, gen, a4, a5⟩ := hF.pg x hx
    exact ⟨a1, by rw [hsz]; exact a2, a3, gen, a4, by rw [hoth _ (by omega)]; exact a5⟩
  have hpn : ∀ x ∈ now, 2 ≤ x.no ∧ (x.no : Int) < C.size ∧ x.b.length ≤ 493 ∧ ∃ gen, gen ≤ 1152921504606846976 ∧ C.read x.no = pageB 5 x.no gen x.b := fun x hx => by
    obtain ⟨a1, a2, a3, gen, a4, a5⟩ := hpg x hx
    exact ⟨a1, by rw [hsz]; exact a2, a3, gen, a4, by rw [hoth _ (by omega), flush_lasts]; exact a5⟩
  have hg1 : C.read ((g % 2 : Nat) : Int) = mPage g r n d := by rw [hoth _ (by omega)]; exact hF.m1
  have hold : S.flush.lasts (((g + 1) % 2 : Nat) : Int) = mPage g' r' n' d' := by rw [hno]; rw [flush_other fun x hx => by have := (h.ws x hx).1; omega]; exact q3
  -- the sector that was written
  have htorn : ∃ k, k ≤ 512 ∧ C.read (((g + 1) % 2 : Nat) : Int) = tornB (mPage (g + 1) r2 n2 d2) (mPage g' r' n' d') k := by
    rw [hC, crash_read]
    show ∃ k, k ≤ 512 ∧ kept S.flush.lasts (([⟨(((g + 1) % 2 : Nat) : Int), pad (mPage (g + 1) r2 n2 d2)⟩] : List Wr).zip keep) _ = _
    rw [mPage_pad]
    cases keep with
    | nil =>
      refine ⟨0, by omega, ?_⟩
      show S.flush.lasts (((g + 1) % 2 : Nat) : Int) = _
      unfold tornB
      rw [List.take_zero, List.drop_zero, List.nil_append]
      exact hold
    | cons x keep =>
      show ∃ k, k ≤ 512 ∧ keepOne S.flush.lasts ⟨(((g + 1) % 2 : Nat) : Int), mPage (g + 1) r2 n2 d2⟩ x _ = _
      unfold keepOne
      by_cases hx : x < 1
      · rw [if_pos hx]
        refine ⟨0, by omega, ?_⟩
        unfold tornB
        rw [List.take_zero, List.drop_zero, List.nil_append]
        exact hold
      · rw [if_neg hx]
        unfold putAt
        rw [if_pos rfl, hold]
        refine ⟨(min x 512).toNat, by omega, ?_⟩
        unfold over tornB
        have hl : ((mPage (g + 1) r2 n2 d2).take (min x 512).toNat).length = (min x 512).toNat := by rw [List.length_take, mPage_length]; omega
        rw [hl]
  obtain ⟨k, hk, hread⟩ := htorn
  obtain ⟨u1, u2⟩ := under_gen q1
  rcases torn_gen hr (u := mPage g' r' n' d') (mPage_length _ _ _ _) u1 u2 hk (((g + 1) % 2 : Nat) : Int) with ht | ht
  · left
    exact ⟨hleft, hops, by rw [hsz]; exact ⟨h.size, h.ok.s2⟩, h.right, by rw [hsz]; exact h.rs, hg1, by rw [hread]; omega, h.nd, hpd⟩
  · right
    have hm1 : C.read (((g + 1) % 2 : Nat) : Int) = mPage (g + 1) r2 n2 d2 := by rw [hread, ht]
    have hm2 : mG (C.read (((g + 1 + 1) % 2 : Nat) : Int)) (((g + 1 + 1) % 2 : Nat) : Int) < g + 1 := by
      have e : (((g + 1 + 1) % 2 : Nat) : Int) = ((g % 2 : Nat) : Int) := by omega
      rw [e, hg1]
      obtain ⟨_, e2, _⟩ := page_is h.right (no := ((g % 2 : Nat) : Int)) rfl
      rw [e2]
      omega
    exact ⟨⟨hleft, hops, by rw [hsz]; exact ⟨h.size, h.ok.s2⟩, hr, by rw [hsz]; exact hrs, hm1, hm2, hnd, hpn⟩, ⟨hleft, hops, by rw [hsz]; exact ⟨h.size, h.ok.s2⟩, hr, by rw [hsz]; exact hrs, hm1, hm2, h.nd, hpd⟩⟩

end Go.Proofs.YtngnmakeaniapaaGreatDoor

