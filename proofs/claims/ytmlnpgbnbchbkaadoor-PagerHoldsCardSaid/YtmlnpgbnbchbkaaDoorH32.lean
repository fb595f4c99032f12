/-
  PagerHolds: what its own memory holds: two boxes of states, a row of states, a row of ints.
  PagerHolds: each call of an act, over what stays true.
  How a float and a number open, for the rows' proofs; the facts on the whole program that each row asks.
  How many cells a number and a text take.
  How arguments of type []byte open, for the rows' proofs; and the facts on the whole program that each row asks.
-/
import Derived.Test.YtmlnpgbnbchbkaaDoorH28
import Derived.Test.YtmlnpgbnbchbkaaDoorH31
import Derived.Test.YtmlnpgbnbchbkaaDoorRows
import Derived.Test.YtmlnpgbnbchbkaaDoorH01
import Derived.Laws.Cover2
import Derived.ProofKit
import Derived.ShutString
import Derived.Carry
import Derived.SizedLaws
import Derived.OpenShut
set_option linter.unusedVariables false
set_option maxRecDepth 100000
namespace Go.Proofs.YtmlnpgbnbchbkaaDoor
open Go.RowKit

theorem ofGr_state (i : Nat) (c : Array Value) (f : Nat × Nat) : ofGr i (.cells c 35 f) = false := by
  show ((35 : TypeId) == 86 || (35 : TypeId) == 94 || (35 : TypeId) == 71 || (35 : TypeId) == 82) = false
  decide

/-- A state as it lies in memory. -/
structure HS where
  v1 : Value
  v2 : Value
  r : Int
  ps : List Page
def HS.cells (s : HS) : List Value := [s.v1, s.v2, .int .i64 s.r]
def HS.At (w : World) (B : Nat) (s : HS) : Prop := OwnI w B s.v1 (pnos s.ps) ∧ OwnS w B s.v2 (pstr s.ps)
/-- Of two rows: what is appended to the second one leaves the first one. -/
def Off (v v' : Value) : Prop := v.ownBlock = none ∨ v.ownBlock ≠ v'.ownBlock

structure HM (w : World) (B bd bn : Nat) (done now : HS) (qs : List HS) (vp vg : Value) (gens : List Int) : Prop where
  lt : bd < B ∧ bn < B ∧ bd ≠ bn ∧ B ≤ w.heap.size
  hd : w.heap[bd]? = some (.cells done.cells.toArray 35 (0, 0))
  hn : w.heap[bn]? = some (.cells now.cells.toArray 35 (0, 0))
  ad : done.At w B
  an : now.At w B
  aq : ∀ q ∈ qs, q.At w B
  ip : w.ownsRow B 35 3 vp qs.length (qs.flatMap HS.cells)
  ig : OwnI w B vg gens
  od : Off done.v1 now.v1 ∧ Off done.v2 now.v2 ∧ Off done.v1 vg
  oq : ∀ q ∈ qs, Off q.v1 now.v1 ∧ Off q.v2 now.v2 ∧ Off q.v1 vg
  on : Off now.v1 vg
  og : Off vg now.v1

theorem HS.At.kept {w w' : World} {B : Nat} {s : HS} {row : Option Nat} (h : s.At w B) (hg : w.grownBy w' row) (h1 : s.v1.ownBlock = none ∨ s.v1.ownBlock ≠ row) (h2 : s.v2.ownBlock = none ∨ s.v2.ownBlock ≠ row) : s.At w' B := ⟨h.1.kept hg h1, h.2.kept hg h2⟩
theorem HS.At.below {w w' : World} {B : Nat} {s : HS} (h : s.At w B) (hb : Below w.heap.size w w') : s.At w' B := ⟨h.1.below hb, h.2.below hb⟩
theorem HS.At.keepsG {w w' : World} {B : Nat} {s : HS} (h : s.At w B) (hk : Keeps ofGr w w') : s.At w' B := ⟨h.1.keepsG hk, h.2.keepsG hk⟩
theorem grown_of_below {w w' : World} (hb : Below w.heap.size w w') : w.grownBy w' none := ⟨hb.os, hb.tape, hb.output, hb.size, fun k hk _ => hb.block k hk⟩
theorem not_none (v : Value) : v.ownBlock = none ∨ v.ownBlock ≠ (none : Option Nat) := by
  cases v.ownBlock with
  | none => exact .inl rfl
  | some b => exact .inr (by simp)

/-- A call that makes memory alone. -/
theorem HM.below {w w' : World} {B bd bn : Nat} {done now : HS} {qs : List HS} {vp vg : Value} {gens : List Int} (h : HM w B bd bn done now qs vp vg gens) (hb : Below w.heap.size w w') : HM w' B bd bn done now qs vp vg gens := by
  obtain ⟨l1, l2, l3, l4⟩ := h.lt
  exact ⟨⟨l1, l2, l3, Nat.le_trans l4 hb.size⟩, (hb.block _ (by omega)).trans h.hd, (hb.block _ (by omega)).trans h.hn, h.ad.below hb, h.an.below hb, fun q hq => (h.aq q hq).below hb, h.ip.kept (grown_of_below hb) (not_none _), h.ig.below hb, h.od, h.oq, h.on, h.og⟩

/-- A pager's call. -/
theorem HM.keepsG {w w' : World} {B bd bn : Nat} {done now : HS} {qs : List HS} {vp vg : Value} {gens : List Int} (h : HM w B bd bn done now qs vp vg gens) (hk : Keeps ofGr w w') (hs : w.heap.size ≤ w'.heap.size) : HM w' B bd bn done now qs vp vg gens := by
  obtain ⟨l1, l2, l3, l4⟩ := h.lt
  refine ⟨⟨l1, l2, l3, Nat.le_trans l4 hs⟩, hk.stay h.hd (ofGr_state _ _ _), hk.stay h.hn (ofGr_state _ _ _), h.ad.keepsG hk, h.an.keepsG hk, fun q hq => (h.aq q hq).keepsG hk, ?_, h.ig.keepsG hk, h.od, h.oq, h.on, h.og⟩
  refine ⟨h.ip.1, ?_⟩
  rcases h.ip.2 with h0 | ⟨g, cap, cur, hv, h1, hg, h2⟩
  · exact .inl h0
  · exact .inr ⟨g, cap, cur, hv, h1, hk.stay hg (ofGr_state _ _ _), h2⟩

/-- A box is written: all rows stay. -/
theorem grown_setRow (w : World) (b : Nat) (cs : Array Value) : w.grownBy (w.setRow b cs) (some b) := ⟨rfl, rfl, rfl, by simp, fun k _ hk => setRow_other _ _ _ _ fun e => hk (by rw [e])⟩
theorem off_box {v : Value} {B b : Nat} (h : ∀ k, v.ownBlock = some k → B ≤ k) (hb : b < B) : v.ownBlock = none ∨ v.ownBlock ≠ some b := by
  cases h0 : v.ownBlock with
  | none => exact .inl rfl
  | some k =>
    refine .inr fun e => ?_
    have h1 := h k h0
    have h2 : k = b := Option.some.inj e
    omega
theorem HS.At.box {w : World} {B b : Nat} {s : HS} (h : s.At w B) (hb : b < B) (cs : Array Value) : s.At (w.setRow b cs) B :=
  h.kept (grown_setRow w b cs) (off_box (fun k hk => (World.ownsRow.lt h.1 k hk).1) hb) (off_box (fun k hk => (World.ownsRow.lt h.2 k hk).1) hb)

/-- Another state is now. -/
theorem HM.setNow {w : World} {B bd bn : Nat} {done now : HS} {qs : List HS} {vp vg : Value} {gens : List Int} (h : HM w B bd bn done now qs vp vg gens) {s : HS} (hs : s.At w B)
    (o1 : Off done.v1 s.v1 ∧ Off done.v2 s.v2) (o2 : ∀ q ∈ qs, Off q.v1 s.v1 ∧ Off q.v2 s.v2) (o3 : Off s.v1 vg ∧ Off vg s.v1) : HM (w.setRow bn s.cells.toArray) B bd bn done s qs vp vg gens := by
  obtain ⟨l1, l2, l3, l4⟩ := h.lt
  exact ⟨⟨l1, l2, l3, by simpa using l4⟩, (setRow_other _ _ _ _ l3).trans h.hd, setRow_heap _ _ _ _ _ _ h.hn, h.ad.box l2 _, hs.box l2 _, fun q hq => (h.aq q hq).box l2 _, h.ip.kept (grown_setRow _ _ _) (off_box (fun k hk => (World.ownsRow.lt h.ip k hk).1) l2), h.ig.kept (grown_setRow _ _ _) (off_box (fun k hk => (World.ownsRow.lt h.ig k hk).1) l2),
    ⟨o1.1, o1.2, h.od.2.2⟩, fun q hq => ⟨(o2 q hq).1, (o2 q hq).2, (h.oq q hq).2.2⟩, o3.1, o3.2⟩

/-- Another state is done. -/
theorem HM.setDone {w : World} {B bd bn : Nat} {done now : HS} {qs : List HS} {vp vg : Value} {gens : List Int} (h : HM w B bd bn done now qs vp vg gens) {s : HS} (hs : s.At w B)
    (o1 : Off s.v1 now.v1 ∧ Off s.v2 now.v2 ∧ Off s.v1 vg) : HM (w.setRow bd s.cells.toArray) B bd bn s now qs vp vg gens := by
  obtain ⟨l1, l2, l3, l4⟩ := h.lt
  exact ⟨⟨l1, l2, l3, by simpa using l4⟩, setRow_heap _ _ _ _ _ _ h.hd, (setRow_other _ _ _ _ (Ne.symm l3)).trans h.hn, hs.box l1 _, h.an.box l1 _, fun q hq => (h.aq q hq).box l1 _, h.ip.kept (grown_setRow _ _ _) (off_box (fun k hk => (World.ownsRow.lt h.ip k hk).1) l1), h.ig.kept (grown_setRow _ _ _) (off_box (fun k hk => (World.ownsRow.lt h.ig k hk).1) l1),
    o1, h.oq, h.on, h.og⟩

/-- New rows are off all elder ones, and these off them. -/
theorem off_new {w : World} {B B' : Nat} {e e' : TypeId} {z z' : Nat} {v v' : Value} {n n' : Nat} {xs xs' : List Value} {u : World} (h : w.ownsRow B e z v n xs) (h' : u.ownsRow w.heap.size e' z' v' n' xs') : Off v v' ∧ Off v' v := by
  unfold Off
  cases h0 : v.ownBlock with
  | none =>
    refine ⟨.inl rfl, ?_⟩
    cases h1 : v'.ownBlock with
    | none => exact .inl rfl
    | some k => exact .inr (by simp)
  | some k =>
    have := (World.ownsRow.lt h k h0).2
    cases h1 : v'.ownBlock with
    | none => exact ⟨.inr (by simp), .inl rfl⟩
    | some k' =>
      have h2 := (World.ownsRow.lt h' k' h1).1
      have hne : k ≠ k' := by omega
      exact ⟨.inr fun e => hne (Option.some.inj e), .inr fun e => hne (Option.some.inj e).symm⟩

end Go.Proofs.YtmlnpgbnbchbkaaDoor

set_option linter.unusedVariables false
set_option maxRecDepth 100000
namespace Go.Proofs.YtmlnpgbnbchbkaaDoor
open Go.RowKit

structure HC (w wr : World) (P p : Nat) (N : Int) (i : Nat) (X : PG) (done now : List Page) (pins : List (List Page)) (gens : List Int) (rd : Int) : Prop where
  m : AbM w wr P p X
  v : PInv X done now pins gens
  b : PBnd X i
  r : rd = X.r
  z : X.S.size = N

section
variable {w wr : World} {P p : Nat} {N : Int} {i : Nat} {X : PG} {done now : List Page} {pins : List (List Page)} {gens : List Int} {rd : Int}

theorem HC.on (h : HC w wr P p N i X done now pins gens rd) {w' : World} (hb : Below wr.heap.size wr w') : HC w w' P p N i X done now pins gens rd := ⟨h.m.on hb, h.v, h.b, h.r, h.z⟩

theorem hc_lay (hT : Tab w) (h : HC w wr P p N i X done now pins gens rd) (hi : i ≤ 1000) {q : Option Addr} {n c : Nat} {bs : List UInt8} (hl : GBytes wr w.heap.size q bs) (hn : n = bs.length) (hnc : n ≤ c) (hc : c ≤ 9223372036854775807) (h493 : n ≤ 493) :
    Calls Tryd.prog 8 #[.pointer (some ⟨P, 0, none⟩), .int .u8 5, .slice q n c] wr fun e w' => Keeps ofGr wr w' ∧
      ((∃ k : Nat, e = .returned (.tuple #[.int .i64 (k : Int), .int .i64 0]) ∧ ∃ Y, HC w w' P p N (i + 1) Y done (now ++ [⟨k, bs⟩]) pins gens rd) ∨
       (∃ er : Int, e = .returned (.tuple #[.int .i64 0, .int .i64 er]) ∧ (er = 15 ∨ er = 17) ∧ HC w w' P p N (i + 1) X done now pins gens rd)) := by
  obtain ⟨lm, fm, pl, um, wm, la, v, hI⟩ := h.m.at_
  have hg := h.b.g
  have ho := h.b.ops
  have hlf := h.b.left
  cases hF : X.F.least with
  | none =>
    exact (grLay_full hI h.v.failed hF 5 q c h493).mono fun e w' ⟨he, hs⟩ => ⟨hs.keeps, .inr ⟨15, he, .inl rfl, ⟨h.m.step hs, h.v, h.b.up, h.r, h.z⟩⟩⟩
  | some k =>
    obtain ⟨k1, k2, k3, k4⟩ := FL.st_free (FL.least_some hF).1
    have hlo := h.v.lo
    obtain ⟨k', rfl⟩ : ∃ k' : Nat, k = (k' : Int) := ⟨k.toNat, by omega⟩
    by_cases h0 : X.S.left = 0
    · exact (grLay_cut (hT.below hT.lt h.m.below) hT.lt hI h.v.failed hF h0 h.v.hi (by omega) 5 hl hn hnc hc h493).mono fun e w' ⟨he, hs⟩ => ⟨hs.keeps, .inr ⟨17, he, .inr rfl, ⟨h.m.step hs, h.v, h.b.up, h.r, h.z⟩⟩⟩
    · exact (grLay_ok (hT.below hT.lt h.m.below) hT.lt hI h.v.failed hF h0 (by omega) (by omega) (by omega) h.v.hi (by omega) 5 hl hn hnc hc h493).mono fun e w' ⟨he, hs⟩ =>
        ⟨hs.keeps, .inl ⟨k', he, _, ⟨h.m.step hs, h.v.lay hF (by omega) (by omega), h.b.lay _ _, h.r, h.z⟩⟩⟩

theorem hc_drop (h : HC w wr P p N i X done now pins gens rd) {j : Nat} {y : Page} (hj : now[j]? = some y) :
    Calls Tryd.prog 9 #[.pointer (some ⟨P, 0, none⟩), .int .i64 (y.no : Int)] wr fun e w' => e = .returned (.int .i64 0) ∧ Keeps ofGr wr w' ∧ ∃ Y, HC w w' P p N (i + 1) Y done (now.eraseIdx j) pins gens rd := by
  obtain ⟨lm, fm, pl, um, wm, la, v, hI⟩ := h.m.at_
  obtain ⟨d1, d2, d3⟩ := h.v.drop hj
  have hh := grDrop_any hI (k := (y.no : Int)) (fun _ => d1)
  rw [d2] at hh
  refine hh.mono fun e w' ⟨he, hs⟩ => ⟨he, hs.keeps, _, ⟨h.m.step hs, d3, h.b.drop _, ?_, ?_⟩⟩
  · rw [h.r]; unfold PG.drop; split
    · rfl
    · first | rfl | (split <;> rfl)
  · rw [← h.z]; unfold PG.drop; split
    · rfl
    · first | rfl | (split <;> rfl)

theorem hc_abort (h : HC w wr P p N i X done now pins gens rd) :
    Calls Tryd.prog 13 #[.pointer (some ⟨P, 0, none⟩)] wr fun e w' => e = .returned (.int .i64 0) ∧ Keeps ofGr wr w' ∧ ∃ Y, HC w w' P p N (i + 1) Y done done pins gens rd := by
  obtain ⟨lm, fm, pl, um, wm, la, v, hI⟩ := h.m.at_
  exact (grAbort hI h.v.failed fun k hk => FL.st_two.2 ⟨FL.has_iff.2 (h.v.ok.hu (h.v.laid k hk).1), (h.v.laid k hk).1⟩).mono fun e w' ⟨he, hs⟩ => ⟨he, hs.keeps, _, ⟨h.m.step hs, h.v.abort, h.b.abort, h.r, h.z⟩⟩

theorem nodup_length_le : ∀ {l m : List Int}, l.Nodup → (∀ a ∈ l, a ∈ m) → l.length ≤ m.length
  | [], _, _, _ => Nat.zero_le _
  | a :: l, m, h, hs => by
    rw [List.nodup_cons] at h
    have ha := hs a (by simp)
    have := nodup_length_le (l := l) (m := m.erase a) h.2 fun b hb => (List.mem_erase_of_ne (show b ≠ a from fun e => h.1 (by rw [← e]; exact hb))).2 (hs b (by simp [hb]))
    rw [List.length_erase_of_mem ha] at this
    have := List.length_pos_of_mem ha
    simp only [List.length_cons]
    omega
theorem HC.gens_len (h : HC w wr P p N i X done now pins gens rd) : X.pins.length ≤ gens.length := by
  have hnd : (X.pins.map (·.1)).Nodup := (rise_fst.1 h.v.po.rise).imp fun h => by omega
  have hsub : ∀ a ∈ X.pins.map (·.1), a ∈ gens := fun a ha => by
    obtain ⟨x, hx, rfl⟩ := List.mem_map.1 ha
    exact List.count_pos_iff.1 (by have := h.v.po.cnt x hx; omega)
  have := nodup_length_le hnd hsub
  simpa using this

theorem hc_pin (h : HC w wr P p N i X done now pins gens rd) (hl : gens.length ≤ 1000) :
    Calls Tryd.prog 14 #[.pointer (some ⟨P, 0, none⟩)] wr fun e w' => e = .returned (.tuple #[.int .i64 X.g, .int .i64 0]) ∧ Keeps ofGr wr w' ∧ ∃ Y, Y.g = X.g ∧ HC w w' P p N (i + 1) Y done now (pins ++ [done]) (gens ++ [(X.g : Int)]) rd := by
  obtain ⟨lm, fm, pl, um, wm, la, v, hI⟩ := h.m.at_
  have hv := h.v.pinned
  have hb := h.b.pin
  have hr : rd = X.pin.r := by rw [h.r]; unfold PG.pin; split <;> rfl
  have hz : X.pin.S.size = N := by rw [← h.z]; unfold PG.pin; split <;> rfl
  have hg : X.pin.g = X.g := by unfold PG.pin; split <;> rfl
  cases hp : pidx X.pins X.g with
  | some j =>
    obtain ⟨x, hx, hxg⟩ := pidx_get hp
    have hc := h.v.po.cnt x (List.mem_of_getElem? hx)
    have hcl := List.count_le_length (a := x.1) (l := gens)
    have e : X.pin = { X with pins := incAt X.pins j 1 } := by unfold PG.pin; rw [hp]
    rw [e] at hv hb hr hz hg
    exact (grPin_old hI hp hx (by omega)).mono fun e w' ⟨he, hs⟩ => ⟨he, hs.keeps, _, hg, ⟨h.m.step hs, hv, hb, hr, hz⟩⟩
  | none =>
    have e : X.pin = { X with pins := X.pins ++ [((X.g : Int), 1)] } := by unfold PG.pin; rw [hp]
    rw [e] at hv hb hr hz hg
    exact (grPin_new hI hp (by have := h.gens_len; omega)).mono fun e w' ⟨he, hs⟩ => ⟨he, hs.keeps, _, hg, ⟨h.m.step hs, hv, hb, hr, hz⟩⟩

theorem hc_unpin (h : HC w wr P p N i X done now pins gens rd) (hl : gens.length ≤ 1000) {j : Nat} {gv : Int} (hj : gens[j]? = some gv) :
    Calls Tryd.prog 16 #[.pointer (some ⟨P, 0, none⟩), .int .i64 gv] wr fun e w' => e = .returned (.int .i64 0) ∧ Keeps ofGr wr w' ∧ ∃ Y, HC w w' P p N (i + 1) Y done now (pins.eraseIdx j) (gens.eraseIdx j) rd := by
  obtain ⟨lm, fm, pl, um, wm, la, v, hI⟩ := h.m.at_
  obtain ⟨k, x, u1, u2, u3, u4, u5, u6⟩ := h.v.unpin hj
  by_cases h1 : x.2 = 1
  · exact (grUnpin_gone hI u1 u2 h1).mono fun e w' ⟨he, hs⟩ => ⟨he, hs.keeps, _, ⟨h.m.step hs, u6 h1, h.b.settled _, h.r, h.z⟩⟩
  · exact (grUnpin_less hI u1 u2 (by omega)).mono fun e w' ⟨he, hs⟩ => ⟨he, hs.keeps, _, ⟨h.m.step hs, u5 (by omega), h.b.settled _, h.r, h.z⟩⟩

theorem hc_cut (h : HC w wr P p N i X done now pins gens rd) {m : Int} (hm : 0 ≤ m ∧ m ≤ 31) :
    Calls Tryd.prog 17 #[.pointer (some ⟨p, 0, none⟩), .int .i64 m] wr fun e w' => e = .returned (.tuple #[]) ∧ Keeps ofGr wr w' ∧ ∃ Y, HC w w' P p N (i + 1) Y done now pins gens rd := by
  obtain ⟨lm, fm, pl, um, wm, la, v, hI⟩ := h.m.at_
  exact (cut_any hI.disk m).mono fun e w' ⟨he, hs⟩ => ⟨he, (GrStep.disk hI hs).keeps, _, ⟨h.m.step (GrStep.disk hI hs), h.v.cut m, h.b.cut hm, h.r, h.z⟩⟩

/-- A commit: done, or cut; behind one that was cut the disk alone is asked. -/
theorem hc_commit (hT : Tab w) (h : HC w wr P p N i X done now pins gens rd) (hi : i ≤ 1000) {r : Nat} (h0 : r = 0 ∨ (r : Int) ∈ pnos now) :
    Calls Tryd.prog 10 #[.pointer (some ⟨P, 0, none⟩), .int .i64 r, .int .i64 ((1 + i : Nat) : Int), .int .i64 ((1 : Nat) : Int)] wr fun e w' => Keeps ofGr wr w' ∧
      ((e = .returned (.int .i64 0) ∧ ∃ Y, HC w w' P p N (i + 1) Y now now pins gens r) ∨
       (e = .returned (.int .i64 17) ∧ Below w.heap.size wr w' ∧ ∃ lm fm S, DiskAt w' w.heap.size p lm fm S ∧ ∀ keep, FoundOn (S.crash keep) X.g X.r X.n X.d done ∨ (FoundOn (S.crash keep) (X.g + 1) r (1 + i) 1 now ∧ FoundOn (S.crash keep) (X.g + 1) r (1 + i) 1 done))) := by
  obtain ⟨lm, fm, pl, um, wm, la, v, hI⟩ := h.m.at_
  have hg := h.b.g
  have hrr : r = 0 ∨ (2 ≤ (r : Int) ∧ (r : Int) < 4096) := by
    rcases h0 with h0 | h0
    · exact .inl h0
    · have hh := h.v.ok.hu ((h.v.used r).2 h0)
      have := h.v.lo
      have := h.v.hi
      have := h.v.D.ok.s2
      exact .inr (by omega)
  have hm : MRight ((X.g + 1 : Nat) : Int) (r : Nat) ((1 + i : Nat) : Int) ((1 : Nat) : Int) := by
    refine ⟨⟨?_, ?_⟩, ?_, ⟨?_, ?_⟩, ⟨?_, ?_⟩⟩
    · omega
    · omega
    · rcases hrr with hrr | hrr
      · left; omega
      · right; exact ⟨hrr.1, hrr.2⟩
    · omega
    · omega
    · omega
    · omega
  obtain ⟨f1, f2⟩ := h.v.follows hm h0 (by have := h.b.n; omega) h.b.d
  have hfit : Fit X.S 999999990 := ⟨h.b.left.1, by have := h.b.left; omega, by have := h.b.ops; omega⟩
  refine (grCommit_any (hT.below hT.lt h.m.below) hT.lt hI h.v.failed hfit (by have := h.v.D.size; omega) f1).mono fun e w' hh => ?_
  rcases hh with ⟨he, hs⟩ | ⟨he, lm', fm', S, hS, hD, hb, hk⟩
  · exact ⟨hs.keeps, .inl ⟨he, _, ⟨h.m.step hs, h.v.commit hm f2, h.b.commit r, rfl, h.z⟩⟩⟩
  · exact ⟨hk, .inr ⟨he, hb, lm', fm', S, hD, fun keep => h.v.torn hm f2 hS keep⟩⟩

theorem hc_counts (h : HC w wr P p N i X done now pins gens rd) :
    (Calls Tryd.prog 19 #[.pointer (some ⟨P, 0, none⟩)] wr fun e w' => e = .returned (.int .i64 X.F.nFree) ∧ Below wr.heap.size wr w') ∧
    (Calls Tryd.prog 20 #[.pointer (some ⟨P, 0, none⟩)] wr fun e w' => e = .returned (.int .i64 (now.length : Int)) ∧ wr = w') ∧
    (Calls Tryd.prog 21 #[.pointer (some ⟨P, 0, none⟩)] wr fun e w' => e = .returned (.int .i64 X.F.nWaits) ∧ wr = w') ∧ X.F.nFree + (now.length : Int) + X.F.nWaits = N - 2 := by
  obtain ⟨lm, fm, pl, um, wm, la, v, hI⟩ := h.m.at_
  obtain ⟨h1, h2⟩ := h.v.counts
  have r2 := grUsed hI
  rw [h1] at r2
  rw [h1, h.z] at h2
  exact ⟨grFree hI, r2, grWaiting hI, h2⟩

theorem hc_holds (hT : Tab w) (h : HC w wr P p N i X done now pins gens rd) {ps : List Page} (hp : ps = done ∨ ps = now ∨ ps ∈ pins) {B : Nat} {s1 s2 : Value} (h1 : OwnI wr B s1 (pnos ps)) (h2 : OwnS wr B s2 (pstr ps)) (rt : Int) :
    Calls Tryd.prog 18 #[.pointer (some ⟨P, 0, none⟩), .agg #[s1, s2, .int .i64 rt]] wr fun e w' => e = .returned (.bool true) ∧ Below wr.heap.size wr w' := by
  obtain ⟨lm, fm, pl, um, wm, la, v, hI⟩ := h.m.at_
  have hin : PagesIn X ps := by
    rcases hp with rfl | rfl | hp
    · exact h.v.pd
    · exact h.v.pn
    · exact h.v.pp _ hp
  have l1 := h1.lie
  have l2 := h2.lie
  obtain ⟨q1, n1, c1, rfl, _⟩ := l1.form
  obtain ⟨q2, n2, c2, rfl, _⟩ := l2.form
  exact holds_any (hT.below hT.lt h.m.below) hI hin l1 l2 rt

theorem hc_found (hT : Tab w) (h : HC w wr P p N i X done now pins gens rd) {kq : Option Addr} {kn kc : Nat} {keep : List Int} (hk : Ks wr kq keep) (hkn : kn = keep.length) (hkm : kn ≤ 9223372036854775807) {B : Nat} {s1 s2 : Value} (h1 : OwnI wr B s1 (pnos done)) (h2 : OwnS wr B s2 (pstr done)) :
    Calls Tryd.prog 11 #[.pointer (some ⟨p, 0, none⟩), .slice kq kn kc, .agg #[s1, s2, .int .i64 rd]] wr fun e w' => e = .returned (.bool true) ∧ Below wr.heap.size wr w' := by
  obtain ⟨lm, fm, pl, um, wm, la, v, hI⟩ := h.m.at_
  have l1 := h1.lie
  have l2 := h2.lie
  obtain ⟨q1, n1, c1, rfl, _⟩ := l1.form
  obtain ⟨q2, n2, c2, rfl, _⟩ := l2.form
  have hh := found_any (kc := kc) (hT.below hT.lt h.m.below) hI.disk hk hkn hkm (h.v.found keep) l1 l2 rd
  rw [h.r, decide_eq_true rfl] at hh
  rw [h.r]
  exact hh
end

end Go.Proofs.YtmlnpgbnbchbkaaDoor

set_option linter.unusedVariables false
set_option maxRecDepth 100000
namespace Go.Proofs.YtmlnpgbnbchbkaaDoor
open Go.ChangeShapes Go.WideShapes Go.ChangeAt Go.RowKit

theorem own : ownKnob Tryd.prog.godebug = none := by kernel_rfl
theorem laidOut : laidOutB Tryd.prog = true := by kernel_rfl

theorem flt_lt {b : Nat} (h : (Lit.float .f64 b).wf = true) : b < 18446744073709551616 := by
  simp only [Lit.wf, decide_eq_true_eq] at h
  exact h
theorem i64_bounds {x : Int} (h : (Lit.int .i64 x).wf = true) : -9223372036854775808 ≤ x ∧ x ≤ 9223372036854775807 := by
  have h1 : IntKind.i64.min = -9223372036854775808 := rfl
  have h2 : IntKind.i64.max = 9223372036854775807 := rfl
  simp only [Lit.wf, Bool.and_eq_true, decide_eq_true_eq] at h
  omega
theorem u64_bounds {x : Int} (h : (Lit.int .u64 x).wf = true) : 0 ≤ x ∧ x < 18446744073709551616 := by
  have h1 : IntKind.u64.min = 0 := rfl
  have h2 : IntKind.u64.max = 18446744073709551615 := rfl
  simp only [Lit.wf, Bool.and_eq_true, decide_eq_true_eq] at h
  omega

end Go.Proofs.YtmlnpgbnbchbkaaDoor

set_option linter.unusedVariables false
set_option maxRecDepth 100000
namespace Go.Proofs.YtmlnpgbnbchbkaaDoor

theorem cells_str : Tryd.prog.cellsOf 9 = 1 := by kernel_rfl
theorem cells_int : Tryd.prog.cellsOf 3 = 1 := by kernel_rfl

end Go.Proofs.YtmlnpgbnbchbkaaDoor

set_option linter.unusedVariables false
set_option maxRecDepth 100000
namespace Go.Proofs.YtmlnpgbnbchbkaaDoor
open Go.ChangeShapes Go.WideShapes Go.ChangeAt Go.RowKit
open Go.ChangeMaps (open_string shut_string)

theorem cellsU8 : Tryd.prog.cellsOf 5 = 1 := by kernel_rfl

theorem u8_of_wf {x : Int} (h : (Lit.int .u8 x).wf = true) : 0 ≤ x ∧ x < 256 := by
  have h1 : IntKind.u8.min = 0 := rfl
  have h2 : IntKind.u8.max = 255 := rfl
  simp only [Lit.wf, Bool.and_eq_true, decide_eq_true_eq] at h
  omega

/-- An argument of type []byte, nil or not: its bytes. -/
theorem opened {H : Type} {enc : TypeId × Value → H} {W : World} {a0 : Option Addr} {len cap : Nat} {d0 : DataW H} {p : List MemPlace}
    (h0 : DataW.Trod enc Tryd.prog W 0 (fun _ => true) true 37 (.slice a0 len cap) d0 p) :
    ∃ l : List UInt8, len = l.length ∧ len ≤ cap ∧ cap ≤ 9223372036854775807 ∧ Bs W a0 l ∧ (a0 = none → cap = 0) ∧ (cap = 0 ∨ ∃ elems spare, d0 = .slice elems spare ∧ elems.length + spare.length = cap) := by
  obtain ⟨fuel, hf⟩ := h0
  rcases open_ints Tryd.underlying37 Tryd.underlying5 cellsU8 hf with ⟨hcs, hx⟩ | ⟨a, len', cap', zs, hcs, _, hl, hm, hz, hx, hcell, hwz⟩
  · simp [Value.cells] at hcs
    obtain ⟨rfl, rfl, rfl⟩ := hcs
    exact ⟨[], rfl, Nat.le_refl _, by omega, Bs.nil _ _, fun _ => rfl, .inl rfl⟩
  · simp [Value.cells] at hcs
    obtain ⟨rfl, rfl, rfl⟩ := hcs
    simp only [if_true] at hz
    simp only [Prod.mk.injEq] at hx
    obtain ⟨rfl, _⟩ := hx
    refine ⟨(zs.take len).map fun x => UInt8.ofNat x.toNat, by simp; omega, by omega, by unfold maxLen at hm; omega, ?_, (fun h => by cases h), .inr ⟨_, _, rfl, by simp [lits]; omega⟩⟩
    intro hne
    have h0 : 0 < len := by
      rcases Nat.eq_zero_or_pos len with h | h
      · subst h; simp at hne
      · exact h
    obtain ⟨b, o, s⟩ := a
    obtain rfl : s = none := by simpa [Addr.add] using World.cell?_spot (hcell 0 (by omega))
    refine ⟨b, o, rfl, fun i u hi => ?_⟩
    rw [List.getElem?_map, List.getElem?_take] at hi
    split at hi
    · rename_i hil
      have hiz : i < zs.length := by omega
      rw [List.getElem?_eq_getElem hiz] at hi
      simp only [Option.map_some, Option.some.injEq] at hi
      have hb := u8_of_wf (hwz zs[i] (List.getElem_mem hiz))
      have hc := hcell i hiz
      rw [← add_plain, hc, ← hi]
      have h4 : (UInt8.ofNat (zs[i]).toNat).toNat = (zs[i]).toNat := by
        rw [UInt8.toNat_ofNat']; omega
      rw [h4]
      simp only [List.getD_eq_getElem?_getD, List.getElem?_eq_getElem hiz, Option.getD_some, Option.some.injEq, Value.int.injEq, true_and]
      omega
    · cases hi

theorem bytesU8 : Tryd.prog.bytesOf 5 = 1 := by kernel_rfl

/-- .. with the reach: what is read before the call takes at most 2^47 - 4096 bytes. -/
theorem opened_sized {H : Type} {enc : TypeId × Value → H} {W : World} {a0 : Option Addr} {len cap : Nat} {d0 : DataW H} {p : List MemPlace} {ts : List TypeId} {ds : List (DataW H)}
    (h0 : DataW.Trod enc Tryd.prog W 0 (fun _ => true) true 37 (.slice a0 len cap) d0 p)
    (hsz : (DataW.weightsEach Tryd.prog ts ds).all (· ≤ reachBytes) = true) (j : Nat) (ht : ts[j]? = some 37) (hd : ds[j]? = some d0) :
    ∃ l : List UInt8, len = l.length ∧ len ≤ cap ∧ cap ≤ 140737488355328 ∧ Bs W a0 l ∧ (a0 = none → cap = 0) := by
  obtain ⟨l, h1, h2, h3, h4, h5, h6⟩ := opened h0
  refine ⟨l, h1, h2, ?_, h4, h5⟩
  rcases h6 with h6 | ⟨elems, spare, rfl, h7⟩
  · omega
  · have := sized_slice hsz ht hd Tryd.underlying37
    rw [bytesU8] at this
    have hr := reachBytes_lt
    omega

/-- An array of two elements of one cell each, by value. -/
theorem open_arr2 {H : Type} {enc : TypeId × Value → H} {W : World} {t e : TypeId} (ht : Tryd.prog.underlying t = some (.array 2 e)) (hce : Tryd.prog.cellsOf e = 1) (hC : Tryd.prog.cellsOf t = 2) {r : Reach} {b0 : Nat} {v : Value} {d : DataW H} {p : List MemPlace}
    (hv : Value.okWide Tryd.prog W r b0 t v) (h : DataW.Trod enc Tryd.prog W 0 (fun _ => true) true t v d p) :
    ∃ (v0 v1 : Value) (y0 y1 : DataW H × List MemPlace) (n : Nat), v = .agg #[v0, v1] ∧ d = .agg [y0.1, y1.1] ∧ p = y0.2 ++ y1.2 ∧
      DataW.trod enc Tryd.prog W 0 (fun _ => true) true n e [v0] = some y0 ∧ DataW.trod enc Tryd.prog W 0 (fun _ => true) true n e [v1] = some y1 := by
  simp only [Value.okWide, ht] at hv
  obtain ⟨cs, rfl, hsz, _⟩ := hv
  obtain ⟨c0, c1, rfl⟩ := Joins.array2 (hsz.trans hC)
  obtain ⟨fuel, hf⟩ := h
  obtain ⟨xs, m, _, hx, _, hlen, hg⟩ := DataW.trod_array ht hf
  match xs, hlen with
  | [y0, y1], _ =>
    simp only [Prod.mk.injEq] at hx
    have h0 := hg 0 (by decide)
    have h1 := hg 1 (by decide)
    simp only [hce, Value.cells] at h0 h1
    exact ⟨c0, c1, y0, y1, m, rfl, by simpa using hx.1, by simpa using hx.2, by simpa using h0, by simpa using h1⟩

end Go.Proofs.YtmlnpgbnbchbkaaDoor

