/-
  RecordBack: what is read of a right record's bytes, of these and one more, of these less one.
-/
import Derived.Test.YtekaedafhiddeaaRdD
import Derived.Test.YtekaedafhiddeaaRSame
import Derived.Test.YtekaedafhiddeaaRPut
set_option linter.unusedVariables false
set_option maxRecDepth 100000
namespace Go.Proofs.Ytekaedafhiddeaa
open Go.RowKit

theorem goodPs {w : World} {q : Option Addr} {m c : Nat} {ps : List Pr} (h : PsOk w q m c ps) (hr : propsR (ps.map Pr.c) = true) : (ps.map Pr.c).length ≤ 16 ∧ ∀ p ∈ ps.map Pr.c, GoodP p := by
  obtain ⟨h1, _, h3⟩ := (propsR_iff _).1 hr
  refine ⟨h1, fun p hp => ?_⟩
  have h4 := h3 p hp
  obtain ⟨x, hx, rfl⟩ := List.mem_map.1 hp
  have h5 := (h.hl.1 x hx).v
  exact ⟨h5.ok, h5.hok, h4.2⟩
theorem nodeR_parts {id : Int} {ls : List ByteArray} {l : List Pc} (h : nodeR id ls l = true) : ls.length ≤ 8 ∧ propsR l = true := by
  unfold nodeR at h
  simp only [Bool.and_eq_true, decide_eq_true_eq] at h
  exact ⟨h.2.1, h.2.2.2⟩
theorem edgeR_parts {id fr to : Int} {t : ByteArray} {l : List Pc} (h : edgeR id fr to t l = true) : propsR l = true := by
  unfold edgeR at h
  simp only [Bool.and_eq_true] at h
  exact h.2.2.2.2
theorem fitK_zero {b a : List UInt8} (h : fitK b = (a, 0)) : a = b ∧ a.length ≤ 4096 := by
  unfold fitK at h
  split at h
  · simp only [Prod.mk.injEq, and_true] at h
    subst h
    exact ⟨rfl, by assumption⟩
  · simp at h
theorem putN_zero {id : Int} {ls : List ByteArray} {l : List Pc} {a : List UInt8} (h : putN id ls l = (a, 0)) : nodeR id ls l = true ∧ a = nodeK ls l ∧ a.length ≤ 4096 := by
  unfold putN at h
  split at h
  · rename_i hr
    obtain ⟨h1, h2⟩ := fitK_zero h
    exact ⟨hr, h1, h2⟩
  · simp at h
theorem putE_zero {id fr to : Int} {t : ByteArray} {l : List Pc} {a : List UInt8} (h : putE id fr to t l = (a, 0)) : edgeR id fr to t l = true ∧ a = edgeK fr to t l ∧ a.length ≤ 4096 := by
  unfold putE at h
  split at h
  · rename_i hr
    obtain ⟨h1, h2⟩ := fitK_zero h
    exact ⟨hr, h1, h2⟩
  · simp at h
theorem nodeS_wrong (l : List UInt8) : (nodeS (l, true)).2 ≠ ([], false) := by
  intro h
  obtain ⟨g, _⟩ := nodeS_sound (s := (l, true)) (x := (nodeS (l, true)).1) (s' := ([], false)) (by rw [← h]) rfl
  cases g
theorem edgeS_wrong (l : List UInt8) : (edgeS (l, true)).2 ≠ ([], false) := by
  intro h
  obtain ⟨g, _⟩ := edgeS_sound (s := (l, true)) (x := (edgeS (l, true)).1) (s' := ([], false)) (by rw [← h]) rfl
  cases g
theorem small {l : List UInt8} (h : l.length ≤ 4096) : decide (4096 < l.length) = false := decide_eq_false (by omega)

theorem backN_yes {w : World} (n : Nd) (hn : n.Ok w) {a : List UInt8} (h : putN n.id n.ls (n.ps.map Pr.c) = (a, 0)) : nodeS (a, decide (4096 < a.length)) = ((n.ls, n.ps.map Pr.c), ([], false)) := by
  obtain ⟨h1, h2, h3⟩ := putN_zero h
  obtain ⟨h4, h5⟩ := nodeR_parts h1
  obtain ⟨h6, h7⟩ := goodPs hn.ps h5
  rw [small h3, h2]
  have := nodeS_back n.ls (n.ps.map Pr.c) h4 h6 h7 []
  rwa [List.append_nil] at this
theorem backN_more {w : World} (n : Nd) (hn : n.Ok w) {a : List UInt8} (h : putN n.id n.ls (n.ps.map Pr.c) = (a, 0)) (u : UInt8) : (nodeS (a ++ [u], decide (4096 < (a ++ [u]).length))).2 ≠ ([], false) := by
  obtain ⟨h1, h2, h3⟩ := putN_zero h
  obtain ⟨h4, h5⟩ := nodeR_parts h1
  obtain ⟨h6, h7⟩ := goodPs hn.ps h5
  obtain ⟨d, hd⟩ : ∃ d, decide (4096 < (a ++ [u]).length) = d := ⟨_, rfl⟩
  rw [hd]
  cases d
  · rw [h2, nodeS_back n.ls (n.ps.map Pr.c) h4 h6 h7 [u]]
    simp
  · exact nodeS_wrong _
theorem backN_less {w : World} (n : Nd) (hn : n.Ok w) {a : List UInt8} (h : putN n.id n.ls (n.ps.map Pr.c) = (a, 0)) {b : List UInt8} {u : UInt8} (hb : a = b ++ [u]) : (nodeS (b, decide (4096 < b.length))).2 ≠ ([], false) := by
  obtain ⟨h1, h2, h3⟩ := putN_zero h
  obtain ⟨h4, h5⟩ := nodeR_parts h1
  obtain ⟨h6, h7⟩ := goodPs hn.ps h5
  have hbl : b.length ≤ 4096 := by have := congrArg List.length hb; simp at this; omega
  rw [small hbl]
  intro hc
  obtain ⟨_, g1, g2, g3, g4⟩ := nodeS_sound (s := (b, false)) (x := (nodeS (b, false)).1) (s' := ([], false)) (by rw [← hc]) rfl
  have e1 := nodeS_back (nodeS (b, false)).1.1 (nodeS (b, false)).1.2 g2 g3 g4 [u]
  dsimp only at g1
  rw [List.append_nil] at g1
  rw [← g1, ← hb, h2] at e1
  have e2 := nodeS_back n.ls (n.ps.map Pr.c) h4 h6 h7 []
  rw [List.append_nil, e1] at e2
  simp at e2
theorem backE_yes {w : World} (n : Ed) (hn : n.Ok w) {a : List UInt8} (h : putE n.id n.fr n.to n.t (n.ps.map Pr.c) = (a, 0)) : edgeS (a, decide (4096 < a.length)) = ((n.t, n.fr, n.to, n.ps.map Pr.c), ([], false)) := by
  obtain ⟨h1, h2, h3⟩ := putE_zero h
  have h5 := edgeR_parts h1
  obtain ⟨h6, h7⟩ := goodPs hn.ps h5
  rw [small h3, h2]
  have := edgeS_back n.t n.fr n.to (n.ps.map Pr.c) hn.f1 hn.f2 hn.t1 hn.t2 h6 h7 []
  rwa [List.append_nil] at this
theorem backE_more {w : World} (n : Ed) (hn : n.Ok w) {a : List UInt8} (h : putE n.id n.fr n.to n.t (n.ps.map Pr.c) = (a, 0)) (u : UInt8) : (edgeS (a ++ [u], decide (4096 < (a ++ [u]).length))).2 ≠ ([], false) := by
  obtain ⟨h1, h2, h3⟩ := putE_zero h
  have h5 := edgeR_parts h1
  obtain ⟨h6, h7⟩ := goodPs hn.ps h5
  obtain ⟨d, hd⟩ : ∃ d, decide (4096 < (a ++ [u]).length) = d := ⟨_, rfl⟩
  rw [hd]
  cases d
  · rw [h2, edgeS_back n.t n.fr n.to (n.ps.map Pr.c) hn.f1 hn.f2 hn.t1 hn.t2 h6 h7 [u]]
    simp
  · exact edgeS_wrong _

/-- Bytes that lie in memory, as a slice of them is given. -/
structure Sl (w : World) (p : Option Addr) (n c : Nat) (l : List UInt8) : Prop where
  b : Bs w p l
  hn : n = l.length
  h1 : n ≤ c
  h2 : c ≤ 9223372036854775807
  h0 : p = none → c = 0
  lo : ∀ a, p = some a → a.block < w.heap.size
theorem Sl.below {w w' : World} {p : Option Addr} {n c : Nat} {l : List UInt8} (h : Sl w p n c l) (hb : Below w.heap.size w w') : Sl w' p n c l := ⟨h.b.below hb, h.hn, h.h1, h.h2, h.h0, fun a ha => Nat.lt_of_lt_of_le (h.lo a ha) hb.size⟩
theorem Own.sl {w : World} {B : Nat} {v : Value} {l : List UInt8} (h : Own w B v l) {n : Nat} (hn : n = l.length) : ∃ p c, v = .slice p n c ∧ Sl w p n c l := by
  obtain ⟨p, c, rfl, h1, h2, h3, h4⟩ := h.form hn
  refine ⟨p, c, rfl, h3, hn, h1, h2, h4, fun a ha => ?_⟩
  subst ha
  exact (World.ownsRow.lt h a.block rfl).2

theorem readN_yes {w : World} (n : Nd) (hn : n.Ok w) {a : List UInt8} (h : putN n.id n.ls (n.ps.map Pr.c) = (a, 0)) {p : Option Addr} {m c : Nat} (hs : Sl w p m c a) :
    Calls Try.prog 8 #[.slice p m c, .int .i64 n.id] w fun e w' => (∃ x : Nd, e = .returned (.tuple #[x.cell, .int .i64 0]) ∧ x.Ok w' ∧ x.id = n.id ∧ x.ls = n.ls ∧ x.ps.map Pr.c = n.ps.map Pr.c) ∧ Below w.heap.size w w' := by
  obtain ⟨h1, h2, h3⟩ := putN_zero h
  refine (readNode_any hs.b hs.hn hs.h1 hs.h2 hs.h0 hs.lo (by omega) hn.i1 hn.i2).mono fun e w' hp => ⟨?_, hp.bl⟩
  exact hp.yes _ _ (backN_yes n hn h) h1
theorem readN_no {w : World} {id : Int} (i1 : -9223372036854775808 ≤ id) (i2 : id ≤ 9223372036854775807) {l : List UInt8} (h : (nodeS (l, decide (4096 < l.length))).2 ≠ ([], false)) (hl : l.length ≤ 100000) {p : Option Addr} {m c : Nat} (hs : Sl w p m c l) :
    Calls Try.prog 8 #[.slice p m c, .int .i64 id] w fun e w' => e = .returned (.tuple #[.agg #[.int .i64 0, .slice none 0 0, .slice none 0 0], .int .i64 11]) ∧ Below w.heap.size w w' :=
  (readNode_any hs.b hs.hn hs.h1 hs.h2 hs.h0 hs.lo hl i1 i2).mono fun e w' hp => ⟨hp.no (.inl h), hp.bl⟩
theorem readE_yes {w : World} (n : Ed) (hn : n.Ok w) {a : List UInt8} (h : putE n.id n.fr n.to n.t (n.ps.map Pr.c) = (a, 0)) {p : Option Addr} {m c : Nat} (hs : Sl w p m c a) :
    Calls Try.prog 11 #[.slice p m c, .int .i64 n.id] w fun e w' => (∃ x : Ed, e = .returned (.tuple #[x.cell, .int .i64 0]) ∧ x.Ok w' ∧ x.id = n.id ∧ x.t = n.t ∧ x.fr = n.fr ∧ x.to = n.to ∧ x.ps.map Pr.c = n.ps.map Pr.c) ∧ Below w.heap.size w w' := by
  obtain ⟨h1, h2, h3⟩ := putE_zero h
  refine (readEdge_any hs.b hs.hn hs.h1 hs.h2 hs.h0 hs.lo (by omega) hn.i1 hn.i2).mono fun e w' hp => ⟨?_, hp.bl⟩
  exact hp.yes _ _ _ _ (backE_yes n hn h) h1
theorem readE_no {w : World} {id : Int} (i1 : -9223372036854775808 ≤ id) (i2 : id ≤ 9223372036854775807) {l : List UInt8} (h : (edgeS (l, decide (4096 < l.length))).2 ≠ ([], false)) (hl : l.length ≤ 100000) {p : Option Addr} {m c : Nat} (hs : Sl w p m c l) :
    Calls Try.prog 11 #[.slice p m c, .int .i64 id] w fun e w' => e = .returned (.tuple #[.agg #[.int .i64 0, .string ⟨#[]⟩, .int .i64 0, .int .i64 0, .slice none 0 0], .int .i64 11]) ∧ Below w.heap.size w w' :=
  (readEdge_any hs.b hs.hn hs.h1 hs.h2 hs.h0 hs.lo hl i1 i2).mono fun e w' hp => ⟨hp.no (.inl h), hp.bl⟩

theorem oneE : putE 1 2 3 ⟨#[84]⟩ [] = (edgeK 2 3 ⟨#[84]⟩ [], 0) ∧ (edgeK 2 3 ⟨#[84]⟩ []).length = 20 := by
  have hr : edgeR 1 2 3 ⟨#[84]⟩ [] = true := by
    unfold edgeR
    rfl
  have hl : (edgeK 2 3 ⟨#[84]⟩ []).length = 20 := rfl
  refine ⟨?_, hl⟩
  unfold putE
  rw [if_pos hr]
  unfold fitK
  rw [if_pos (by rw [hl]; decide)]

end Go.Proofs.Ytekaedafhiddeaa
