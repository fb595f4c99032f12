/-
  How the arguments of layer 8's laws open; the rows' condition on page.turns: what it gives a walk; a world that meets it.
  How an argument that is a list of ints opens, for the rows' proofs.
  How PagerHolds' argument that is a list of acts opens, for its card.
  PagerHolds: what holds at the head of the law's loop; how a call carries it on.
  append onto a row of one's own: where the row lies behind it: where it lay, or in a new block.
-/
import Derived.Test.YtmlnpgbnbchbkaaDoorH32
import Derived.Test.YtmlnpgbnbchbkaaDoorH12
import Derived.Test.YtmlnpgbnbchbkaaDoorTie
import Derived.Test.YtmlnpgbnbchbkaaDoorH05
import Derived.ChangeSame
import Derived.ChangeVars
import Derived.ProofKit
import Derived.ShutString
import Derived.Carry
import Derived.SizedLaws
import Derived.OpenShut
import Derived.Deep.Onto
import Derived.Deep.Slices
set_option linter.unusedVariables false
set_option maxRecDepth 100000
namespace Go.Proofs.YtmlnpgbnbchbkaaDoor
open Go.ChangeShapes Go.WideShapes Go.ChangeAt Go.RowKit

theorem gTurns : Tryd.prog.globalNamed "cobweb/page.turns" = some 0 := by kernel_rfl
theorem gType : (Tryd.prog.globals[0]?).map (·.type) = some 127 := by kernel_rfl
theorem cellsU32 : Tryd.prog.cellsOf 119 = 1 := by kernel_rfl
theorem cells16 : Tryd.prog.cellsOf 127 = 16 := by kernel_rfl
theorem cells_meta : Tryd.prog.cellsOf 49 = 4 := by kernel_rfl
theorem open_meta {H : Type} {enc : TypeId × Value → H} {W : World} {r : Reach} {b0 : Nat} {v : Value} {d : DataW H} {p : List MemPlace}
    (hv : Value.okWide Tryd.prog W r b0 49 v) (h : DataW.Trod enc Tryd.prog W 0 (fun _ => true) true 49 v d p) :
    ∃ g k n m : Int, v = .agg #[.int .i64 g, .int .i64 k, .int .i64 n, .int .i64 m] := by
  obtain ⟨cs, rfl, hsz⟩ := okWide_struct Tryd.underlying49 hv
  obtain ⟨l⟩ := cs
  rw [cells_meta] at hsz
  match l, hsz with
  | [c0, c1, c2, c3], _ =>
    obtain ⟨fuel, hf⟩ := h
    obtain ⟨xs, n, _, _, _, hxl, hg⟩ := DataW.trod_struct Tryd.underlying49 hf
    match xs, hxl with
    | [y0, y1, y2, y3], _ =>
      have h0 : DataW.trod enc Tryd.prog W 0 (fun _ => true) true n 3 ((([c0, c1, c2, c3]).drop 0).take (Tryd.prog.cellsOf 3)) = some y0 := hg 0 _ rfl
      have h1 : DataW.trod enc Tryd.prog W 0 (fun _ => true) true n 3 ((([c0, c1, c2, c3]).drop 1).take (Tryd.prog.cellsOf 3)) = some y1 := hg 1 _ rfl
      have h2 : DataW.trod enc Tryd.prog W 0 (fun _ => true) true n 3 ((([c0, c1, c2, c3]).drop 2).take (Tryd.prog.cellsOf 3)) = some y2 := hg 2 _ rfl
      have h3 : DataW.trod enc Tryd.prog W 0 (fun _ => true) true n 3 ((([c0, c1, c2, c3]).drop 3).take (Tryd.prog.cellsOf 3)) = some y3 := hg 3 _ rfl
      rw [cells_int] at h0 h1 h2 h3
      obtain ⟨k0, e0, _, _⟩ := DataW.trod_int Tryd.underlying3 h0
      obtain ⟨k1, e1, _, _⟩ := DataW.trod_int Tryd.underlying3 h1
      obtain ⟨k2, e2, _, _⟩ := DataW.trod_int Tryd.underlying3 h2
      obtain ⟨k3, e3, _, _⟩ := DataW.trod_int Tryd.underlying3 h3
      simp only [List.drop, List.take, List.cons.injEq, and_true] at e0 e1 e2 e3
      subst e0 e1 e2 e3
      exact ⟨_, _, _, _, rfl⟩

theorem u32_of_wf {x : Int} (h : (Lit.int .u32 x).wf = true) : 0 ≤ x ∧ x < 4294967296 := by
  have h1 : IntKind.u32.min = 0 := rfl
  have h2 : IntKind.u32.max = 4294967295 := rfl
  simp only [Lit.wf, Bool.and_eq_true, decide_eq_true_eq] at h
  omega
theorem int_of_read {H : Type} {enc : TypeId × Value → H} {P : Program} {w : World} {base : Nat} {sp : Nat → Bool} {held : Bool} {fuel : Nat} {t : TypeId} {k : IntKind} {c : Value} {y : DataW H × List MemPlace}
    (ht : P.underlying t = some (.int k)) (h : DataW.trod enc P w base sp held fuel t [c] = some y) : ∃ n, c = .int k n ∧ y.1 = .lit (.int k n) := by
  cases fuel with
  | zero => simp [DataW.trod] at h
  | succ fuel =>
    cases c <;> simp [DataW.trod, ht] at h
    rename_i k' n
    obtain ⟨⟨rfl, _⟩, rfl⟩ := h
    exact ⟨n, rfl, rfl⟩

theorem lit_u32 {a b : Int} (h : (DataW.lit (.int .u32 a) : DataW Unit) = .lit (.int .u32 b)) : a = b := by
  injection h with h
  injection h

theorem tab_of_laid {W : World} (h : laidMetH Tryd.prog [("cobweb/page.turns", Rows.laid_cobweb_page_turns)] W) : Tab W := by
  have h' : laidMet Tryd.prog [("cobweb/page.turns", Rows.laid_cobweb_page_turns)] W := h
  obtain ⟨ps, ⟨g, t, cs, fuel, p, q, hg, ht, hvar, hd, _, _⟩, _⟩ := h'
  obtain rfl := Option.some.inj (gTurns.symm.trans hg)
  obtain rfl := Option.some.inj (gType.symm.trans ht)
  obtain ⟨xs, m, _, hx, hlen, hxl, hget⟩ := DataW.trod_array Tryd.underlying127 hd
  rw [cells16] at hlen
  simp only [Prod.mk.injEq] at hx
  have hxs := hx.1
  rw [cellsU32] at hget
  simp only [Nat.mul_one] at hget
  have hmap : xs.map (·.1) = (List.range 16).map fun j => .lit (.int .u32 (crcI 4 j : Nat)) := by
    unfold Rows.laid_cobweb_page_turns at hxs
    injection hxs with hxs
    exact hxs.symm
  have hcell : ∀ i, i < 16 → ∀ n : Int, (xs.map (·.1))[i]? = some (.lit (.int .u32 n)) → cs.toList[i]? = some (.int .u32 n) := by
    intro i hi n hn
    have hil : i < cs.toList.length := by omega
    have h1 := hget i hi
    rw [List.drop_eq_getElem_cons hil, List.take_succ_cons, List.take_zero] at h1
    have hix : i < xs.length := by omega
    rw [List.getElem?_eq_getElem hix] at h1
    obtain ⟨k, hk, hy⟩ := int_of_read Tryd.underlying119 h1
    rw [List.getElem?_map, List.getElem?_eq_getElem hix, Option.map_some, Option.some.injEq, hy] at hn
    rw [List.getElem?_eq_getElem hil, hk, lit_u32 hn]
  have hcs : cs = turnC := by
    apply Array.ext'
    apply List.ext_getElem?
    intro i
    rcases Nat.lt_or_ge i 16 with hi | hi
    · have h1 := turnC_at hi
      have h2 : turnC.toList[i]? = some (.int .u32 (crcI 4 i : Nat)) := by rw [← h1]; simp
      rw [h2]
      refine hcell i hi _ ?_
      rw [hmap, List.getElem?_map, List.getElem?_range hi]
      rfl
    · rw [List.getElem?_eq_none (by omega), List.getElem?_eq_none (by show 16 ≤ i; exact hi)]
  subst hcs
  unfold World.var? at hvar
  rw [gTurns, Option.bind_some] at hvar
  split at hvar
  · rename_i cs' t' fr' hh
    obtain rfl := Option.some.inj hvar
    exact ⟨_, _, hh⟩
  · cases hvar

/-- A world that meets the condition: the settled one, the variable's cells laid. -/
noncomputable def laidWorld (os : Os) : World :=
  { World.holding Tryd.prog os ⟨#[], #[], []⟩ with heap := (World.holding Tryd.prog os ⟨#[], #[], []⟩).heap.modify 0 fun
      | .cells _ t frozen => .cells turnC t frozen
      | o => o }
theorem laidWorld_row (os : Os) (args : Array Value) : ((laidWorld os).forCall (fun _ _ => 0) ⟨#[], args, []⟩).memory.heap[0]? = some (.cells turnC 127 (0, 0)) := by kernel_rfl
theorem laidWorld_met (os : Os) (args : Array Value) : laidMetH Tryd.prog [("cobweb/page.turns", Rows.laid_cobweb_page_turns)] ((laidWorld os).forCall (fun _ _ => 0) ⟨#[], args, []⟩).memory := by
  show laidMet _ _ _
  refine ⟨_, ⟨0, 127, turnC, 8, [], [], gTurns, gType, by kernel_rfl, by kernel_rfl, rfl, rfl⟩, by decide, fun b off h => ?_⟩
  have h' : MemPlace.cell b off ∈ (List.range 16).map (MemPlace.cell 0) := h
  obtain ⟨i, hi, he⟩ := List.mem_map.1 h'
  have hi := List.mem_range.1 hi
  injection he with hb ho
  subst hb ho
  refine ⟨⟨_, _, laidWorld_row os args⟩, fun u v hc => ?_⟩
  simp only [World.cell?, laidWorld_row os args] at hc
  rw [turnC_at hi] at hc
  injection hc with hc
  cases hc

end Go.Proofs.YtmlnpgbnbchbkaaDoor

set_option linter.unusedVariables false
set_option maxRecDepth 100000
namespace Go.Proofs.YtmlnpgbnbchbkaaDoor
open Go.ChangeShapes Go.WideShapes Go.ChangeAt Go.RowKit

structure KsOk (w : World) (q : Option Addr) (m c : Nat) (l : List Int) : Prop where
  hn : m = l.length
  h1 : m ≤ c
  h2 : c ≤ 9223372036854775807
  hl : Ks w q l

theorem KsOk.below {w w' : World} {q : Option Addr} {m c : Nat} {l : List Int} (h : KsOk w q m c l) (hb : Below w.heap.size w w') : KsOk w' q m c l := ⟨h.hn, h.h1, h.h2, h.hl.below hb⟩
theorem cells_one : Tryd.prog.cellsOf 3 = 1 := by kernel_rfl

theorem open_keep {H : Type} {enc : TypeId × Value → H} {W : World} {fuel : Nat} {cs : List Value} {x : DataW H × List MemPlace}
    (h : DataW.trod enc Tryd.prog W 0 (fun _ => true) true fuel 23 cs = some x) : ∃ (q : Option Addr) (m c : Nat) (l : List Int), cs = [.slice q m c] ∧ KsOk W q m c l := by
  rcases Deep.open_slice Tryd.underlying23 h with ⟨hcs, _⟩ | ⟨a, len, cap, m, n, D, Pl, hcs, _, hl, hm, hmm, hx, hi⟩
  · exact ⟨none, 0, 0, [], hcs, rfl, by omega, by omega, fun h => absurd rfl h⟩
  · simp only [if_true] at hmm
    obtain rfl := hmm
    have hcell : ∀ i, i < len → ∃ t : Int, W.cells? 0 (a.add (i * 1)) 1 = some [.int .i64 t] := by
      intro i hil
      obtain ⟨cs', h1, h2⟩ := hi i (by omega)
      obtain ⟨s, e0, _, w0⟩ := DataW.trod_int Tryd.underlying3 h2
      rw [cells_one, e0] at h1
      exact ⟨s, h1⟩
    obtain ⟨F, hF⟩ := Deep.choose_lt hcell
    unfold maxLen at hm
    refine ⟨some a, len, m, (List.range len).map F, hcs, by simp, hl, by omega, ?_⟩
    intro hne
    have h0 : 0 < len := by
      rcases Nat.eq_zero_or_pos len with h | h
      · subst h; simp at hne
      · exact h
    obtain ⟨b, o, s⟩ := a
    have hs : s = none := by
      obtain ⟨_, _, hc⟩ := World.cells?_some (hF 0 h0)
      have := World.cell?_spot ((hc 0 (by omega)).trans rfl)
      simpa [Addr.add] using this
    subst hs
    refine ⟨b, o, rfl, fun i t hit => ?_⟩
    rw [List.getElem?_map] at hit
    have hil : i < len := by
      rcases Nat.lt_or_ge i len with h | h
      · exact h
      · rw [List.getElem?_eq_none (by simpa using h)] at hit
        cases hit
    rw [List.getElem?_eq_getElem (by simpa using hil)] at hit
    simp only [List.getElem_range, Option.map_some, Option.some.injEq] at hit
    subst hit
    obtain ⟨_, _, hc⟩ := World.cells?_some (hF i hil)
    have c0 := hc 0 (by omega)
    rw [Deep.add_add, add_plain, Nat.mul_one, Nat.add_zero] at c0
    exact c0

end Go.Proofs.YtmlnpgbnbchbkaaDoor

set_option linter.unusedVariables false
set_option maxRecDepth 100000
namespace Go.Proofs.YtmlnpgbnbchbkaaDoor
open Go.ChangeShapes Go.WideShapes Go.ChangeAt Go.RowKit

/-- Bytes that lie somewhere. -/
structure Bl where
  q : Option Addr
  c : Nat
  l : List UInt8
structure Bl.Ok (w : World) (x : Bl) : Prop where
  bs : Bs w x.q x.l
  h1 : x.l.length ≤ x.c
  h2 : x.c ≤ 9223372036854775807

/-- A call. -/
structure GA where
  kind : Int
  k : Int
  b : Bl

def GA.cells (a : GA) : List Value := [.int .i64 a.kind, .int .i64 a.k, .slice a.b.q a.b.l.length a.b.c]
structure GA.Ok (w : World) (a : GA) : Prop where
  k1 : -9223372036854775808 ≤ a.k
  k2 : a.k ≤ 9223372036854775807
  b : a.b.Ok w
  b0 : a.b.q = none → a.b.c = 0

structure GAsOk (w : World) (q : Option Addr) (m c : Nat) (l : List GA) : Prop where
  hn : m = l.length
  h1 : m ≤ c
  h2 : c ≤ 9223372036854775807
  hl : l ≠ [] → ∃ b o, q = some ⟨b, o, none⟩ ∧ ∀ i x, l[i]? = some x → ∀ j v, x.cells[j]? = some v → w.cell? ⟨b, o + i * 3 + j, none⟩ = some v
  ok : ∀ x ∈ l, x.Ok w

theorem cells_bytes : Tryd.prog.cellsOf 37 = 1 := by kernel_rfl
theorem cells_act : Tryd.prog.cellsOf 39 = 3 := by kernel_rfl

theorem bl_zero {H : Type} {enc : TypeId × Value → H} {W : World} {fuel : Nat} {cs : List Value} {x : DataW H × List MemPlace}
    (h : DataW.trod enc Tryd.prog W 0 (fun _ => true) true fuel 37 cs = some x) : ∃ b : Bl, b.Ok W ∧ (b.q = none → b.c = 0) ∧ cs = [.slice b.q b.l.length b.c] := by
  rcases Deep.open_slice Tryd.underlying37 h with ⟨hcs, _⟩ | ⟨a, len, cap, m, n, D, Pl, hcs, _⟩
  · exact ⟨⟨none, 0, []⟩, ⟨Bs.nil _ _, Nat.le_refl _, by show 0 ≤ _; omega⟩, fun _ => rfl, hcs⟩
  · subst hcs
    obtain ⟨l, hn, h1, h2, h3, _⟩ := opened (a0 := some a) (len := len) (cap := cap) (d0 := x.1) (p := x.2) ⟨fuel, h⟩
    subst hn
    exact ⟨⟨some a, cap, l⟩, ⟨h3, h1, h2⟩, (fun h => by cases h), rfl⟩

theorem open_act {H : Type} {enc : TypeId × Value → H} {W : World} {fuel : Nat} {cs : List Value} {x : DataW H × List MemPlace}
    (h : DataW.trod enc Tryd.prog W 0 (fun _ => true) true fuel 39 cs = some x) : ∃ a : GA, a.Ok W ∧ cs = a.cells := by
  obtain ⟨xs, n, _, _, hlen, hxl, hg⟩ := DataW.trod_struct Tryd.underlying39 h
  rw [cells_act] at hlen
  match cs, hlen with
  | [c0, c1, c2], _ =>
    match xs, hxl with
    | [y0, y1, y2], _ =>
      have h0 : DataW.trod enc Tryd.prog W 0 (fun _ => true) true n 3 ((([c0, c1, c2]).drop 0).take (Tryd.prog.cellsOf 3)) = some y0 := hg 0 _ rfl
      have h1 : DataW.trod enc Tryd.prog W 0 (fun _ => true) true n 3 ((([c0, c1, c2]).drop 1).take (Tryd.prog.cellsOf 3)) = some y1 := hg 1 _ rfl
      have h2 : DataW.trod enc Tryd.prog W 0 (fun _ => true) true n 37 ((([c0, c1, c2]).drop 2).take (Tryd.prog.cellsOf 37)) = some y2 := hg 2 _ rfl
      rw [cells_one] at h0 h1
      rw [cells_bytes] at h2
      obtain ⟨s0, e0, _, w0⟩ := DataW.trod_int Tryd.underlying3 h0
      obtain ⟨s1, e1, _, w1⟩ := DataW.trod_int Tryd.underlying3 h1
      obtain ⟨b, hb, hb0, e2⟩ := bl_zero h2
      simp only [List.drop, List.take, List.cons.injEq, and_true] at e0 e1 e2
      subst e0 e1 e2
      have b1 := i64_bounds w1
      exact ⟨⟨s0, s1, b⟩, ⟨b1.1, b1.2, hb, hb0⟩, rfl⟩

theorem open_acts {H : Type} {enc : TypeId × Value → H} {W : World} {fuel : Nat} {cs : List Value} {x : DataW H × List MemPlace}
    (h : DataW.trod enc Tryd.prog W 0 (fun _ => true) true fuel 22 cs = some x) : ∃ (q : Option Addr) (m c : Nat) (l : List GA), cs = [.slice q m c] ∧ GAsOk W q m c l := by
  rcases Deep.open_slice Tryd.underlying22 h with ⟨hcs, _⟩ | ⟨a, len, cap, m, n, D, Pl, hcs, _, hl, hm, hmm, hx, hi⟩
  · exact ⟨none, 0, 0, [], hcs, rfl, by omega, by omega, fun h => absurd rfl h, by simp⟩
  · simp only [if_true] at hmm
    obtain rfl := hmm
    have hcell : ∀ i, i < len → ∃ t : GA, t.Ok W ∧ W.cells? 0 (a.add (i * 3)) 3 = some t.cells := by
      intro i hil
      obtain ⟨cs', h1, h2⟩ := hi i (by omega)
      obtain ⟨t, ht, e⟩ := open_act h2
      rw [cells_act, e] at h1
      exact ⟨t, ht, h1⟩
    haveI : Inhabited GA := ⟨⟨0, 0, ⟨none, 0, []⟩⟩⟩
    obtain ⟨F, hF⟩ := Deep.choose_lt hcell
    unfold maxLen at hm
    refine ⟨some a, len, m, (List.range len).map F, hcs, by simp, hl, by omega, ?_, ?_⟩
    · intro hne
      have h0 : 0 < len := by
        rcases Nat.eq_zero_or_pos len with h | h
        · subst h; simp at hne
        · exact h
      obtain ⟨b, o, s⟩ := a
      have hs : s = none := by
        obtain ⟨_, _, hc⟩ := World.cells?_some (hF 0 h0).2
        have := World.cell?_spot ((hc 0 (by omega)).trans rfl)
        simpa [Addr.add] using this
      subst hs
      refine ⟨b, o, rfl, fun i t hit j v hj => ?_⟩
      rw [List.getElem?_map] at hit
      have hil : i < len := by
        rcases Nat.lt_or_ge i len with h | h
        · exact h
        · rw [List.getElem?_eq_none (by simpa using h)] at hit
          cases hit
      rw [List.getElem?_eq_getElem (by simpa using hil)] at hit
      simp only [List.getElem_range, Option.map_some, Option.some.injEq] at hit
      subst hit
      obtain ⟨_, _, hc⟩ := World.cells?_some (hF i hil).2
      have hj3 : j < 3 := (List.getElem?_eq_some_iff.1 hj).1
      have cj := hc j hj3
      rw [Deep.add_add, add_plain] at cj
      rw [Nat.add_assoc]
      exact cj.trans hj
    · intro t ht
      obtain ⟨i, hi2, rfl⟩ := List.mem_map.1 ht
      exact (hF i (List.mem_range.1 hi2)).1

end Go.Proofs.YtmlnpgbnbchbkaaDoor

set_option linter.unusedVariables false
set_option maxRecDepth 100000
namespace Go.Proofs.YtmlnpgbnbchbkaaDoor
open Go.RowKit

/-- At the loop's head. -/
structure PH (w wr : World) (N : Int) (P p B bd bn i : Nat) (X : PG) (done now : HS) (qs : List HS) (vp vg : Value) (gens : List Int) : Prop where
  c : HC w wr P p N i X done.ps now.ps (qs.map HS.ps) gens done.r
  h : HM wr B bd bn done now qs vp vg gens
  b : w.heap.size ≤ B ∧ w.heap.size ≤ bd ∧ w.heap.size ≤ bn
  l : now.ps.length ≤ i ∧ done.ps.length ≤ i ∧ gens.length ≤ i
def PHE (w wr : World) (N : Int) (P p B bd bn i : Nat) (vp vg : Value) : Prop := ∃ X done now qs gens, PH w wr N P p B bd bn i X done now qs vp vg gens

theorem set3_row {w : World} {g : Nat} {a b c x y z : Value} {t : TypeId} (h : w.heap[g]? = some (.cells #[a, b, c] t (0, 0))) : ((w.setCell ⟨g, 0, none⟩ x).setCell ⟨g, 1, none⟩ y).setCell ⟨g, 2, none⟩ z = w.setRow g #[x, y, z] := by
  unfold World.setCell World.setRow
  dsimp only
  congr 1
  apply Array.ext_getElem?
  intro k
  by_cases hk : g = k
  · subst hk
    simp [Array.getElem?_modify, h]
  · simp [Array.getElem?_modify, hk]
theorem set2_row {w : World} {g : Nat} {a b c x y : Value} {t : TypeId} (h : w.heap[g]? = some (.cells #[a, b, c] t (0, 0))) : (w.setCell ⟨g, 0, none⟩ x).setCell ⟨g, 1, none⟩ y = w.setRow g #[x, y, c] ∧ (w.setCell ⟨g, 1, none⟩ y).setCell ⟨g, 0, none⟩ x = w.setRow g #[x, y, c] := by
  constructor
  all_goals
    unfold World.setCell World.setRow
    dsimp only
    congr 1
    apply Array.ext_getElem?
    intro k
    by_cases hk : g = k
    · subst hk
      simp [Array.getElem?_modify, h]
    · simp [Array.getElem?_modify, hk]
theorem set1_row {w : World} {g : Nat} {a b c z : Value} {t : TypeId} (h : w.heap[g]? = some (.cells #[a, b, c] t (0, 0))) : w.setCell ⟨g, 2, none⟩ z = w.setRow g #[a, b, z] := by
  unfold World.setCell World.setRow
  dsimp only
  congr 1
  apply Array.ext_getElem?
  intro k
  by_cases hk : g = k
  · subst hk
    simp [Array.getElem?_modify, h]
  · simp [Array.getElem?_modify, hk]

theorem state_off : 35 ∉ grTypes := by decide
theorem str_off : 9 ∉ grTypes := by decide
theorem HC.box {w wr : World} {P p : Nat} {N : Int} {i : Nat} {X : PG} {done now : List Page} {pins : List (List Page)} {gens : List Int} {rd : Int} (h : HC w wr P p N i X done now pins gens rd) {b : Nat} {c : Array Value} {f : Nat × Nat} (hb : wr.heap[b]? = some (.cells c 35 f)) (hw : w.heap.size ≤ b) (cs : Array Value) : HC w (wr.setRow b cs) P p N i X done now pins gens rd := by
  obtain ⟨lm, fm, pl, um, wm, la, vv, hI⟩ := h.m.at_
  have hk : Keeps (isTy 35) wr (wr.setRow b cs) := Keeps.grown (grown_setRow wr b cs) fun b' o hb' ho' => by
    obtain rfl : b = b' := Option.some.inj hb'
    rw [hb] at ho'
    cases ho'
    simp [isTy]
  exact ⟨⟨⟨lm, fm, pl, um, wm, la, vv, hI.types hk (isTy_off state_off) (fun _ _ _ => rfl)⟩, h.m.below.grown (grown_setRow wr b cs) h.m.below.size fun k hk' => by have := Option.some.inj hk'; omega⟩, h.v, h.b, h.r, h.z⟩

section
variable {w wr : World} {N : Int} {P p B bd bn i : Nat} {X : PG} {done now : HS} {qs : List HS} {vp vg : Value} {gens : List Int}
theorem PH.later (h : PH w wr N P p B bd bn i X done now qs vp vg gens) {w' : World} (hb : Below wr.heap.size wr w') : PH w w' N P p B bd bn i X done now qs vp vg gens := ⟨h.c.on hb, h.h.below hb, h.b, h.l⟩
theorem PH.up (h : PH w wr N P p B bd bn i X done now qs vp vg gens) : PH w wr N P p B bd bn (i + 1) X done now qs vp vg gens :=
  ⟨⟨h.c.m, h.c.v, h.c.b.up, h.c.r, h.c.z⟩, h.h, h.b, by have := h.l; omega⟩
/-- A call that leaves the states. -/
theorem PH.call (h : PH w wr N P p B bd bn i X done now qs vp vg gens) {w' : World} {Y : PG} (hk : Keeps ofGr wr w') (hs : wr.heap.size ≤ w'.heap.size) (hc : HC w w' P p N (i + 1) Y done.ps now.ps (qs.map HS.ps) gens done.r) : PH w w' N P p B bd bn (i + 1) Y done now qs vp vg gens :=
  ⟨hc, h.h.keepsG hk hs, h.b, by have := h.l; omega⟩
/-- A call, behind which another state is now. -/
theorem PH.callNow (h : PH w wr N P p B bd bn i X done now qs vp vg gens) {w' w2 : World} {Y : PG} {s : HS} (hk : Keeps ofGr wr w') (hb : Below w'.heap.size w' w2) (hc : HC w w' P p N (i + 1) Y done.ps s.ps (qs.map HS.ps) gens done.r)
    (hs2 : s.At w2 B) (o1 : Off done.v1 s.v1 ∧ Off done.v2 s.v2) (o2 : ∀ q ∈ qs, Off q.v1 s.v1 ∧ Off q.v2 s.v2) (o3 : Off s.v1 vg ∧ Off vg s.v1) (hl : s.ps.length ≤ i + 1) : PH w (w2.setRow bn s.cells.toArray) N P p B bd bn (i + 1) Y done s qs vp vg gens := by
  have hm := (h.h.keepsG hk hk.size).below hb
  exact ⟨(hc.on hb).box hm.hn h.b.2.2 _, hm.setNow hs2 o1 o2 o3, h.b, by have := h.l; omega⟩
/-- A call, behind which another state is done. -/
theorem PH.callDone (h : PH w wr N P p B bd bn i X done now qs vp vg gens) {w' w2 : World} {Y : PG} {s : HS} (hk : Keeps ofGr wr w') (hb : Below w'.heap.size w' w2) (hc : HC w w' P p N (i + 1) Y s.ps now.ps (qs.map HS.ps) gens s.r)
    (hs2 : s.At w2 B) (o1 : Off s.v1 now.v1 ∧ Off s.v2 now.v2 ∧ Off s.v1 vg) (hl : s.ps.length ≤ i + 1) : PH w (w2.setRow bd s.cells.toArray) N P p B bd bn (i + 1) Y s now qs vp vg gens := by
  have hm := (h.h.keepsG hk hk.size).below hb
  exact ⟨(hc.on hb).box hm.hd h.b.2.1 _, hm.setDone hs2 o1, h.b, by have := h.l; omega⟩
theorem PH.boxes (h : PH w wr N P p B bd bn i X done now qs vp vg gens) : (wr.cell? ⟨bd, 0, none⟩ = some done.v1 ∧ wr.cell? ⟨bd, 1, none⟩ = some done.v2 ∧ wr.cell? ⟨bd, 2, none⟩ = some (.int .i64 done.r)) ∧ (wr.cell? ⟨bn, 0, none⟩ = some now.v1 ∧ wr.cell? ⟨bn, 1, none⟩ = some now.v2 ∧ wr.cell? ⟨bn, 2, none⟩ = some (.int .i64 now.r)) ∧ bd < wr.heap.size ∧ bn < wr.heap.size :=
  ⟨⟨(Joins.cell_of_block h.h.hd 0).trans rfl, (Joins.cell_of_block h.h.hd 1).trans rfl, (Joins.cell_of_block h.h.hd 2).trans rfl⟩, ⟨(Joins.cell_of_block h.h.hn 0).trans rfl, (Joins.cell_of_block h.h.hn 1).trans rfl, (Joins.cell_of_block h.h.hn 2).trans rfl⟩, (Array.getElem?_eq_some_iff.1 h.h.hd).1, (Array.getElem?_eq_some_iff.1 h.h.hn).1⟩
end

/-- Another root is written. -/
theorem PH.root {w wr : World} {N : Int} {P p B bd bn i : Nat} {X : PG} {done now : HS} {qs : List HS} {vp vg : Value} {gens : List Int} (h : PH w wr N P p B bd bn i X done now qs vp vg gens) (r : Int) : PH w (wr.setRow bn #[now.v1, now.v2, .int .i64 r]) N P p B bd bn i X done ⟨now.v1, now.v2, r, now.ps⟩ qs vp vg gens :=
  ⟨h.c.box h.h.hn h.b.2.2 _, h.h.setNow (s := ⟨now.v1, now.v2, r, now.ps⟩) h.h.an ⟨h.h.od.1, h.h.od.2.1⟩ (fun q hq => ⟨(h.h.oq q hq).1, (h.h.oq q hq).2.1⟩) ⟨h.h.on, h.h.og⟩, h.b, h.l⟩
theorem row3_form {w : World} {B s n : Nat} {e : TypeId} {v : Value} {xs : List Value} (h : w.ownsRow B e s v n xs) : ∃ q c, v = .slice q n c ∧ n ≤ c ∧ c ≤ 9223372036854775807 ∧ ∀ j u, xs[j]? = some u → ∃ b, q = some ⟨b, 0, none⟩ ∧ b < w.heap.size ∧ w.cell? ⟨b, j, none⟩ = some u := by
  rcases h.2 with ⟨rfl, h0⟩ | ⟨g, cap, cur, rfl, hb, hg, hnc, hcm, hcs, htake⟩
  · subst h0
    have hx : xs = [] := List.eq_nil_of_length_eq_zero (by have := h.1; simpa using this)
    subst hx
    exact ⟨none, 0, rfl, Nat.le_refl _, by omega, fun j u hj => by simp at hj⟩
  · refine ⟨some ⟨g, 0, none⟩, cap, rfl, hnc, by unfold maxLen at hcm; omega, fun j u hj => ⟨g, rfl, (Array.getElem?_eq_some_iff.1 hg).1, ?_⟩⟩
    have := h.cells (g := g) rfl j u hj
    rwa [Addr.add_lit, Nat.zero_add] at this
theorem flat3 : ∀ {qs : List HS} {k : Nat} {s : HS}, qs[k]? = some s → (qs.flatMap HS.cells)[k * 3]? = some s.v1 ∧ (qs.flatMap HS.cells)[k * 3 + 1]? = some s.v2 ∧ (qs.flatMap HS.cells)[k * 3 + 2]? = some (.int .i64 s.r)
  | [], k, s, h => by simp at h
  | a :: l, 0, s, h => by
    obtain rfl := Option.some.inj (by simpa using h)
    simp [HS.cells]
  | a :: l, k + 1, s, h => by
    obtain ⟨h1, h2, h3⟩ := flat3 (qs := l) (k := k) (s := s) (by simpa using h)
    rw [show (k + 1) * 3 = k * 3 + 3 by omega]
    refine ⟨?_, ?_, ?_⟩ <;> simp only [List.flatMap_cons, HS.cells, List.cons_append, List.nil_append] <;> assumption

end Go.Proofs.YtmlnpgbnbchbkaaDoor

set_option linter.unusedVariables false
set_option maxRecDepth 100000
namespace Go.Proofs.YtmlnpgbnbchbkaaDoor
open Go.RowKit

theorem run_app_where {P : Program} (w : World) (base : Nat) (t ty e : TypeId) (i : TypeInfo) (z : Value) (size bytes : Nat) (ht : P.underlying t = some (.slice e)) (hi : P.info? e = some i) (hz : i.zero = some z)
    (hsize : i.size = size) (hby : i.bytes = bytes) (hzs : z.cells.size = size) (hsz : 0 < size)
    (v : Value) (n : Nat) (xs : List Value) (hown : w.ownsRow base e size v n xs)
    (a : Addr) (m c : Nat) (news : List Value) (hl : news.length = m * size) (hnews : ∀ j u, news[j]? = some u → w.cell? (a.add j) = some u) (h1 : ∀ u ∈ news, u.oneCell' = true)
    (h63 : n + m ≤ maxLen) (hbytes : (n + m) * bytes ≤ 140737488355328) {v' : Value} {w' : World} (hrun : (Builtin.append_ #[t, t] ty #[v, .slice (some a) m c]).run P w = .ok v' w') :
    v'.ownBlock = v.ownBlock ∨ v'.ownBlock = some w.heap.size := by
  subst hsize
  subst hby
  have hsmall : n + m ≤ 9223372036854775807 := by simp only [maxLen] at h63; omega
  rcases hown.2 with ⟨rfl, rfl⟩ | ⟨g, cap, cur, rfl, hbg, hg, hnc, hcm, hcs, htake⟩
  · by_cases hm : m = 0
    · subst hm
      have hn : news = [] := List.eq_nil_of_length_eq_zero (by simpa using hl)
      subst hn
      have hr : (Builtin.append_ #[t, t] ty #[.slice none 0 0, .slice (some a) 0 c]).run P w = .ok (.slice none 0 0) w := by
        simp [Builtin.append_, run_underlying ht, sizeOf, typeInfo, hi, Builtin.lenOf, Builtin.firstCells, loadCells, loadCellsFrom]
      rw [hr] at hrun
      cases hrun
      exact .inl rfl
    · have hr := run_append_nil (P := P) w t ty e i z ht hi hz a m c news hl hnews (by omega) (by omega) (by have hb := hbytes; simp only [Nat.zero_add] at hb; omega)
      rw [hr] at hrun
      cases hrun
      exact .inr rfl
  · by_cases hroom : n + m ≤ cap
    · have hfit : n * i.size + news.length ≤ cur.size := by rw [hl, hcs, ← Nat.add_mul]; exact Nat.mul_le_mul_right _ hroom
      have hr := run_append_room (P := P) w t ty e i ht hi g n cap cur hg a m c news hl hnews h1 hroom hfit
      rw [hr] at hrun
      cases hrun
      exact .inl rfl
    · have holds : ∀ j u, xs[j]? = some u → w.cell? ((⟨g, 0, none⟩ : Addr).add j) = some u := hown.cells (g := g) rfl
      have hr := run_append_grow (P := P) w t ty e i z ht hi hz ⟨g, 0, none⟩ n cap xs hown.1 holds a m c news hl hnews (by omega) (by omega) (growslice_fits (by omega) hbytes)
      rw [hr] at hrun
      cases hrun
      exact .inr rfl

theorem off_app {w : World} {B n : Nat} {e : TypeId} {s : Nat} {z v v' : Value} {xs : List Value} (hz : w.ownsRow B e s z n xs) (ho : Off z v) (hn : v'.ownBlock = v.ownBlock ∨ v'.ownBlock = some w.heap.size) : Off z v' := by
  unfold Off at *
  rcases hn with h | h
  · rw [h]; exact ho
  · cases hb : z.ownBlock with
    | none => exact .inl rfl
    | some k =>
      have := (World.ownsRow.lt hz k hb).2
      rw [h]
      exact .inr fun e => by have := Option.some.inj e; omega
theorem off_app' {w : World} {B n : Nat} {e : TypeId} {s : Nat} {z v v' : Value} {xs : List Value} (hz : w.ownsRow B e s z n xs) (ho : Off v z) (hn : v'.ownBlock = v.ownBlock ∨ v'.ownBlock = some w.heap.size) : Off v' z := by
  unfold Off at *
  rcases hn with h | h
  · rw [h]; exact ho
  · rw [h]
    refine .inr fun e => ?_
    have := (World.ownsRow.lt hz _ e.symm).2
    omega

end Go.Proofs.YtmlnpgbnbchbkaaDoor

