/-
  How the arguments of layer 8's laws open; the rows' condition on page.turns: what it gives a walk; a world that meets it.
-/
import Derived.Test.YtbbgdbnjmonbgabGreatDoorRow
import Derived.Test.YtbbgdbnjmonbgabGreatDoorPgSum
import Derived.Test.YtbbgdbnjmonbgabGreatDoorTie
import Derived.ChangeSame
import Derived.ChangeVars
set_option linter.unusedVariables false
set_option maxRecDepth 100000
namespace Go.Proofs.YtbbgdbnjmonbgabGreatDoor
open Go.ChangeShapes Go.WideShapes Go.ChangeAt Go.RowKit

theorem gTurns : Tryz.prog.globalNamed "cobweb/page.turns" = some 2 := by kernel_rfl
theorem gType : (Tryz.prog.globals[2]?).map (·.type) = some 406 := by kernel_rfl
theorem cellsU32 : Tryz.prog.cellsOf 286 = 1 := by kernel_rfl
theorem cells16 : Tryz.prog.cellsOf 406 = 16 := by kernel_rfl
theorem cells_meta : Tryz.prog.cellsOf 293 = 4 := by kernel_rfl
theorem open_meta {H : Type} {enc : TypeId × Value → H} {W : World} {r : Reach} {b0 : Nat} {v : Value} {d : DataW H} {p : List MemPlace}
    (hv : Value.okWide Tryz.prog W r b0 293 v) (h : DataW.Trod enc Tryz.prog W 0 (fun _ => true) true 293 v d p) :
    ∃ g k n m : Int, v = .agg #[.int .i64 g, .int .i64 k, .int .i64 n, .int .i64 m] := by
  obtain ⟨cs, rfl, hsz⟩ := okWide_struct Tryz.underlying293 hv
  obtain ⟨l⟩ := cs
  rw [cells_meta] at hsz
  match l, hsz with
  | [c0, c1, c2, c3], _ =>
    obtain ⟨fuel, hf⟩ := h
    obtain ⟨xs, n, _, _, _, hxl, hg⟩ := DataW.trod_struct Tryz.underlying293 hf
    match xs, hxl with
    | [y0, y1, y2, y3], _ =>
      have h0 : DataW.trod enc Tryz.prog W 0 (fun _ => true) true n 3 ((([c0, c1, c2, c3]).drop 0).take (Tryz.prog.cellsOf 3)) = some y0 := hg 0 _ rfl
      have h1 : DataW.trod enc Tryz.prog W 0 (fun _ => true) true n 3 ((([c0, c1, c2, c3]).drop 1).take (Tryz.prog.cellsOf 3)) = some y1 := hg 1 _ rfl
      have h2 : DataW.trod enc Tryz.prog W 0 (fun _ => true) true n 3 ((([c0, c1, c2, c3]).drop 2).take (Tryz.prog.cellsOf 3)) = some y2 := hg 2 _ rfl
      have h3 : DataW.trod enc Tryz.prog W 0 (fun _ => true) true n 3 ((([c0, c1, c2, c3]).drop 3).take (Tryz.prog.cellsOf 3)) = some y3 := hg 3 _ rfl
      rw [cells_int] at h0 h1 h2 h3
      obtain ⟨k0, e0, _, _⟩ := DataW.trod_int Tryz.underlying3 h0
      obtain ⟨k1, e1, _, _⟩ := DataW.trod_int Tryz.underlying3 h1
      obtain ⟨k2, e2, _, _⟩ := DataW.trod_int Tryz.underlying3 h2
      obtain ⟨k3, e3, _, _⟩ := DataW.trod_int Tryz.underlying3 h3
      simp only [List.drop, List.take, List.cons.injEq, and_true] at e0 e1 e2 e3
      subst e0 e1 e2 e3
      exact ⟨_, _, _, _, rfl⟩

theorem u32_of_wf {x : Int} (h : (Lit.int .u32 x).wf = true) : 0 ≤ x ∧ x < 4294967296 := by
  have h1 : IntKind.u32.min = 0 := rfl
  have h2 : IntKind.u32.max = 4294967295 := rfl
  simp only [Lit.wf, Bool.and_eq_true, decide_eq_true_eq] at h
  omega
theorem int_of_read {H : Type} {enc : TypeId × Value → H} {P : Program} {w : World} {base : Nat} {sp : Nat → Bool} {held : Bool} {fuel : Nat} {t : TypeId} {k : IntKind} {c : Value} {y : DataW H × List MemPlace}
    (ht : P.underlying t = some (.int k)) (h : DataW.trod enc P w base sp held fuel t [c] = some y) : ∃ n, c = .int k n ∧ y.1 = .lit (.int k n) := by
  cases fuel with
  | zero => simp [DataW.trod] at h
  | succ fuel =>
    cases c <;> simp [DataW.trod, ht] at h
    rename_i k' n
    obtain ⟨⟨rfl, _⟩, rfl⟩ := h
    exact ⟨n, rfl, rfl⟩

theorem lit_u32 {a b : Int} (h : (DataW.lit (.int .u32 a) : DataW Unit) = .lit (.int .u32 b)) : a = b := by
  injection h with h
  injection h

theorem tab_of_laid {W : World} (h : laidMetH Tryz.prog [("cobweb/page.turns", Rows.laid_cobweb_page_turns)] W) : Tab W := by
  have h' : laidMet Tryz.prog [("cobweb/page.turns", Rows.laid_cobweb_page_turns)] W := h
  obtain ⟨ps, ⟨g, t, cs, fuel, p, q, hg, ht, hvar, hd, _, _⟩, _⟩ := h'
  obtain rfl := Option.some.inj (gTurns.symm.trans hg)
  obtain rfl := Option.some.inj (gType.symm.trans ht)
  obtain ⟨xs, m, _, hx, hlen, hxl, hget⟩ := DataW.trod_array Tryz.underlying406 hd
  rw [cells16] at hlen
  simp only [Prod.mk.injEq] at hx
  have hxs := hx.1
  rw [cellsU32] at hget
  simp only [Nat.mul_one] at hget
  have hmap : xs.map (·.1) = (List.range 16).map fun j => .lit (.int .u32 (crcI 4 j : Nat)) := by
    unfold Rows.laid_cobweb_page_turns at hxs
    injection hxs with hxs
    exact hxs.symm
  have hcell : ∀ i, i < 16 → ∀ n : Int, (xs.map (·.1))[i]? = some (.lit (.int .u32 n)) → cs.toList[i]? = some (.int .u32 n) := by
    intro i hi n hn
    have hil : i < cs.toList.length := by omega
    have h1 := hget i hi
    rw [List.drop_eq_getElem_cons hil, List.take_succ_cons, List.take_zero] at h1
    have hix : i < xs.length := by omega
    rw [List.getElem?_eq_getElem hix] at h1
    obtain ⟨k, hk, hy⟩ := int_of_read Tryz.underlying286 h1
    rw [List.getElem?_map, List.getElem?_eq_getElem hix, Option.map_some, Option.some.injEq, hy] at hn
    rw [List.getElem?_eq_getElem hil, hk, lit_u32 hn]
  have hcs : cs = turnC := by
    apply Array.ext'
    apply List.ext_getElem?
    intro i
    rcases Nat.lt_or_ge i 16 with hi | hi
    · have h1 := turnC_at hi
      have h2 : turnC.toList[i]? = some (.int .u32 (crcI 4 i : Nat)) := by rw [← h1]; simp
      rw [h2]
      refine hcell i hi _ ?_
      rw [hmap, List.getElem?_map, List.getElem?_range hi]
      rfl
    · rw [List.getElem?_eq_none (by omega), List.getElem?_eq_none (by show 16 ≤ i; exact hi)]
  subst hcs
  unfold World.var? at hvar
  rw [gTurns, Option.bind_some] at hvar
  split at hvar
  · rename_i cs' t' fr' hh
    obtain rfl := Option.some.inj hvar
    exact ⟨_, _, hh⟩
  · cases hvar

/-- A world that meets the condition: the settled one, the variable's cells laid. -/
noncomputable def laidWorld (os : Os) : World :=
  { World.holding Tryz.prog os ⟨#[], #[], []⟩ with heap := (World.holding Tryz.prog os ⟨#[], #[], []⟩).heap.modify 2 fun
      | .cells _ t frozen => .cells turnC t frozen
      | o => o }
theorem laidWorld_row (os : Os) (args : Array Value) : ((laidWorld os).forCall (fun _ _ => 0) ⟨#[], args, []⟩).memory.heap[2]? = some (.cells turnC 406 (0, 0)) := by kernel_rfl
theorem laidWorld_met (os : Os) (args : Array Value) : laidMetH Tryz.prog [("cobweb/page.turns", Rows.laid_cobweb_page_turns)] ((laidWorld os).forCall (fun _ _ => 0) ⟨#[], args, []⟩).memory := by
  show laidMet _ _ _
  refine ⟨_, ⟨2, 406, turnC, 8, [], [], gTurns, gType, by kernel_rfl, by kernel_rfl, rfl, rfl⟩, by decide, fun b off h => ?_⟩
  have h' : MemPlace.cell b off ∈ (List.range 16).map (MemPlace.cell 2) := h
  obtain ⟨i, hi, he⟩ := List.mem_map.1 h'
  have hi := List.mem_range.1 hi
  injection he with hb ho
  subst hb ho
  refine ⟨⟨_, _, laidWorld_row os args⟩, fun u v hc => ?_⟩
  simp only [World.cell?, laidWorld_row os args] at hc
  rw [turnC_at hi] at hc
  injection hc with hc
  cases hc

end Go.Proofs.YtbbgdbnjmonbgabGreatDoor
