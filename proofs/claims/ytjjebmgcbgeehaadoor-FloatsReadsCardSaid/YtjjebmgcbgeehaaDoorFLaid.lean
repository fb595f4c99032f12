/-
  The rows' condition on the table of digits: what it gives a walk; a world that meets it.
-/
import Derived.Test.YtjjebmgcbgeehaaDoorFRow
import Derived.Test.YtjjebmgcbgeehaaDoorFTab
import Derived.Test.YtjjebmgcbgeehaaDoorTie
import Derived.ChangeSame
import Derived.ChangeVars
set_option linter.unusedVariables false
namespace Go.Proofs.YtjjebmgcbgeehaaDoor
open Go.ChangeShapes Go.WideShapes Go.ChangeAt Go.RowKit

theorem gDigits : Tryd.prog.globalNamed "cobweb/floats.digits" = some 1 := by kernel_rfl
theorem gType : (Tryd.prog.globals[1]?).map (·.type) = some 48 := by kernel_rfl
theorem cellsU8 : Tryd.prog.cellsOf 5 = 1 := by kernel_rfl
theorem cells16 : Tryd.prog.cellsOf 48 = 16 := by kernel_rfl

theorem int_of_read {H : Type} {enc : TypeId × Value → H} {P : Program} {w : World} {base : Nat} {sp : Nat → Bool} {held : Bool} {fuel : Nat} {t : TypeId} {k : IntKind} {c : Value} {y : DataW H × List MemPlace}
    (ht : P.underlying t = some (.int k)) (h : DataW.trod enc P w base sp held fuel t [c] = some y) : ∃ n, c = .int k n ∧ y.1 = .lit (.int k n) := by
  cases fuel with
  | zero => simp [DataW.trod] at h
  | succ fuel =>
    cases c <;> simp [DataW.trod, ht] at h
    rename_i k' n
    obtain ⟨⟨rfl, _⟩, rfl⟩ := h
    exact ⟨n, rfl, rfl⟩

theorem lit_u8 {a b : Int} (h : (DataW.lit (.int .u8 a) : DataW Unit) = .lit (.int .u8 b)) : a = b := by
  injection h with h
  injection h

theorem tab_of_laid {W : World} (h : laidMetH Tryd.prog [("cobweb/floats.digits", Rows.laid_cobweb_floats_digits)] W) : Tab W := by
  have h' : laidMet Tryd.prog [("cobweb/floats.digits", Rows.laid_cobweb_floats_digits)] W := h
  obtain ⟨ps, ⟨g, t, cs, fuel, p, q, hg, ht, hvar, hd, _, _⟩, _⟩ := h'
  obtain rfl := Option.some.inj (gDigits.symm.trans hg)
  obtain rfl := Option.some.inj (gType.symm.trans ht)
  obtain ⟨xs, m, _, hx, hlen, hxl, hget⟩ := DataW.trod_array Tryd.underlying48 hd
  rw [cells16] at hlen
  simp only [Prod.mk.injEq] at hx
  have hxs := hx.1
  rw [cellsU8] at hget
  simp only [Nat.mul_one] at hget
  have hmap : xs.map (·.1) = [.lit (.int .u8 48), .lit (.int .u8 49), .lit (.int .u8 50), .lit (.int .u8 51), .lit (.int .u8 52), .lit (.int .u8 53), .lit (.int .u8 54), .lit (.int .u8 55), .lit (.int .u8 56), .lit (.int .u8 57), .lit (.int .u8 97), .lit (.int .u8 98), .lit (.int .u8 99), .lit (.int .u8 100), .lit (.int .u8 101), .lit (.int .u8 102)] := by
    unfold Rows.laid_cobweb_floats_digits at hxs
    injection hxs with hxs
    exact hxs.symm
  have hcell : ∀ i, i < 16 → ∀ n : Int, (xs.map (·.1))[i]? = some (.lit (.int .u8 n)) → cs.toList[i]? = some (.int .u8 n) := by
    intro i hi n hn
    have hil : i < cs.toList.length := by omega
    have h1 := hget i hi
    rw [List.drop_eq_getElem_cons hil, List.take_succ_cons, List.take_zero] at h1
    have hix : i < xs.length := by omega
    rw [List.getElem?_eq_getElem hix] at h1
    obtain ⟨k, hk, hy⟩ := int_of_read Tryd.underlying5 h1
    rw [List.getElem?_map, List.getElem?_eq_getElem hix, Option.map_some, Option.some.injEq, hy] at hn
    rw [List.getElem?_eq_getElem hil, hk, lit_u8 hn]
  have hcs : cs = tabC := by
    apply Array.ext'
    apply List.ext_getElem?
    intro i
    rcases Nat.lt_or_ge i 16 with hi | hi
    · have h1 := tab_at hi
      have h2 : tabC.toList[i]? = some (.int .u8 ((dgt i).toNat : Int)) := by rw [← h1]; simp
      rw [h2]
      refine hcell i hi _ ?_
      rw [hmap]
      have hc : i = 0 ∨ i = 1 ∨ i = 2 ∨ i = 3 ∨ i = 4 ∨ i = 5 ∨ i = 6 ∨ i = 7 ∨ i = 8 ∨ i = 9 ∨ i = 10 ∨ i = 11 ∨ i = 12 ∨ i = 13 ∨ i = 14 ∨ i = 15 := by omega
      rcases hc with rfl | rfl | rfl | rfl | rfl | rfl | rfl | rfl | rfl | rfl | rfl | rfl | rfl | rfl | rfl | rfl <;> rfl
    · rw [List.getElem?_eq_none (by omega), List.getElem?_eq_none (by show 16 ≤ i; exact hi)]
  subst hcs
  unfold World.var? at hvar
  rw [gDigits, Option.bind_some] at hvar
  split at hvar
  · rename_i cs' t' fr' hh
    obtain rfl := Option.some.inj hvar
    exact ⟨_, _, hh⟩
  · cases hvar

/-- A world that meets the condition: the settled one, the variable's cells laid. -/
noncomputable def laidWorld (os : Os) : World :=
  { World.holding Tryd.prog os ⟨#[], #[], []⟩ with heap := (World.holding Tryd.prog os ⟨#[], #[], []⟩).heap.modify 1 fun
      | .cells _ t frozen => .cells tabC t frozen
      | o => o }
theorem laidWorld_row (os : Os) (args : Array Value) : ((laidWorld os).forCall (fun _ _ => 0) ⟨#[], args, []⟩).memory.heap[1]? = some (.cells tabC 48 (0, 0)) := by kernel_rfl
theorem laidWorld_met (os : Os) (args : Array Value) : laidMetH Tryd.prog [("cobweb/floats.digits", Rows.laid_cobweb_floats_digits)] ((laidWorld os).forCall (fun _ _ => 0) ⟨#[], args, []⟩).memory := by
  show laidMet _ _ _
  refine ⟨_, ⟨1, 48, tabC, 8, [], [], gDigits, gType, by kernel_rfl, by kernel_rfl, rfl, rfl⟩, by decide, fun b off h => ?_⟩
  have h' : MemPlace.cell b off ∈ (List.range 16).map (MemPlace.cell 1) := h
  obtain ⟨i, hi, he⟩ := List.mem_map.1 h'
  have hi := List.mem_range.1 hi
  injection he with hb ho
  subst hb ho
  refine ⟨⟨_, _, laidWorld_row os args⟩, fun u v hc => ?_⟩
  simp only [World.cell?, laidWorld_row os args] at hc
  rw [tab_at hi] at hc
  injection hc with hc
  cases hc

end Go.Proofs.YtjjebmgcbgeehaaDoor
