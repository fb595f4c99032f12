/-
  How the arguments of layer 7's laws open; the rows' condition on page.turns: what it gives a walk; a world that meets it.
-/
import Derived.Test.YthkgejkgnkpjdaaDoorRow
import Derived.Test.YthkgejkgnkpjdaaDoorPgSum
import Derived.Test.YthkgejkgnkpjdaaDoorTie
import Derived.ChangeSame
import Derived.ChangeVars
set_option linter.unusedVariables false
set_option maxRecDepth 100000
namespace Go.Proofs.YthkgejkgnkpjdaaDoor
open Go.ChangeShapes Go.WideShapes Go.ChangeAt Go.RowKit

theorem gTurns : Tryd.prog.globalNamed "cobweb/page.turns" = some 0 := by kernel_rfl
theorem gType : (Tryd.prog.globals[0]?).map (·.type) = some 47 := by kernel_rfl
theorem cellsU32 : Tryd.prog.cellsOf 29 = 1 := by kernel_rfl
theorem cells16 : Tryd.prog.cellsOf 47 = 16 := by kernel_rfl
theorem cells_int2 : Tryd.prog.cellsOf 22 = 2 := by kernel_rfl
theorem cells_sl : Tryd.prog.cellsOf 23 = 1 := by kernel_rfl
theorem cells_sl2 : Tryd.prog.cellsOf 42 = 2 := by kernel_rfl
theorem cells_burst : Tryd.prog.cellsOf 39 = 4 := by kernel_rfl

theorem open_int2 {H : Type} {enc : TypeId × Value → H} {W : World} {r : Reach} {b0 : Nat} {v : Value} {d : DataW H} {p : List MemPlace}
    (hv : Value.okWide Tryd.prog W r b0 22 v) (h : DataW.Trod enc Tryd.prog W 0 (fun _ => true) true 22 v d p) : ∃ x y : Int, v = .agg #[.int .i64 x, .int .i64 y] := by
  obtain ⟨u0, u1, y0, y1, m0, rfl, _, _, k0, k1⟩ := open_arr2 Tryd.underlying22 cells_int cells_int2 hv h
  obtain ⟨n0, e0, _, _⟩ := DataW.trod_int Tryd.underlying3 k0
  obtain ⟨n1, e1, _, _⟩ := DataW.trod_int Tryd.underlying3 k1
  simp only [List.cons.injEq, and_true] at e0 e1
  subst e0 e1
  exact ⟨_, _, rfl⟩
theorem open_bytes2 {H : Type} {enc : TypeId × Value → H} {W : World} {r : Reach} {b0 : Nat} {v : Value} {d : DataW H} {p : List MemPlace}
    (hv : Value.okWide Tryd.prog W r b0 42 v) (h : DataW.Trod enc Tryd.prog W 0 (fun _ => true) true 42 v d p) :
    ∃ (qa : Option Addr) (na ca : Nat) (la : List UInt8) (qb : Option Addr) (nb cb : Nat) (lb : List UInt8), v = .agg #[.slice qa na ca, .slice qb nb cb] ∧
      (na = la.length ∧ na ≤ ca ∧ ca ≤ 9223372036854775807 ∧ Bs W qa la ∧ (qa = none → ca = 0)) ∧ (nb = lb.length ∧ nb ≤ cb ∧ cb ≤ 9223372036854775807 ∧ Bs W qb lb ∧ (qb = none → cb = 0)) := by
  obtain ⟨u0, u1, ⟨d0, p0⟩, ⟨d1, p1⟩, m0, rfl, _, _, k0, k1⟩ := open_arr2 Tryd.underlying42 cells_sl cells_sl2 hv h
  obtain ⟨q0, c0, f0, e0⟩ := Joins.slice_form Tryd.underlying23 k0
  obtain ⟨q1, c1, f1, e1⟩ := Joins.slice_form Tryd.underlying23 k1
  simp only [List.cons.injEq, and_true] at e0 e1
  subst e0 e1
  obtain ⟨l0, hl1, hl2, hl3, hl4, hl5, _⟩ := opened ⟨m0, k0⟩
  obtain ⟨l1, hm1, hm2, hm3, hm4, hm5, _⟩ := opened ⟨m0, k1⟩
  exact ⟨_, _, _, l0, _, _, _, l1, rfl, ⟨hl1, hl2, hl3, hl4, hl5⟩, hm1, hm2, hm3, hm4, hm5⟩
theorem u32_of_wf {x : Int} (h : (Lit.int .u32 x).wf = true) : 0 ≤ x ∧ x < 4294967296 := by
  have h1 : IntKind.u32.min = 0 := rfl
  have h2 : IntKind.u32.max = 4294967295 := rfl
  simp only [Lit.wf, Bool.and_eq_true, decide_eq_true_eq] at h
  omega
theorem open_burst {H : Type} {enc : TypeId × Value → H} {W : World} {r : Reach} {b0 : Nat} {v : Value} {d : DataW H} {p : List MemPlace}
    (hv : Value.okWide Tryd.prog W r b0 39 v) (h : DataW.Trod enc Tryd.prog W 0 (fun _ => true) true 39 v d p) :
    ∃ (k : UInt8) (g a : Int) (b : Nat), v = .agg #[.int .u8 (k.toNat : Int), .int .i64 g, .int .i64 a, .int .u32 (b : Int)] ∧ -9223372036854775808 ≤ g ∧ g ≤ 9223372036854775807 ∧ -9223372036854775808 ≤ a ∧ a ≤ 9223372036854775807 ∧ b < 4294967296 := by
  obtain ⟨cs, rfl, hsz⟩ := okWide_struct Tryd.underlying39 hv
  obtain ⟨l⟩ := cs
  rw [cells_burst] at hsz
  match l, hsz with
  | [c0, c1, c2, c3], _ =>
    obtain ⟨fuel, hf⟩ := h
    obtain ⟨xs, n, _, _, _, hxl, hg⟩ := DataW.trod_struct Tryd.underlying39 hf
    match xs, hxl with
    | [y0, y1, y2, y3], _ =>
      have h0 : DataW.trod enc Tryd.prog W 0 (fun _ => true) true n 5 ((([c0, c1, c2, c3]).drop 0).take (Tryd.prog.cellsOf 5)) = some y0 := hg 0 _ rfl
      have h1 : DataW.trod enc Tryd.prog W 0 (fun _ => true) true n 3 ((([c0, c1, c2, c3]).drop 1).take (Tryd.prog.cellsOf 3)) = some y1 := hg 1 _ rfl
      have h2 : DataW.trod enc Tryd.prog W 0 (fun _ => true) true n 3 ((([c0, c1, c2, c3]).drop 2).take (Tryd.prog.cellsOf 3)) = some y2 := hg 2 _ rfl
      have h3 : DataW.trod enc Tryd.prog W 0 (fun _ => true) true n 29 ((([c0, c1, c2, c3]).drop 3).take (Tryd.prog.cellsOf 29)) = some y3 := hg 3 _ rfl
      rw [cellsU8] at h0
      rw [cells_int] at h1 h2
      rw [cellsU32] at h3
      obtain ⟨k0, e0, _, w0⟩ := DataW.trod_int Tryd.underlying5 h0
      obtain ⟨k1, e1, _, w1⟩ := DataW.trod_int Tryd.underlying3 h1
      obtain ⟨k2, e2, _, w2⟩ := DataW.trod_int Tryd.underlying3 h2
      obtain ⟨k3, e3, _, w3⟩ := DataW.trod_int Tryd.underlying29 h3
      simp only [List.drop, List.take, List.cons.injEq, and_true] at e0 e1 e2 e3
      subst e0 e1 e2 e3
      have b0 := u8_of_wf w0
      have b1 := i64_bounds w1
      have b2 := i64_bounds w2
      have b3 := u32_of_wf w3
      refine ⟨UInt8.ofNat k0.toNat, k1, k2, k3.toNat, ?_, b1.1, b1.2, b2.1, b2.2, by omega⟩
      rw [UInt8.toNat_ofNat']
      have e4 : ((k0.toNat % 2 ^ 8 : Nat) : Int) = k0 := by omega
      have e5 : ((k3.toNat : Nat) : Int) = k3 := by omega
      rw [e4, e5]

theorem int_of_read {H : Type} {enc : TypeId × Value → H} {P : Program} {w : World} {base : Nat} {sp : Nat → Bool} {held : Bool} {fuel : Nat} {t : TypeId} {k : IntKind} {c : Value} {y : DataW H × List MemPlace}
    (ht : P.underlying t = some (.int k)) (h : DataW.trod enc P w base sp held fuel t [c] = some y) : ∃ n, c = .int k n ∧ y.1 = .lit (.int k n) := by
  cases fuel with
  | zero => simp [DataW.trod] at h
  | succ fuel =>
    cases c <;> simp [DataW.trod, ht] at h
    rename_i k' n
    obtain ⟨⟨rfl, _⟩, rfl⟩ := h
    exact ⟨n, rfl, rfl⟩

theorem lit_u32 {a b : Int} (h : (DataW.lit (.int .u32 a) : DataW Unit) = .lit (.int .u32 b)) : a = b := by
  injection h with h
  injection h

theorem tab_of_laid {W : World} (h : laidMetH Tryd.prog [("cobweb/page.turns", Rows.laid_cobweb_page_turns)] W) : Tab W := by
  have h' : laidMet Tryd.prog [("cobweb/page.turns", Rows.laid_cobweb_page_turns)] W := h
  obtain ⟨ps, ⟨g, t, cs, fuel, p, q, hg, ht, hvar, hd, _, _⟩, _⟩ := h'
  obtain rfl := Option.some.inj (gTurns.symm.trans hg)
  obtain rfl := Option.some.inj (gType.symm.trans ht)
  obtain ⟨xs, m, _, hx, hlen, hxl, hget⟩ := DataW.trod_array Tryd.underlying47 hd
  rw [cells16] at hlen
  simp only [Prod.mk.injEq] at hx
  have hxs := hx.1
  rw [cellsU32] at hget
  simp only [Nat.mul_one] at hget
  have hmap : xs.map (·.1) = (List.range 16).map fun j => .lit (.int .u32 (crcI 4 j : Nat)) := by
    unfold Rows.laid_cobweb_page_turns at hxs
    injection hxs with hxs
    exact hxs.symm
  have hcell : ∀ i, i < 16 → ∀ n : Int, (xs.map (·.1))[i]? = some (.lit (.int .u32 n)) → cs.toList[i]? = some (.int .u32 n) := by
    intro i hi n hn
    have hil : i < cs.toList.length := by omega
    have h1 := hget i hi
    rw [List.drop_eq_getElem_cons hil, List.take_succ_cons, List.take_zero] at h1
    have hix : i < xs.length := by omega
    rw [List.getElem?_eq_getElem hix] at h1
    obtain ⟨k, hk, hy⟩ := int_of_read Tryd.underlying29 h1
    rw [List.getElem?_map, List.getElem?_eq_getElem hix, Option.map_some, Option.some.injEq, hy] at hn
    rw [List.getElem?_eq_getElem hil, hk, lit_u32 hn]
  have hcs : cs = turnC := by
    apply Array.ext'
    apply List.ext_getElem?
    intro i
    rcases Nat.lt_or_ge i 16 with hi | hi
    · have h1 := turnC_at hi
      have h2 : turnC.toList[i]? = some (.int .u32 (crcI 4 i : Nat)) := by rw [← h1]; simp
      rw [h2]
      refine hcell i hi _ ?_
      rw [hmap, List.getElem?_map, List.getElem?_range hi]
      rfl
    · rw [List.getElem?_eq_none (by omega), List.getElem?_eq_none (by show 16 ≤ i; exact hi)]
  subst hcs
  unfold World.var? at hvar
  rw [gTurns, Option.bind_some] at hvar
  split at hvar
  · rename_i cs' t' fr' hh
    obtain rfl := Option.some.inj hvar
    exact ⟨_, _, hh⟩
  · cases hvar

/-- A world that meets the condition: the settled one, the variable's cells laid. -/
noncomputable def laidWorld (os : Os) : World :=
  { World.holding Tryd.prog os ⟨#[], #[], []⟩ with heap := (World.holding Tryd.prog os ⟨#[], #[], []⟩).heap.modify 0 fun
      | .cells _ t frozen => .cells turnC t frozen
      | o => o }
theorem laidWorld_row (os : Os) (args : Array Value) : ((laidWorld os).forCall (fun _ _ => 0) ⟨#[], args, []⟩).memory.heap[0]? = some (.cells turnC 47 (0, 0)) := by kernel_rfl
theorem laidWorld_met (os : Os) (args : Array Value) : laidMetH Tryd.prog [("cobweb/page.turns", Rows.laid_cobweb_page_turns)] ((laidWorld os).forCall (fun _ _ => 0) ⟨#[], args, []⟩).memory := by
  show laidMet _ _ _
  refine ⟨_, ⟨0, 47, turnC, 8, [], [], gTurns, gType, by kernel_rfl, by kernel_rfl, rfl, rfl⟩, by decide, fun b off h => ?_⟩
  have h' : MemPlace.cell b off ∈ (List.range 16).map (MemPlace.cell 0) := h
  obtain ⟨i, hi, he⟩ := List.mem_map.1 h'
  have hi := List.mem_range.1 hi
  injection he with hb ho
  subst hb ho
  refine ⟨⟨_, _, laidWorld_row os args⟩, fun u v hc => ?_⟩
  simp only [World.cell?, laidWorld_row os args] at hc
  rw [turnC_at hi] at hc
  injection hc with hc
  cases hc

end Go.Proofs.YthkgejkgnkpjdaaDoor
