/-
  How arguments that are lists of strings, lists of properties, nodes and edges open, for the rows' proofs.
-/
import Derived.Test.YtekaedafhiddeaaRowV
import Derived.Test.YtekaedafhiddeaaRMem
import Derived.Test.YtekaedafhiddeaaRRight
set_option linter.unusedVariables false
set_option maxRecDepth 100000
namespace Go.Proofs.Ytekaedafhiddeaa
open Go.ChangeShapes Go.WideShapes Go.ChangeAt Go.RowKit

theorem cells_prop : Try.prog.cellsOf 48 = 6 := by kernel_rfl
theorem cells_props : Try.prog.cellsOf 23 = 1 := by kernel_rfl
theorem cells_strs : Try.prog.cellsOf 22 = 1 := by kernel_rfl

theorem list_zero {H : Type} {enc : TypeId × Value → H} {W : World} {fuel : Nat} {cs : List Value} {x : DataW H × List MemPlace}
    (h : DataW.trod enc Try.prog W 0 (fun _ => true) true fuel 44 cs = some x) {q : Option Addr} {m c : Nat} (e : cs = [.slice q m c]) : q = none → c = 0 := by
  rcases Deep.open_slice Try.underlying44 h with ⟨hcs, _⟩ | ⟨a, len, cap, m, n, D, Pl, hcs, _⟩
  · rw [e] at hcs
    simp only [List.cons.injEq, Value.slice.injEq, and_true] at hcs
    exact fun _ => hcs.2.2
  · rw [e] at hcs
    simp only [List.cons.injEq, Value.slice.injEq, and_true] at hcs
    intro hq
    rw [hq] at hcs
    cases hcs.1
/-- The list of a value that is nil has no room. -/
theorem value_zero {H : Type} {enc : TypeId × Value → H} {W : World} {fuel : Nat} {c0 c1 c2 c3 : Value} {q : Option Addr} {m c : Nat} {x : DataW H × List MemPlace}
    (hf : DataW.trod enc Try.prog W 0 (fun _ => true) true fuel 46 [c0, c1, c2, c3, .slice q m c] = some x) : q = none → c = 0 := by
  obtain ⟨xs, n, _, _, _, hxl, hg⟩ := DataW.trod_struct Try.underlying46 hf
  match xs, hxl with
  | [y0, y1], _ =>
    have h1 : DataW.trod enc Try.prog W 0 (fun _ => true) true n 44 ((([c0, c1, c2, c3, .slice q m c]).drop 4).take (Try.prog.cellsOf 44)) = some y1 := hg 1 _ rfl
    rw [cells_list] at h1
    exact list_zero h1 rfl

theorem val_zero {H : Type} {enc : TypeId × Value → H} {W : World} {c0 c1 c2 c3 : Value} {q : Option Addr} {m c : Nat} {d : DataW H} {p : List MemPlace}
    (h : DataW.Trod enc Try.prog W 0 (fun _ => true) true 46 (.agg #[c0, c1, c2, c3, .slice q m c]) d p) : q = none → c = 0 := by
  obtain ⟨fuel, hf⟩ := h
  have hf' : DataW.trod enc Try.prog W 0 (fun _ => true) true fuel 46 [c0, c1, c2, c3, .slice q m c] = some (d, p) := hf
  exact value_zero hf'

/-- A property. -/
theorem open_prop {H : Type} {enc : TypeId × Value → H} {W : World} {fuel : Nat} {cs : List Value} {x : DataW H × List MemPlace}
    (h : DataW.trod enc Try.prog W 0 (fun _ => true) true fuel 48 cs = some x) : ∃ p : Pr, p.Ok W ∧ cs = prCells [p] := by
  obtain ⟨xs, n, _, _, hlen, hxl, hg⟩ := DataW.trod_struct Try.underlying48 h
  rw [cells_prop] at hlen
  match cs, hlen with
  | [c0, c1, c2, c3, c4, c5], _ =>
    match xs, hxl with
    | [y0, y1], _ =>
      have h0 : DataW.trod enc Try.prog W 0 (fun _ => true) true n 9 ((([c0, c1, c2, c3, c4, c5]).drop 0).take (Try.prog.cellsOf 9)) = some y0 := hg 0 _ rfl
      have h1 : DataW.trod enc Try.prog W 0 (fun _ => true) true n 46 ((([c0, c1, c2, c3, c4, c5]).drop 1).take (Try.prog.cellsOf 46)) = some y1 := hg 1 _ rfl
      rw [cells_str] at h0
      rw [cells_value] at h1
      obtain ⟨s, e0, _, w0⟩ := DataW.trod_string Try.underlying9 h0
      have h1' : DataW.trod enc Try.prog W 0 (fun _ => true) true n 46 [c1, c2, c3, c4, c5] = some y1 := h1
      obtain ⟨k, m, f, t, q, a, c, l, rfl, rfl, rfl, rfl, rfl, g1⟩ := open_value_cells h1'
      simp only [List.drop, List.take, List.cons.injEq, and_true] at e0
      subst e0
      unfold maxLen at w0
      exact ⟨⟨s, ⟨⟨k, m, f, t⟩, q, a, c, l⟩⟩, ⟨by dsimp only; omega, g1, value_zero h1'⟩, rfl⟩

/-- A list of properties. -/
theorem open_props {H : Type} {enc : TypeId × Value → H} {W : World} {fuel : Nat} {cs : List Value} {x : DataW H × List MemPlace}
    (h : DataW.trod enc Try.prog W 0 (fun _ => true) true fuel 23 cs = some x) :
    ∃ (q : Option Addr) (m c : Nat) (l : List Pr), cs = [.slice q m c] ∧ PsOk W q m c l := by
  rcases Deep.open_slice Try.underlying23 h with ⟨hcs, _⟩ | ⟨a, len, cap, m, n, D, Pl, hcs, _, hl, hm, hmm, hx, hi⟩
  · exact ⟨none, 0, 0, [], hcs, rfl, by omega, by omega, fun _ => rfl, Ps.nil _ _⟩
  · simp only [if_true] at hmm
    obtain rfl := hmm
    have hcell : ∀ i, i < len → ∃ t : Pr, t.Ok W ∧ W.cells? 0 (a.add (i * 6)) 6 = some (prCells [t]) := by
      intro i hil
      obtain ⟨cs', h1, h2⟩ := hi i (by omega)
      obtain ⟨t, ht, e⟩ := open_prop h2
      rw [cells_prop, e] at h1
      exact ⟨t, ht, h1⟩
    haveI : Inhabited Pr := ⟨⟨.empty, ⟨⟨0, 0, 0, .empty⟩, none, 0, 0, []⟩⟩⟩
    obtain ⟨F, hF⟩ := Deep.choose_lt hcell
    unfold maxLen at hm
    refine ⟨some a, len, m, (List.range len).map F, hcs, by simp, hl, by omega, fun h => (by cases h), ?_, ?_⟩
    · intro t ht
      obtain ⟨i, hi2, rfl⟩ := List.mem_map.1 ht
      exact (hF i (List.mem_range.1 hi2)).1
    · intro hne
      have h0 : 0 < len := by
        rcases Nat.eq_zero_or_pos len with h | h
        · subst h; simp at hne
        · exact h
      obtain ⟨b, o, s⟩ := a
      have hs : s = none := by
        obtain ⟨_, _, hc⟩ := World.cells?_some (hF 0 h0).2
        have := World.cell?_spot ((hc 0 (by omega)).trans rfl)
        simpa [Addr.add] using this
      subst hs
      refine ⟨b, o, rfl, fun i t hit => ?_⟩
      rw [List.getElem?_map] at hit
      have hil : i < len := by
        rcases Nat.lt_or_ge i len with h | h
        · exact h
        · rw [List.getElem?_eq_none (by simpa using h)] at hit
          cases hit
      rw [List.getElem?_eq_getElem (by simpa using hil)] at hit
      simp only [List.getElem_range, Option.map_some, Option.some.injEq] at hit
      subst hit
      obtain ⟨_, _, hc⟩ := World.cells?_some (hF i hil).2
      have c0 := hc 0 (by omega)
      have c1 := hc 1 (by omega)
      have c2 := hc 2 (by omega)
      have c3 := hc 3 (by omega)
      have c4 := hc 4 (by omega)
      have c5 := hc 5 (by omega)
      rw [Deep.add_add, add_plain] at c0 c1 c2 c3 c4 c5
      exact ⟨c0, c1, c2, c3, c4, c5⟩

/-- A list of strings. -/
theorem open_strs {H : Type} {enc : TypeId × Value → H} {W : World} {fuel : Nat} {cs : List Value} {x : DataW H × List MemPlace}
    (h : DataW.trod enc Try.prog W 0 (fun _ => true) true fuel 22 cs = some x) :
    ∃ (q : Option Addr) (m c : Nat) (l : List ByteArray), cs = [.slice q m c] ∧ SsOk W q m c l := by
  rcases Deep.open_slice Try.underlying22 h with ⟨hcs, _⟩ | ⟨a, len, cap, m, n, D, Pl, hcs, _, hl, hm, hmm, hx, hi⟩
  · exact ⟨none, 0, 0, [], hcs, rfl, by omega, by omega, Ss.nil _ _, by simp⟩
  · simp only [if_true] at hmm
    obtain rfl := hmm
    have hcell : ∀ i, i < len → ∃ t : ByteArray, t.size ≤ 9223372036854775807 ∧ W.cells? 0 (a.add (i * 1)) 1 = some [.string t] := by
      intro i hil
      obtain ⟨cs', h1, h2⟩ := hi i (by omega)
      obtain ⟨s, e0, _, w0⟩ := DataW.trod_string Try.underlying9 h2
      rw [cells_str, e0] at h1
      unfold maxLen at w0
      exact ⟨s, by omega, h1⟩
    haveI : Inhabited ByteArray := ⟨.empty⟩
    obtain ⟨F, hF⟩ := Deep.choose_lt hcell
    unfold maxLen at hm
    refine ⟨some a, len, m, (List.range len).map F, hcs, by simp, hl, by omega, ?_, ?_⟩
    · intro hne
      have h0 : 0 < len := by
        rcases Nat.eq_zero_or_pos len with h | h
        · subst h; simp at hne
        · exact h
      obtain ⟨b, o, s⟩ := a
      have hs : s = none := by
        obtain ⟨_, _, hc⟩ := World.cells?_some (hF 0 h0).2
        have := World.cell?_spot ((hc 0 (by omega)).trans rfl)
        simpa [Addr.add] using this
      subst hs
      refine ⟨b, o, rfl, fun i t hit => ?_⟩
      rw [List.getElem?_map] at hit
      have hil : i < len := by
        rcases Nat.lt_or_ge i len with h | h
        · exact h
        · rw [List.getElem?_eq_none (by simpa using h)] at hit
          cases hit
      rw [List.getElem?_eq_getElem (by simpa using hil)] at hit
      simp only [List.getElem_range, Option.map_some, Option.some.injEq] at hit
      subst hit
      obtain ⟨_, _, hc⟩ := World.cells?_some (hF i hil).2
      have c0 := hc 0 (by omega)
      rw [Deep.add_add, add_plain, Nat.mul_one, Nat.add_zero] at c0
      exact c0
    · intro t ht
      obtain ⟨i, hi2, rfl⟩ := List.mem_map.1 ht
      exact (hF i (List.mem_range.1 hi2)).1

theorem cells_node : Try.prog.cellsOf 25 = 3 := by kernel_rfl
theorem cells_edge : Try.prog.cellsOf 27 = 5 := by kernel_rfl

/-- A node. -/
theorem open_node {H : Type} {enc : TypeId × Value → H} {W : World} {r : Reach} {b0 : Nat} {v : Value} {d : DataW H} {p : List MemPlace}
    (hv : Value.okWide Try.prog W r b0 25 v) (h : DataW.Trod enc Try.prog W 0 (fun _ => true) true 25 v d p) : ∃ n : Nd, v = n.cell ∧ n.Ok W := by
  obtain ⟨cs, rfl, hsz⟩ := okWide_struct Try.underlying25 hv
  obtain ⟨l⟩ := cs
  rw [cells_node] at hsz
  match l, hsz with
  | [c0, c1, c2], _ =>
    obtain ⟨fuel, hf⟩ := h
    obtain ⟨xs, n, _, _, _, hxl, hg⟩ := DataW.trod_struct Try.underlying25 hf
    match xs, hxl with
    | [y0, y1, y2], _ =>
      have h0 : DataW.trod enc Try.prog W 0 (fun _ => true) true n 3 ((([c0, c1, c2]).drop 0).take (Try.prog.cellsOf 3)) = some y0 := hg 0 _ rfl
      have h1 : DataW.trod enc Try.prog W 0 (fun _ => true) true n 22 ((([c0, c1, c2]).drop 1).take (Try.prog.cellsOf 22)) = some y1 := hg 1 _ rfl
      have h2 : DataW.trod enc Try.prog W 0 (fun _ => true) true n 23 ((([c0, c1, c2]).drop 2).take (Try.prog.cellsOf 23)) = some y2 := hg 2 _ rfl
      rw [cells_int] at h0
      rw [cells_strs] at h1
      rw [cells_props] at h2
      obtain ⟨k, e0, _, w0⟩ := DataW.trod_int Try.underlying3 h0
      obtain ⟨q, m, c, ls, e1, g1⟩ := open_strs h1
      obtain ⟨q', m', c', ps, e2, g2⟩ := open_props h2
      simp only [List.drop, List.take, List.cons.injEq, and_true] at e0 e1 e2
      subst e0 e1 e2
      have b0 := i64_bounds w0
      exact ⟨⟨k, q, m, c, ls, q', m', c', ps⟩, rfl, b0.1, b0.2, g1, g2⟩

/-- An edge. -/
theorem open_edge {H : Type} {enc : TypeId × Value → H} {W : World} {r : Reach} {b0 : Nat} {v : Value} {d : DataW H} {p : List MemPlace}
    (hv : Value.okWide Try.prog W r b0 27 v) (h : DataW.Trod enc Try.prog W 0 (fun _ => true) true 27 v d p) : ∃ n : Ed, v = n.cell ∧ n.Ok W := by
  obtain ⟨cs, rfl, hsz⟩ := okWide_struct Try.underlying27 hv
  obtain ⟨l⟩ := cs
  rw [cells_edge] at hsz
  match l, hsz with
  | [c0, c1, c2, c3, c4], _ =>
    obtain ⟨fuel, hf⟩ := h
    obtain ⟨xs, n, _, _, _, hxl, hg⟩ := DataW.trod_struct Try.underlying27 hf
    match xs, hxl with
    | [y0, y1, y2, y3, y4], _ =>
      have h0 : DataW.trod enc Try.prog W 0 (fun _ => true) true n 3 ((([c0, c1, c2, c3, c4]).drop 0).take (Try.prog.cellsOf 3)) = some y0 := hg 0 _ rfl
      have h1 : DataW.trod enc Try.prog W 0 (fun _ => true) true n 9 ((([c0, c1, c2, c3, c4]).drop 1).take (Try.prog.cellsOf 9)) = some y1 := hg 1 _ rfl
      have h2 : DataW.trod enc Try.prog W 0 (fun _ => true) true n 3 ((([c0, c1, c2, c3, c4]).drop 2).take (Try.prog.cellsOf 3)) = some y2 := hg 2 _ rfl
      have h3 : DataW.trod enc Try.prog W 0 (fun _ => true) true n 3 ((([c0, c1, c2, c3, c4]).drop 3).take (Try.prog.cellsOf 3)) = some y3 := hg 3 _ rfl
      have h4 : DataW.trod enc Try.prog W 0 (fun _ => true) true n 23 ((([c0, c1, c2, c3, c4]).drop 4).take (Try.prog.cellsOf 23)) = some y4 := hg 4 _ rfl
      rw [cells_int] at h0 h2 h3
      rw [cells_str] at h1
      rw [cells_props] at h4
      obtain ⟨k, e0, _, w0⟩ := DataW.trod_int Try.underlying3 h0
      obtain ⟨s, e1, _, w1⟩ := DataW.trod_string Try.underlying9 h1
      obtain ⟨f, e2, _, w2⟩ := DataW.trod_int Try.underlying3 h2
      obtain ⟨g, e3, _, w3⟩ := DataW.trod_int Try.underlying3 h3
      obtain ⟨q, m, c, ps, e4, g4⟩ := open_props h4
      simp only [List.drop, List.take, List.cons.injEq, and_true] at e0 e1 e2 e3 e4
      subst e0 e1 e2 e3 e4
      have b0 := i64_bounds w0
      have b2 := i64_bounds w2
      have b3 := i64_bounds w3
      unfold maxLen at w1
      exact ⟨⟨k, s, f, g, q, m, c, ps⟩, rfl, b0.1, b0.2, by dsimp only; omega, b2.1, b2.2, b3.1, b3.2, g4⟩

end Go.Proofs.Ytekaedafhiddeaa
