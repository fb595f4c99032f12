/-
  Arrays of two values, in the rows.
-/
import Derived.Test.YtjimbjcfoebimaaVRow
set_option linter.unusedVariables false
set_option maxRecDepth 100000
namespace Go.Proofs.Ytjimbjcfoebimaa
open Go.ChangeShapes Go.WideShapes Go.ChangeAt Go.RowKit

theorem cells_value2 : Try.prog.cellsOf 49 = 10 := by kernel_rfl

/-- The five cells of a value. -/
theorem open_value_cells {H : Type} {enc : TypeId × Value → H} {W : World} {fuel : Nat} {c0 c1 c2 c3 c4 : Value} {x : DataW H × List MemPlace}
    (hf : DataW.trod enc Try.prog W 0 (fun _ => true) true fuel 27 [c0, c1, c2, c3, c4] = some x) :
    ∃ (k n : Int) (f : Nat) (s : ByteArray) (q : Option Addr) (m c : Nat) (l : List At), c0 = .int .i64 k ∧ c1 = .int .i64 n ∧ c2 = .float .f64 f ∧ c3 = .string s ∧ c4 = .slice q m c ∧ VaOk W ⟨k, n, f, s⟩ q m c l := by
  obtain ⟨xs, n, _, _, _, hxl, hg⟩ := DataW.trod_struct Try.underlying27 hf
  match xs, hxl with
  | [y0, y1], _ =>
    have h0 : DataW.trod enc Try.prog W 0 (fun _ => true) true n 25 ((([c0, c1, c2, c3, c4]).drop 0).take (Try.prog.cellsOf 25)) = some y0 := hg 0 _ rfl
    have h1 : DataW.trod enc Try.prog W 0 (fun _ => true) true n 22 ((([c0, c1, c2, c3, c4]).drop 4).take (Try.prog.cellsOf 22)) = some y1 := hg 1 _ rfl
    rw [cells_atom] at h0
    rw [cells_list] at h1
    obtain ⟨a, ha, e0⟩ := open_atom h0
    obtain ⟨q, m, c, l, e1, hn, hm1, hm2, hl, hok⟩ := open_list h1
    simp only [List.drop, List.take, List.cons.injEq, and_true] at e0 e1
    obtain ⟨rfl, rfl, rfl, rfl⟩ := e0
    subst e1
    exact ⟨a.k, a.n, a.f, a.s, q, m, c, l, rfl, rfl, rfl, rfl, rfl, ha, hn, hm1, hm2, hl, hok⟩

/-- An array of two values, by value. -/
theorem open_value2 {H : Type} {enc : TypeId × Value → H} {W : World} {r : Reach} {b0 : Nat} {v : Value} {d : DataW H} {p : List MemPlace}
    (hv : Value.okWide Try.prog W r b0 49 v) (h : DataW.Trod enc Try.prog W 0 (fun _ => true) true 49 v d p) :
    ∃ (k n : Int) (f : Nat) (s : ByteArray) (q : Option Addr) (m c : Nat) (l : List At) (k' n' : Int) (f' : Nat) (s' : ByteArray) (q' : Option Addr) (m' c' : Nat) (l' : List At),
      v = .agg #[.int .i64 k, .int .i64 n, .float .f64 f, .string s, .slice q m c, .int .i64 k', .int .i64 n', .float .f64 f', .string s', .slice q' m' c'] ∧ VaOk W ⟨k, n, f, s⟩ q m c l ∧ VaOk W ⟨k', n', f', s'⟩ q' m' c' l' := by
  simp only [Value.okWide, Try.underlying49] at hv
  obtain ⟨cs, rfl, hsz, _⟩ := hv
  rw [cells_value2] at hsz
  obtain ⟨l⟩ := cs
  match l, hsz with
  | [c0, c1, c2, c3, c4, c5, c6, c7, c8, c9], _ =>
    obtain ⟨fuel, hf⟩ := h
    obtain ⟨xs, m, _, hx, _, hlen, hg⟩ := DataW.trod_array Try.underlying49 hf
    match xs, hlen with
    | [y0, y1], _ =>
      have h0 := hg 0 (by decide)
      have h1 := hg 1 (by decide)
      rw [cells_value] at h0 h1
      have h0' : DataW.trod enc Try.prog W 0 (fun _ => true) true m 27 [c0, c1, c2, c3, c4] = some y0 := h0
      have h1' : DataW.trod enc Try.prog W 0 (fun _ => true) true m 27 [c5, c6, c7, c8, c9] = some y1 := h1
      obtain ⟨k, n, f, s, q, a, c, l, rfl, rfl, rfl, rfl, rfl, g0⟩ := open_value_cells h0'
      obtain ⟨k', n', f', s', q', a', c', l', rfl, rfl, rfl, rfl, rfl, g1⟩ := open_value_cells h1'
      exact ⟨k, n, f, s, q, a, c, l, k', n', f', s', q', a', c', l', rfl, g0, g1⟩

end Go.Proofs.Ytjimbjcfoebimaa
