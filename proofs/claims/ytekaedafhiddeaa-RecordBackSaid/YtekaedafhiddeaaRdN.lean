/-
  Slices of strings of the call's own; record.ReadEdge: its contract.
-/
import Derived.Test.YtekaedafhiddeaaRdL
import Derived.Test.YtekaedafhiddeaaRRight
set_option linter.unusedVariables false
set_option maxRecDepth 100000
namespace Go.Proofs.Ytekaedafhiddeaa
open Go.RowKit

/-- A slice of the call's own that holds strings. -/
def SOwn (w : World) (B : Nat) (v : Value) (l : List ByteArray) : Prop := w.ownsRow B 9 1 v l.length (l.map Value.string)
theorem SOwn.nil (w : World) (B : Nat) : SOwn w B (.slice none 0 0) [] := World.ownsRow_nil w B _ _
theorem SOwn.form {w : World} {B : Nat} {v : Value} {l : List ByteArray} (h : SOwn w B v l) {n : Nat} (hn : n = l.length) :
    ∃ p c, v = .slice p n c ∧ ((∀ s ∈ l, s.size ≤ 9223372036854775807) → SsOk w p n c l) := by
  subst hn
  rcases h.2 with ⟨rfl, h0⟩ | ⟨g, cap, cur, rfl, hb, hg, hnc, hcm, hcs, htake⟩
  · obtain rfl := List.eq_nil_of_length_eq_zero h0
    exact ⟨none, 0, rfl, fun h => ⟨rfl, Nat.le_refl _, by omega, Ss.nil _ _, h⟩⟩
  · refine ⟨some ⟨g, 0, none⟩, cap, rfl, fun hx => ⟨rfl, hnc, by simp only [maxLen] at hcm; omega, fun _ => ⟨g, 0, rfl, fun i s hi => ?_⟩, hx⟩⟩
    have := h.cells (g := g) rfl i (.string s) (by simp [hi])
    simpa [Addr.add_lit] using this
theorem SOwn.below {w w' : World} {B : Nat} {v : Value} {l : List ByteArray} (h : SOwn w B v l) (hb : Below w.heap.size w w') : SOwn w' B v l := by
  refine ⟨h.1, ?_⟩
  rcases h.2 with h0 | ⟨g, cap, cur, hv, h1, hg, h2⟩
  · exact .inl h0
  · exact .inr ⟨g, cap, cur, hv, h1, by rw [hb.block g (Array.getElem?_eq_some_iff.1 hg).1]; exact hg, h2⟩
theorem SOwn.gb {w w' : World} {B g : Nat} {v : Value} {l : List ByteArray} (h : SOwn w B v l) (hg : w.grownBy w' (some g)) (hB : g < B) : SOwn w' B v l :=
  World.ownsRow.kept h hg (.inr fun e => by have := (World.ownsRow.lt h g e).1; omega)

theorem info_str : (Try.prog.info? 9).map (fun i => (i.zero, i.size, i.bytes)) = some (some (.string ⟨#[]⟩), 1, 16) := by kernel_rfl

/-- What ReadEdge tells. -/
structure RePost (w : World) (l : List UInt8) (id : Int) (e : Ending) (w' : World) : Prop where
  yes : ∀ t fr to ps, edgeS (l, decide (4096 < l.length)) = ((t, fr, to, ps), ([], false)) → edgeR id fr to t ps = true → ∃ x : Ed, e = .returned (.tuple #[x.cell, .int .i64 0]) ∧ x.Ok w' ∧ x.id = id ∧ x.t = t ∧ x.fr = fr ∧ x.to = to ∧ x.ps.map Pr.c = ps
  no : ((edgeS (l, decide (4096 < l.length))).2 ≠ ([], false) ∨ edgeR id (edgeS (l, decide (4096 < l.length))).1.2.1 (edgeS (l, decide (4096 < l.length))).1.2.2.1 (edgeS (l, decide (4096 < l.length))).1.1 (edgeS (l, decide (4096 < l.length))).1.2.2.2 = false) → e = .returned (.tuple #[.agg #[.int .i64 0, .string ⟨#[]⟩, .int .i64 0, .int .i64 0, .slice none 0 0], .int .i64 11])
  bl : Below w.heap.size w w'

end Go.Proofs.Ytekaedafhiddeaa
