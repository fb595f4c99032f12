/-
  How an argument that is a list of ints opens, for the rows' proofs.
-/
import Derived.Test.YtigmibmebockhaaFRow
import Derived.Test.YtigmibmebockhaaInts
import Derived.ProofKit
import Derived.ShutString
import Derived.Carry
import Derived.SizedLaws
import Derived.OpenShut
import Derived.Deep.Onto
import Derived.Deep.Slices
set_option linter.unusedVariables false
set_option maxRecDepth 100000
namespace Go.Proofs.Ytigmibmebockhaa
open Go.ChangeShapes Go.WideShapes Go.ChangeAt Go.RowKit

structure KsOk (w : World) (q : Option Addr) (m c : Nat) (l : List Int) : Prop where
  hn : m = l.length
  h1 : m ≤ c
  h2 : c ≤ 9223372036854775807
  hl : Ks w q l

theorem KsOk.below {w w' : World} {q : Option Addr} {m c : Nat} {l : List Int} (h : KsOk w q m c l) (hb : Below w.heap.size w w') : KsOk w' q m c l := ⟨h.hn, h.h1, h.h2, h.hl.below hb⟩
theorem cells_one : Try.prog.cellsOf 3 = 1 := by kernel_rfl

theorem open_keep {H : Type} {enc : TypeId × Value → H} {W : World} {fuel : Nat} {cs : List Value} {x : DataW H × List MemPlace}
    (h : DataW.trod enc Try.prog W 0 (fun _ => true) true fuel 25 cs = some x) : ∃ (q : Option Addr) (m c : Nat) (l : List Int), cs = [.slice q m c] ∧ KsOk W q m c l := by
  rcases Deep.open_slice Try.underlying25 h with ⟨hcs, _⟩ | ⟨a, len, cap, m, n, D, Pl, hcs, _, hl, hm, hmm, hx, hi⟩
  · exact ⟨none, 0, 0, [], hcs, rfl, by omega, by omega, fun h => absurd rfl h⟩
  · simp only [if_true] at hmm
    obtain rfl := hmm
    have hcell : ∀ i, i < len → ∃ t : Int, W.cells? 0 (a.add (i * 1)) 1 = some [.int .i64 t] := by
      intro i hil
      obtain ⟨cs', h1, h2⟩ := hi i (by omega)
      obtain ⟨s, e0, _, w0⟩ := DataW.trod_int Try.underlying3 h2
      rw [cells_one, e0] at h1
      exact ⟨s, h1⟩
    obtain ⟨F, hF⟩ := Deep.choose_lt hcell
    unfold maxLen at hm
    refine ⟨some a, len, m, (List.range len).map F, hcs, by simp, hl, by omega, ?_⟩
    intro hne
    have h0 : 0 < len := by
      rcases Nat.eq_zero_or_pos len with h | h
      · subst h; simp at hne
      · exact h
    obtain ⟨b, o, s⟩ := a
    have hs : s = none := by
      obtain ⟨_, _, hc⟩ := World.cells?_some (hF 0 h0)
      have := World.cell?_spot ((hc 0 (by omega)).trans rfl)
      simpa [Addr.add] using this
    subst hs
    refine ⟨b, o, rfl, fun i t hit => ?_⟩
    rw [List.getElem?_map] at hit
    have hil : i < len := by
      rcases Nat.lt_or_ge i len with h | h
      · exact h
      · rw [List.getElem?_eq_none (by simpa using h)] at hit
        cases hit
    rw [List.getElem?_eq_getElem (by simpa using hil)] at hit
    simp only [List.getElem_range, Option.map_some, Option.some.injEq] at hit
    subst hit
    obtain ⟨_, _, hc⟩ := World.cells?_some (hF i hil)
    have c0 := hc 0 (by omega)
    rw [Deep.add_add, add_plain, Nat.mul_one, Nat.add_zero] at c0
    exact c0

end Go.Proofs.Ytigmibmebockhaa
