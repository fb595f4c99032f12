/-
  How arguments that are lists of bytes, and lists of ints, open, for the rows' proofs.
-/
import Derived.Test.YtholgkmlfgmhfaaRow
import Derived.Test.YtholgkmlfgmhfaaSCrash
set_option linter.unusedVariables false
set_option maxRecDepth 100000
namespace Go.Proofs.Ytholgkmlfgmhfaa
open Go.ChangeShapes Go.WideShapes Go.ChangeAt Go.RowKit

/-- Bytes that lie somewhere. -/
structure Bl where
  q : Option Addr
  c : Nat
  l : List UInt8
structure Bl.Ok (w : World) (x : Bl) : Prop where
  bs : Bs w x.q x.l
  h1 : x.l.length ≤ x.c
  h2 : x.c ≤ 9223372036854775807

/-- A list of them. -/
def Bls (w : World) (q : Option Addr) (ls : List Bl) : Prop := ls ≠ [] → ∃ b o, q = some ⟨b, o, none⟩ ∧ ∀ i x, ls[i]? = some x → w.cell? ⟨b, o + i, none⟩ = some (.slice x.q x.l.length x.c)
structure BlsOk (w : World) (q : Option Addr) (m c : Nat) (ls : List Bl) : Prop where
  hn : m = ls.length
  h1 : m ≤ c
  h2 : c ≤ 9223372036854775807
  hl : Bls w q ls
  ok : ∀ x ∈ ls, x.Ok w
structure KsOk (w : World) (q : Option Addr) (m c : Nat) (l : List Int) : Prop where
  hn : m = l.length
  h1 : m ≤ c
  h2 : c ≤ 9223372036854775807
  hl : Ks w q l

theorem Bl.Ok.below {w w' : World} {x : Bl} (h : x.Ok w) (hb : Below w.heap.size w w') : x.Ok w' := ⟨h.bs.below hb, h.h1, h.h2⟩
theorem Bls.at {w : World} {q : Option Addr} {l : List Bl} (h : Bls w q l) {i : Nat} {x : Bl} (hx : l[i]? = some x) : ∃ b o, q = some ⟨b, o, none⟩ ∧ w.cell? ⟨b, o + i, none⟩ = some (.slice x.q x.l.length x.c) := by
  obtain ⟨b, o, hp, hc⟩ := h (by intro e; subst e; simp at hx)
  exact ⟨b, o, hp, hc i x hx⟩
theorem Bls.below {w w' : World} {q : Option Addr} {l : List Bl} (h : Bls w q l) (hb : Below w.heap.size w w') : Bls w' q l := by
  intro hne
  obtain ⟨b, o, hp, hc⟩ := h hne
  refine ⟨b, o, hp, fun i u hi => ?_⟩
  have h1 := hc i u hi
  rw [hb.cell (World.block_lt_of_cell? _ _ h1)]
  exact h1
theorem BlsOk.below {w w' : World} {q : Option Addr} {m c : Nat} {l : List Bl} (h : BlsOk w q m c l) (hb : Below w.heap.size w w') : BlsOk w' q m c l := ⟨h.hn, h.h1, h.h2, h.hl.below hb, fun x hx => (h.ok x hx).below hb⟩

theorem cells_one : Try.prog.cellsOf 3 = 1 := by kernel_rfl
theorem cells_bytes : Try.prog.cellsOf 30 = 1 := by kernel_rfl

theorem open_keep {H : Type} {enc : TypeId × Value → H} {W : World} {fuel : Nat} {cs : List Value} {x : DataW H × List MemPlace}
    (h : DataW.trod enc Try.prog W 0 (fun _ => true) true fuel 31 cs = some x) : ∃ (q : Option Addr) (m c : Nat) (l : List Int), cs = [.slice q m c] ∧ KsOk W q m c l := by
  rcases Deep.open_slice Try.underlying31 h with ⟨hcs, _⟩ | ⟨a, len, cap, m, n, D, Pl, hcs, _, hl, hm, hmm, hx, hi⟩
  · exact ⟨none, 0, 0, [], hcs, rfl, by omega, by omega, fun h => absurd rfl h⟩
  · simp only [if_true] at hmm
    obtain rfl := hmm
    have hcell : ∀ i, i < len → ∃ t : Int, W.cells? 0 (a.add (i * 1)) 1 = some [.int .i64 t] := by
      intro i hil
      obtain ⟨cs', h1, h2⟩ := hi i (by omega)
      obtain ⟨s, e0, _, w0⟩ := DataW.trod_int Try.underlying3 h2
      rw [cells_one, e0] at h1
      exact ⟨s, h1⟩
    obtain ⟨F, hF⟩ := Deep.choose_lt hcell
    unfold maxLen at hm
    refine ⟨some a, len, m, (List.range len).map F, hcs, by simp, hl, by omega, ?_⟩
    intro hne
    have h0 : 0 < len := by
      rcases Nat.eq_zero_or_pos len with h | h
      · subst h; simp at hne
      · exact h
    obtain ⟨b, o, s⟩ := a
    have hs : s = none := by
      obtain ⟨_, _, hc⟩ := World.cells?_some (hF 0 h0)
      have := World.cell?_spot ((hc 0 (by omega)).trans rfl)
      simpa [Addr.add] using this
    subst hs
    refine ⟨b, o, rfl, fun i t hit => ?_⟩
    rw [List.getElem?_map] at hit
    have hil : i < len := by
      rcases Nat.lt_or_ge i len with h | h
      · exact h
      · rw [List.getElem?_eq_none (by simpa using h)] at hit
        cases hit
    rw [List.getElem?_eq_getElem (by simpa using hil)] at hit
    simp only [List.getElem_range, Option.map_some, Option.some.injEq] at hit
    subst hit
    obtain ⟨_, _, hc⟩ := World.cells?_some (hF i hil)
    have c0 := hc 0 (by omega)
    rw [Deep.add_add, add_plain, Nat.mul_one, Nat.add_zero] at c0
    exact c0

/-- A slice of bytes. -/
theorem open_bl {H : Type} {enc : TypeId × Value → H} {W : World} {fuel : Nat} {cs : List Value} {x : DataW H × List MemPlace}
    (h : DataW.trod enc Try.prog W 0 (fun _ => true) true fuel 30 cs = some x) : ∃ b : Bl, b.Ok W ∧ cs = [.slice b.q b.l.length b.c] := by
  rcases Deep.open_slice Try.underlying30 h with ⟨hcs, _⟩ | ⟨a, len, cap, m, n, D, Pl, hcs, _⟩
  · exact ⟨⟨none, 0, []⟩, ⟨Bs.nil _ _, Nat.le_refl _, by show 0 ≤ _; omega⟩, hcs⟩
  · subst hcs
    obtain ⟨l, hn, h1, h2, h3, _⟩ := opened (a0 := some a) (len := len) (cap := cap) (d0 := x.1) (p := x.2) ⟨fuel, h⟩
    subst hn
    exact ⟨⟨some a, cap, l⟩, ⟨h3, h1, h2⟩, rfl⟩

theorem open_lists {H : Type} {enc : TypeId × Value → H} {W : World} {fuel : Nat} {cs : List Value} {x : DataW H × List MemPlace}
    (h : DataW.trod enc Try.prog W 0 (fun _ => true) true fuel 39 cs = some x) : ∃ (q : Option Addr) (m c : Nat) (l : List Bl), cs = [.slice q m c] ∧ BlsOk W q m c l := by
  rcases Deep.open_slice Try.underlying39 h with ⟨hcs, _⟩ | ⟨a, len, cap, m, n, D, Pl, hcs, _, hl, hm, hmm, hx, hi⟩
  · exact ⟨none, 0, 0, [], hcs, rfl, by omega, by omega, fun h => absurd rfl h, by simp⟩
  · simp only [if_true] at hmm
    obtain rfl := hmm
    have hcell : ∀ i, i < len → ∃ t : Bl, t.Ok W ∧ W.cells? 0 (a.add (i * 1)) 1 = some [.slice t.q t.l.length t.c] := by
      intro i hil
      obtain ⟨cs', h1, h2⟩ := hi i (by omega)
      obtain ⟨t, ht, e⟩ := open_bl h2
      rw [cells_bytes, e] at h1
      exact ⟨t, ht, h1⟩
    haveI : Inhabited Bl := ⟨⟨none, 0, []⟩⟩
    obtain ⟨F, hF⟩ := Deep.choose_lt hcell
    unfold maxLen at hm
    refine ⟨some a, len, m, (List.range len).map F, hcs, by simp, hl, by omega, ?_, ?_⟩
    · intro hne
      have h0 : 0 < len := by
        rcases Nat.eq_zero_or_pos len with h | h
        · subst h; simp at hne
        · exact h
      obtain ⟨b, o, s⟩ := a
      have hs : s = none := by
        obtain ⟨_, _, hc⟩ := World.cells?_some (hF 0 h0).2
        have := World.cell?_spot ((hc 0 (by omega)).trans rfl)
        simpa [Addr.add] using this
      subst hs
      refine ⟨b, o, rfl, fun i t hit => ?_⟩
      rw [List.getElem?_map] at hit
      have hil : i < len := by
        rcases Nat.lt_or_ge i len with h | h
        · exact h
        · rw [List.getElem?_eq_none (by simpa using h)] at hit
          cases hit
      rw [List.getElem?_eq_getElem (by simpa using hil)] at hit
      simp only [List.getElem_range, Option.map_some, Option.some.injEq] at hit
      subst hit
      obtain ⟨_, _, hc⟩ := World.cells?_some (hF i hil).2
      have c0 := hc 0 (by omega)
      rw [Deep.add_add, add_plain, Nat.mul_one, Nat.add_zero] at c0
      exact c0
    · intro t ht
      obtain ⟨i, hi2, rfl⟩ := List.mem_map.1 ht
      exact (hF i (List.mem_range.1 hi2)).1

end Go.Proofs.Ytholgkmlfgmhfaa
