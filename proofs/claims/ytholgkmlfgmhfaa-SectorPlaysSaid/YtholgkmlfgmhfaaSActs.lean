/-
  How an argument that is a list of acts opens, for the row's proof.
-/
import Derived.Test.YtholgkmlfgmhfaaSRow
set_option linter.unusedVariables false
set_option maxRecDepth 100000
namespace Go.Proofs.Ytholgkmlfgmhfaa
open Go.ChangeShapes Go.WideShapes Go.ChangeAt Go.RowKit

/-- A call. -/
structure Ac where
  kind : Int
  k : Int
  b : Bl
  q : Option Addr
  c : Nat
  keep : List Int

def Ac.cells (a : Ac) : List Value := [.int .i64 a.kind, .int .i64 a.k, .slice a.b.q a.b.l.length a.b.c, .slice a.q a.keep.length a.c]
structure Ac.Ok (w : World) (a : Ac) : Prop where
  k1 : -9223372036854775808 ≤ a.k
  k2 : a.k ≤ 9223372036854775807
  b : a.b.Ok w
  b0 : a.b.q = none → a.b.c = 0
  keep : KsOk w a.q a.keep.length a.c a.keep

structure AcsOk (w : World) (q : Option Addr) (m c : Nat) (l : List Ac) : Prop where
  hn : m = l.length
  h1 : m ≤ c
  h2 : c ≤ 9223372036854775807
  hl : l ≠ [] → ∃ b o, q = some ⟨b, o, none⟩ ∧ ∀ i x, l[i]? = some x → ∀ j v, x.cells[j]? = some v → w.cell? ⟨b, o + i * 4 + j, none⟩ = some v
  ok : ∀ x ∈ l, x.Ok w

theorem cells_keep : Try.prog.cellsOf 31 = 1 := by kernel_rfl
theorem cells_act : Try.prog.cellsOf 33 = 4 := by kernel_rfl

theorem bl_zero {H : Type} {enc : TypeId × Value → H} {W : World} {fuel : Nat} {cs : List Value} {x : DataW H × List MemPlace}
    (h : DataW.trod enc Try.prog W 0 (fun _ => true) true fuel 30 cs = some x) : ∃ b : Bl, b.Ok W ∧ (b.q = none → b.c = 0) ∧ cs = [.slice b.q b.l.length b.c] := by
  rcases Deep.open_slice Try.underlying30 h with ⟨hcs, _⟩ | ⟨a, len, cap, m, n, D, Pl, hcs, _⟩
  · exact ⟨⟨none, 0, []⟩, ⟨Bs.nil _ _, Nat.le_refl _, by show 0 ≤ _; omega⟩, fun _ => rfl, hcs⟩
  · subst hcs
    obtain ⟨l, hn, h1, h2, h3, _⟩ := opened (a0 := some a) (len := len) (cap := cap) (d0 := x.1) (p := x.2) ⟨fuel, h⟩
    subst hn
    exact ⟨⟨some a, cap, l⟩, ⟨h3, h1, h2⟩, (fun h => by cases h), rfl⟩

theorem open_act {H : Type} {enc : TypeId × Value → H} {W : World} {fuel : Nat} {cs : List Value} {x : DataW H × List MemPlace}
    (h : DataW.trod enc Try.prog W 0 (fun _ => true) true fuel 33 cs = some x) : ∃ a : Ac, a.Ok W ∧ cs = a.cells := by
  obtain ⟨xs, n, _, _, hlen, hxl, hg⟩ := DataW.trod_struct Try.underlying33 h
  rw [cells_act] at hlen
  match cs, hlen with
  | [c0, c1, c2, c3], _ =>
    match xs, hxl with
    | [y0, y1, y2, y3], _ =>
      have h0 : DataW.trod enc Try.prog W 0 (fun _ => true) true n 3 ((([c0, c1, c2, c3]).drop 0).take (Try.prog.cellsOf 3)) = some y0 := hg 0 _ rfl
      have h1 : DataW.trod enc Try.prog W 0 (fun _ => true) true n 3 ((([c0, c1, c2, c3]).drop 1).take (Try.prog.cellsOf 3)) = some y1 := hg 1 _ rfl
      have h2 : DataW.trod enc Try.prog W 0 (fun _ => true) true n 30 ((([c0, c1, c2, c3]).drop 2).take (Try.prog.cellsOf 30)) = some y2 := hg 2 _ rfl
      have h3 : DataW.trod enc Try.prog W 0 (fun _ => true) true n 31 ((([c0, c1, c2, c3]).drop 3).take (Try.prog.cellsOf 31)) = some y3 := hg 3 _ rfl
      rw [cells_one] at h0 h1
      rw [cells_bytes] at h2
      rw [cells_keep] at h3
      obtain ⟨s0, e0, _, w0⟩ := DataW.trod_int Try.underlying3 h0
      obtain ⟨s1, e1, _, w1⟩ := DataW.trod_int Try.underlying3 h1
      obtain ⟨b, hb, hb0, e2⟩ := bl_zero h2
      obtain ⟨q, m, c, l, e3, hk⟩ := open_keep h3
      simp only [List.drop, List.take, List.cons.injEq, and_true] at e0 e1 e2 e3
      subst e0 e1 e2 e3
      obtain rfl := hk.hn
      have b1 := i64_bounds w1
      exact ⟨⟨s0, s1, b, q, c, l⟩, ⟨b1.1, b1.2, hb, hb0, hk⟩, rfl⟩

theorem open_acts {H : Type} {enc : TypeId × Value → H} {W : World} {fuel : Nat} {cs : List Value} {x : DataW H × List MemPlace}
    (h : DataW.trod enc Try.prog W 0 (fun _ => true) true fuel 22 cs = some x) : ∃ (q : Option Addr) (m c : Nat) (l : List Ac), cs = [.slice q m c] ∧ AcsOk W q m c l := by
  rcases Deep.open_slice Try.underlying22 h with ⟨hcs, _⟩ | ⟨a, len, cap, m, n, D, Pl, hcs, _, hl, hm, hmm, hx, hi⟩
  · exact ⟨none, 0, 0, [], hcs, rfl, by omega, by omega, fun h => absurd rfl h, by simp⟩
  · simp only [if_true] at hmm
    obtain rfl := hmm
    have hcell : ∀ i, i < len → ∃ t : Ac, t.Ok W ∧ W.cells? 0 (a.add (i * 4)) 4 = some t.cells := by
      intro i hil
      obtain ⟨cs', h1, h2⟩ := hi i (by omega)
      obtain ⟨t, ht, e⟩ := open_act h2
      rw [cells_act, e] at h1
      exact ⟨t, ht, h1⟩
    haveI : Inhabited Ac := ⟨⟨0, 0, ⟨none, 0, []⟩, none, 0, []⟩⟩
    obtain ⟨F, hF⟩ := Deep.choose_lt hcell
    unfold maxLen at hm
    refine ⟨some a, len, m, (List.range len).map F, hcs, by simp, hl, by omega, ?_, ?_⟩
    · intro hne
      have h0 : 0 < len := by
        rcases Nat.eq_zero_or_pos len with h | h
        · subst h; simp at hne
        · exact h
      obtain ⟨b, o, s⟩ := a
      have hs : s = none := by
        obtain ⟨_, _, hc⟩ := World.cells?_some (hF 0 h0).2
        have := World.cell?_spot ((hc 0 (by omega)).trans rfl)
        simpa [Addr.add] using this
      subst hs
      refine ⟨b, o, rfl, fun i t hit j v hj => ?_⟩
      rw [List.getElem?_map] at hit
      have hil : i < len := by
        rcases Nat.lt_or_ge i len with h | h
        · exact h
        · rw [List.getElem?_eq_none (by simpa using h)] at hit
          cases hit
      rw [List.getElem?_eq_getElem (by simpa using hil)] at hit
      simp only [List.getElem_range, Option.map_some, Option.some.injEq] at hit
      subst hit
      obtain ⟨_, _, hc⟩ := World.cells?_some (hF i hil).2
      have hj4 : j < 4 := (List.getElem?_eq_some_iff.1 hj).1
      have cj := hc j hj4
      rw [Deep.add_add, add_plain] at cj
      rw [Nat.add_assoc]
      exact cj.trans hj
    · intro t ht
      obtain ⟨i, hi2, rfl⟩ := List.mem_map.1 ht
      exact (hF i (List.mem_range.1 hi2)).1

end Go.Proofs.Ytholgkmlfgmhfaa
