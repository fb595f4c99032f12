/-
  How an argument that is a list of acts on a list of pages opens, for the row's proof.
-/
import Derived.Test.YtfhchdoaaphfaaaKsRow
set_option linter.unusedVariables false
set_option maxRecDepth 100000
namespace Go.Proofs.Ytfhchdoaaphfaaa
open Go.ChangeShapes Go.WideShapes Go.ChangeAt Go.RowKit

/-- A call. -/
structure Af where
  kind : Int
  page : Int
  gen : Int

def Af.cells (a : Af) : List Value := [.int .i64 a.kind, .int .i64 a.page, .int .i64 a.gen]
structure Af.Ok (a : Af) : Prop where
  k1 : -9223372036854775808 ≤ a.page
  k2 : a.page ≤ 9223372036854775807

structure AfsOk (w : World) (q : Option Addr) (m c : Nat) (l : List Af) : Prop where
  hn : m = l.length
  h1 : m ≤ c
  h2 : c ≤ 9223372036854775807
  hl : l ≠ [] → ∃ b o, q = some ⟨b, o, none⟩ ∧ ∀ i x, l[i]? = some x → ∀ j v, x.cells[j]? = some v → w.cell? ⟨b, o + i * 3 + j, none⟩ = some v
  ok : ∀ x ∈ l, x.Ok

theorem AfsOk.below {w w' : World} {q : Option Addr} {m c : Nat} {l : List Af} (h : AfsOk w q m c l) (hb : Below w.heap.size w w') : AfsOk w' q m c l := by
  refine ⟨h.hn, h.h1, h.h2, fun hne => ?_, h.ok⟩
  obtain ⟨b, o, hq, hc⟩ := h.hl hne
  refine ⟨b, o, hq, fun i x hi j v hj => ?_⟩
  have h1 := hc i x hi j v hj
  rw [hb.cell (World.block_lt_of_cell? _ _ h1)]
  exact h1

theorem cells_actf : Try.prog.cellsOf 41 = 3 := by kernel_rfl

theorem open_actf {H : Type} {enc : TypeId × Value → H} {W : World} {fuel : Nat} {cs : List Value} {x : DataW H × List MemPlace}
    (h : DataW.trod enc Try.prog W 0 (fun _ => true) true fuel 41 cs = some x) : ∃ a : Af, a.Ok ∧ cs = a.cells := by
  obtain ⟨xs, n, _, _, hlen, hxl, hg⟩ := DataW.trod_struct Try.underlying41 h
  rw [cells_actf] at hlen
  match cs, hlen with
  | [c0, c1, c2], _ =>
    match xs, hxl with
    | [y0, y1, y2], _ =>
      have h0 : DataW.trod enc Try.prog W 0 (fun _ => true) true n 3 ((([c0, c1, c2]).drop 0).take (Try.prog.cellsOf 3)) = some y0 := hg 0 _ rfl
      have h1 : DataW.trod enc Try.prog W 0 (fun _ => true) true n 3 ((([c0, c1, c2]).drop 1).take (Try.prog.cellsOf 3)) = some y1 := hg 1 _ rfl
      have h2 : DataW.trod enc Try.prog W 0 (fun _ => true) true n 3 ((([c0, c1, c2]).drop 2).take (Try.prog.cellsOf 3)) = some y2 := hg 2 _ rfl
      rw [cells_one] at h0 h1 h2
      obtain ⟨s0, e0, _, w0⟩ := DataW.trod_int Try.underlying3 h0
      obtain ⟨s1, e1, _, w1⟩ := DataW.trod_int Try.underlying3 h1
      obtain ⟨s2, e2, _, w2⟩ := DataW.trod_int Try.underlying3 h2
      simp only [List.drop, List.take, List.cons.injEq, and_true] at e0 e1 e2
      subst e0 e1 e2
      have b1 := i64_bounds w1
      exact ⟨⟨s0, s1, s2⟩, ⟨b1.1, b1.2⟩, rfl⟩

theorem open_actfs {H : Type} {enc : TypeId × Value → H} {W : World} {fuel : Nat} {cs : List Value} {x : DataW H × List MemPlace}
    (h : DataW.trod enc Try.prog W 0 (fun _ => true) true fuel 36 cs = some x) : ∃ (q : Option Addr) (m c : Nat) (l : List Af), cs = [.slice q m c] ∧ AfsOk W q m c l := by
  rcases Deep.open_slice Try.underlying36 h with ⟨hcs, _⟩ | ⟨a, len, cap, m, n, D, Pl, hcs, _, hl, hm, hmm, hx, hi⟩
  · exact ⟨none, 0, 0, [], hcs, rfl, by omega, by omega, fun h => absurd rfl h, by simp⟩
  · simp only [if_true] at hmm
    obtain rfl := hmm
    have hcell : ∀ i, i < len → ∃ t : Af, t.Ok ∧ W.cells? 0 (a.add (i * 3)) 3 = some t.cells := by
      intro i hil
      obtain ⟨cs', h1, h2⟩ := hi i (by omega)
      obtain ⟨t, ht, e⟩ := open_actf h2
      rw [cells_actf, e] at h1
      exact ⟨t, ht, h1⟩
    haveI : Inhabited Af := ⟨⟨0, 0, 0⟩⟩
    obtain ⟨F, hF⟩ := Deep.choose_lt hcell
    unfold maxLen at hm
    refine ⟨some a, len, m, (List.range len).map F, hcs, by simp, hl, by omega, ?_, ?_⟩
    · intro hne
      have h0 : 0 < len := by
        rcases Nat.eq_zero_or_pos len with h | h
        · subst h; simp at hne
        · exact h
      obtain ⟨b, o, s⟩ := a
      have hs : s = none := by
        obtain ⟨_, _, hc⟩ := World.cells?_some (hF 0 h0).2
        have := World.cell?_spot ((hc 0 (by omega)).trans rfl)
        simpa [Addr.add] using this
      subst hs
      refine ⟨b, o, rfl, fun i t hit j v hj => ?_⟩
      rw [List.getElem?_map] at hit
      have hil : i < len := by
        rcases Nat.lt_or_ge i len with h | h
        · exact h
        · rw [List.getElem?_eq_none (by simpa using h)] at hit
          cases hit
      rw [List.getElem?_eq_getElem (by simpa using hil)] at hit
      simp only [List.getElem_range, Option.map_some, Option.some.injEq] at hit
      subst hit
      obtain ⟨_, _, hc⟩ := World.cells?_some (hF i hil).2
      have hj4 : j < 3 := (List.getElem?_eq_some_iff.1 hj).1
      have cj := hc j hj4
      rw [Deep.add_add, add_plain] at cj
      rw [Nat.add_assoc]
      exact cj.trans hj
    · intro t ht
      obtain ⟨i, hi2, rfl⟩ := List.mem_map.1 ht
      exact (hF i (List.mem_range.1 hi2)).1

end Go.Proofs.Ytfhchdoaaphfaaa
