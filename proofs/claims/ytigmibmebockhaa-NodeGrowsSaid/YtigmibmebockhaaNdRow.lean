/-
  How an argument that is a node opens, for the rows' proofs; and how great it may be.
-/
import Derived.Test.YtigmibmebockhaaRow
import Derived.Test.YtigmibmebockhaaKsRow
import Derived.Test.YtigmibmebockhaaNdFew
set_option linter.unusedVariables false
set_option maxRecDepth 100000
namespace Go.Proofs.Ytigmibmebockhaa
open Go.ChangeShapes Go.WideShapes Go.ChangeAt Go.RowKit

theorem cells_bytes : Try.prog.cellsOf 22 = 1 := by kernel_rfl
theorem cells_val : Try.prog.cellsOf 42 = 3 := by kernel_rfl
theorem cells_keys : Try.prog.cellsOf 23 = 1 := by kernel_rfl
theorem cells_vals : Try.prog.cellsOf 24 = 1 := by kernel_rfl
theorem cells_kids : Try.prog.cellsOf 25 = 1 := by kernel_rfl
theorem cells_bool : Try.prog.cellsOf 4 = 1 := by kernel_rfl
theorem cells_int1 : Try.prog.cellsOf 3 = 1 := by kernel_rfl
theorem cells_nd : Try.prog.cellsOf 27 = 4 := by kernel_rfl
theorem bytesKey : Try.prog.bytesOf 22 = 24 := by kernel_rfl
theorem bytesVal : Try.prog.bytesOf 42 = 40 := by kernel_rfl
theorem bytesInt : Try.prog.bytesOf 3 = 8 := by kernel_rfl
theorem nb_eq : reachBytes = Nb := rfl

section
variable {H : Type} {enc : TypeId × Value → H} {W : World} {fuel : Nat} {x : DataW H × List MemPlace}

theorem open_bytes {cs : List Value} (h : DataW.trod enc Try.prog W 0 (fun _ => true) true fuel 22 cs = some x) (hw : ∀ n ∈ x.1.weights Try.prog 22, n ≤ reachBytes) : ∃ b : Kb, b.Ok W ∧ cs = [.slice b.q b.l.length b.c] ∧ b.l.length ≤ Nb := by
  rcases Deep.open_slice Try.underlying22 h with ⟨hcs, _⟩ | ⟨a, len, cap, m, n, D, Pl, hcs, _, hl, hm, hmm, hx, hi⟩
  · exact ⟨⟨none, 0, []⟩, ⟨Bs.nil _ _, Nat.le_refl _, (by show 0 ≤ _; omega), fun _ => rfl⟩, hcs, Nat.zero_le _⟩
  · subst hcs
    obtain ⟨l, hn, h1, h2, h3, _⟩ := opened (a0 := some a) (len := len) (cap := cap) (d0 := x.1) (p := x.2) ⟨fuel, h⟩
    simp only [if_true] at hmm
    subst hmm
    have hb : len ≤ Nb := by
      rw [hx] at hw
      simp only [DataW.weights, Try.underlying22, bytesU8] at hw
      have := hw _ List.mem_cons_self
      rw [nb_eq] at this
      simp only [List.length_map, List.length_range] at this
      omega
    subst hn
    exact ⟨⟨some a, _, l⟩, ⟨h3, h1, h2, fun e => by cases e⟩, rfl, hb⟩

theorem nall_mem {P : Program} {e : TypeId} : ∀ {l : List (DataW H)} {d : DataW H}, d ∈ l → ∀ n ∈ d.weights P e, n ∈ DataW.weightsAll P e l
  | d' :: l, d, hd, n, hn => by
    rw [DataW.weightsAll, List.mem_append]
    rcases List.mem_cons.1 hd with rfl | h
    · exact .inl hn
    · exact .inr (nall_mem h n hn)

theorem open_val {cs : List Value} (h : DataW.trod enc Try.prog W 0 (fun _ => true) true fuel 42 cs = some x) (hw : ∀ n ∈ x.1.weights Try.prog 42, n ≤ reachBytes) : ∃ b : Vl, b.Ok W ∧ cs = [.slice b.q b.l.length b.c, .int .i64 b.g, .int .i64 b.p] ∧ b.l.length ≤ Nb := by
  obtain ⟨xs, n, _, hx, hlen, hxl, hg⟩ := DataW.trod_struct Try.underlying42 h
  rw [cells_val] at hlen
  match cs, hlen with
  | [c0, c1, c2], _ =>
    match xs, hxl with
    | [y0, y1, y2], _ =>
      have h0 : DataW.trod enc Try.prog W 0 (fun _ => true) true n 22 ((([c0, c1, c2]).drop 0).take (Try.prog.cellsOf 22)) = some y0 := hg 0 _ rfl
      have h1 : DataW.trod enc Try.prog W 0 (fun _ => true) true n 3 ((([c0, c1, c2]).drop 1).take (Try.prog.cellsOf 3)) = some y1 := hg 1 _ rfl
      have h2 : DataW.trod enc Try.prog W 0 (fun _ => true) true n 3 ((([c0, c1, c2]).drop 2).take (Try.prog.cellsOf 3)) = some y2 := hg 2 _ rfl
      rw [cells_bytes] at h0
      rw [cells_int1] at h1 h2
      obtain ⟨b, hb, e0, hs⟩ := open_bytes h0 fun k hk => hw k (by
        rw [hx]
        simp only [DataW.weights, Try.underlying42, List.map_cons, List.map_nil, DataW.weightsEach]
        simp [hk])
      obtain ⟨z1, e1, _, w1⟩ := DataW.trod_int Try.underlying3 h1
      obtain ⟨z2, e2, _, w2⟩ := DataW.trod_int Try.underlying3 h2
      simp only [List.drop, List.take, List.cons.injEq, and_true] at e0 e1 e2
      subst e0 e1 e2
      have b1 := i64_bounds w1
      have b2 := i64_bounds w2
      exact ⟨⟨b.q, b.c, b.l, z1, z2⟩, ⟨hb.bs, hb.h1, hb.h2, hb.z, b1.1, b1.2, b2.1, b2.2⟩, rfl, hs⟩

theorem open_keys {cs : List Value} (h : DataW.trod enc Try.prog W 0 (fun _ => true) true fuel 23 cs = some x) (hw : ∀ n ∈ x.1.weights Try.prog 23, n ≤ reachBytes) :
    ∃ (q : Option Addr) (c : Nat) (l : List Kb), cs = [.slice q l.length c] ∧ l.length ≤ c ∧ c ≤ 9223372036854775807 ∧ (q = none → c = 0) ∧ Kbs W q l ∧ (∀ x ∈ l, x.Ok W) ∧ l.length ≤ Nb ∧ ∀ x ∈ l, x.l.length ≤ Nb := by
  rcases Deep.open_slice Try.underlying23 h with ⟨hcs, _⟩ | ⟨a, len, cap, m, n, D, Pl, hcs, _, hl, hm, hmm, hx, hi⟩
  · exact ⟨none, 0, [], hcs, Nat.le_refl _, by omega, fun _ => rfl, fun h => absurd rfl h, by simp, Nat.zero_le _, by simp⟩
  · simp only [if_true] at hmm
    obtain rfl := hmm
    rw [hx] at hw
    simp only [DataW.weights, Try.underlying23, bytesKey] at hw
    have hcell : ∀ i, i < len → ∃ t : Kb, (t.Ok W ∧ t.l.length ≤ Nb) ∧ W.cells? 0 (a.add (i * 1)) 1 = some [.slice t.q t.l.length t.c] := by
      intro i hil
      obtain ⟨cs', h1, h2⟩ := hi i (by omega)
      obtain ⟨t, ht, e, hs⟩ := open_bytes h2 fun k hk => hw k (List.mem_cons_of_mem _ (List.mem_append_left _ (nall_mem (d := D i) (List.mem_map.2 ⟨i, List.mem_range.2 (by omega), rfl⟩) k hk)))
      rw [cells_bytes, e] at h1
      exact ⟨t, ⟨ht, hs⟩, h1⟩
    haveI : Inhabited Kb := ⟨⟨none, 0, []⟩⟩
    obtain ⟨F, hF⟩ := Deep.choose_lt hcell
    unfold maxLen at hm
    have hb := hw _ List.mem_cons_self
    rw [nb_eq] at hb
    simp only [List.length_map, List.length_range] at hb
    refine ⟨some a, m, (List.range len).map F, by rw [hcs]; simp, by simpa using hl, by omega, fun e => (by cases e), ?_, ?_, by rw [List.length_map, List.length_range]; omega, ?_⟩
    · intro hne
      have h0 : 0 < len := by
        rcases Nat.eq_zero_or_pos len with h | h
        · subst h; simp at hne
        · exact h
      obtain ⟨b, o, s⟩ := a
      have hs : s = none := by
        obtain ⟨_, _, hc⟩ := World.cells?_some (hF 0 h0).2
        have := World.cell?_spot ((hc 0 (by omega)).trans rfl)
        simpa [Addr.add] using this
      subst hs
      refine ⟨b, o, rfl, fun i t hit => ?_⟩
      rw [List.getElem?_map] at hit
      have hil : i < len := by
        rcases Nat.lt_or_ge i len with h | h
        · exact h
        · rw [List.getElem?_eq_none (by simpa using h)] at hit
          cases hit
      rw [List.getElem?_eq_getElem (by simpa using hil)] at hit
      simp only [List.getElem_range, Option.map_some, Option.some.injEq] at hit
      subst hit
      obtain ⟨_, _, hc⟩ := World.cells?_some (hF i hil).2
      have c0 := hc 0 (by omega)
      rw [Deep.add_add, add_plain, Nat.mul_one, Nat.add_zero] at c0
      exact c0
    · intro t ht
      obtain ⟨i, hi2, rfl⟩ := List.mem_map.1 ht
      exact (hF i (List.mem_range.1 hi2)).1.1
    · intro t ht
      obtain ⟨i, hi2, rfl⟩ := List.mem_map.1 ht
      exact (hF i (List.mem_range.1 hi2)).1.2

theorem open_vals {cs : List Value} (h : DataW.trod enc Try.prog W 0 (fun _ => true) true fuel 24 cs = some x) (hw : ∀ n ∈ x.1.weights Try.prog 24, n ≤ reachBytes) :
    ∃ (q : Option Addr) (c : Nat) (l : List Vl), cs = [.slice q l.length c] ∧ l.length ≤ c ∧ c ≤ 9223372036854775807 ∧ (q = none → c = 0) ∧ Vls W q l ∧ (∀ x ∈ l, x.Ok W) ∧ l.length ≤ Nb ∧ ∀ x ∈ l, x.l.length ≤ Nb := by
  rcases Deep.open_slice Try.underlying24 h with ⟨hcs, _⟩ | ⟨a, len, cap, m, n, D, Pl, hcs, _, hl, hm, hmm, hx, hi⟩
  · exact ⟨none, 0, [], hcs, Nat.le_refl _, by omega, fun _ => rfl, fun h => absurd rfl h, by simp, Nat.zero_le _, by simp⟩
  · simp only [if_true] at hmm
    obtain rfl := hmm
    rw [hx] at hw
    simp only [DataW.weights, Try.underlying24, bytesVal] at hw
    have hcell : ∀ i, i < len → ∃ t : Vl, (t.Ok W ∧ t.l.length ≤ Nb) ∧ W.cells? 0 (a.add (i * 3)) 3 = some [.slice t.q t.l.length t.c, .int .i64 t.g, .int .i64 t.p] := by
      intro i hil
      obtain ⟨cs', h1, h2⟩ := hi i (by omega)
      obtain ⟨t, ht, e, hs⟩ := open_val h2 fun k hk => hw k (List.mem_cons_of_mem _ (List.mem_append_left _ (nall_mem (d := D i) (List.mem_map.2 ⟨i, List.mem_range.2 (by omega), rfl⟩) k hk)))
      rw [cells_val, e] at h1
      exact ⟨t, ⟨ht, hs⟩, h1⟩
    haveI : Inhabited Vl := ⟨⟨none, 0, [], 0, 0⟩⟩
    obtain ⟨F, hF⟩ := Deep.choose_lt hcell
    unfold maxLen at hm
    have hb := hw _ List.mem_cons_self
    rw [nb_eq] at hb
    simp only [List.length_map, List.length_range] at hb
    refine ⟨some a, m, (List.range len).map F, by rw [hcs]; simp, by simpa using hl, by omega, fun e => (by cases e), ?_, ?_, by rw [List.length_map, List.length_range]; omega, ?_⟩
    · intro hne
      have h0 : 0 < len := by
        rcases Nat.eq_zero_or_pos len with h | h
        · subst h; simp at hne
        · exact h
      obtain ⟨b, o, s⟩ := a
      have hs : s = none := by
        obtain ⟨_, _, hc⟩ := World.cells?_some (hF 0 h0).2
        have := World.cell?_spot ((hc 0 (by omega)).trans rfl)
        simpa [Addr.add] using this
      subst hs
      refine ⟨b, o, rfl, fun i t hit => ?_⟩
      rw [List.getElem?_map] at hit
      have hil : i < len := by
        rcases Nat.lt_or_ge i len with h | h
        · exact h
        · rw [List.getElem?_eq_none (by simpa using h)] at hit
          cases hit
      rw [List.getElem?_eq_getElem (by simpa using hil)] at hit
      simp only [List.getElem_range, Option.map_some, Option.some.injEq] at hit
      subst hit
      obtain ⟨_, _, hc⟩ := World.cells?_some (hF i hil).2
      have c0 := hc 0 (by omega)
      have c1 := hc 1 (by omega)
      have c2 := hc 2 (by omega)
      rw [Deep.add_add, add_plain] at c0 c1 c2
      exact ⟨c0, c1, c2⟩
    · intro t ht
      obtain ⟨i, hi2, rfl⟩ := List.mem_map.1 ht
      exact (hF i (List.mem_range.1 hi2)).1.1
    · intro t ht
      obtain ⟨i, hi2, rfl⟩ := List.mem_map.1 ht
      exact (hF i (List.mem_range.1 hi2)).1.2

theorem open_kids {cs : List Value} (h : DataW.trod enc Try.prog W 0 (fun _ => true) true fuel 25 cs = some x) (hw : ∀ n ∈ x.1.weights Try.prog 25, n ≤ reachBytes) :
    ∃ (q : Option Addr) (c : Nat) (l : List Int), cs = [.slice q l.length c] ∧ l.length ≤ c ∧ c ≤ 9223372036854775807 ∧ (q = none → c = 0) ∧ Ks W q l ∧ (∀ x ∈ l, -9223372036854775808 ≤ x ∧ x ≤ 9223372036854775807) ∧ l.length ≤ Nb := by
  rcases Deep.open_slice Try.underlying25 h with ⟨hcs, _⟩ | ⟨a, len, cap, m, n, D, Pl, hcs, _, hl, hm, hmm, hx, hi⟩
  · exact ⟨none, 0, [], hcs, Nat.le_refl _, by omega, fun _ => rfl, fun h => absurd rfl h, by simp, Nat.zero_le _⟩
  · simp only [if_true] at hmm
    obtain rfl := hmm
    rw [hx] at hw
    simp only [DataW.weights, Try.underlying25, bytesInt] at hw
    have hcell : ∀ i, i < len → ∃ t : Int, (-9223372036854775808 ≤ t ∧ t ≤ 9223372036854775807) ∧ W.cells? 0 (a.add (i * 1)) 1 = some [.int .i64 t] := by
      intro i hil
      obtain ⟨cs', h1, h2⟩ := hi i (by omega)
      obtain ⟨s, e0, _, w0⟩ := DataW.trod_int Try.underlying3 h2
      rw [cells_int1, e0] at h1
      exact ⟨s, i64_bounds w0, h1⟩
    obtain ⟨F, hF⟩ := Deep.choose_lt hcell
    unfold maxLen at hm
    have hb := hw _ List.mem_cons_self
    rw [nb_eq] at hb
    simp only [List.length_map, List.length_range] at hb
    refine ⟨some a, m, (List.range len).map F, by rw [hcs]; simp, by simpa using hl, by omega, fun e => (by cases e), ?_, ?_, by rw [List.length_map, List.length_range]; omega⟩
    · intro hne
      have h0 : 0 < len := by
        rcases Nat.eq_zero_or_pos len with h | h
        · subst h; simp at hne
        · exact h
      obtain ⟨b, o, s⟩ := a
      have hs : s = none := by
        obtain ⟨_, _, hc⟩ := World.cells?_some (hF 0 h0).2
        have := World.cell?_spot ((hc 0 (by omega)).trans rfl)
        simpa [Addr.add] using this
      subst hs
      refine ⟨b, o, rfl, fun i t hit => ?_⟩
      rw [List.getElem?_map] at hit
      have hil : i < len := by
        rcases Nat.lt_or_ge i len with h | h
        · exact h
        · rw [List.getElem?_eq_none (by simpa using h)] at hit
          cases hit
      rw [List.getElem?_eq_getElem (by simpa using hil)] at hit
      simp only [List.getElem_range, Option.map_some, Option.some.injEq] at hit
      subst hit
      obtain ⟨_, _, hc⟩ := World.cells?_some (hF i hil).2
      have c0 := hc 0 (by omega)
      rw [Deep.add_add, add_plain, Nat.mul_one, Nat.add_zero] at c0
      exact c0
    · intro t ht
      obtain ⟨i, hi2, rfl⟩ := List.mem_map.1 ht
      exact (hF i (List.mem_range.1 hi2)).1
end

/-- A node. -/
theorem open_nd {H : Type} {enc : TypeId × Value → H} {W : World} {r : Reach} {b0 : Nat} {v : Value} {d : DataW H} {p : List MemPlace}
    (hv : Value.okWide Try.prog W r b0 27 v) (h : DataW.Trod enc Try.prog W 0 (fun _ => true) true 27 v d p) (hw : ∀ n ∈ d.weights Try.prog 27, n ≤ reachBytes) : ∃ n : Nd, v = n.cell ∧ n.Ok W ∧ n.Small := by
  obtain ⟨cs, rfl, hsz⟩ := okWide_struct Try.underlying27 hv
  obtain ⟨l⟩ := cs
  rw [cells_nd] at hsz
  match l, hsz with
  | [c0, c1, c2, c3], _ =>
    obtain ⟨fuel, hf⟩ := h
    obtain ⟨xs, n, _, hx, _, hxl, hg⟩ := DataW.trod_struct Try.underlying27 hf
    match xs, hxl with
    | [y0, y1, y2, y3], _ =>
      have h0 : DataW.trod enc Try.prog W 0 (fun _ => true) true n 4 ((([c0, c1, c2, c3]).drop 0).take (Try.prog.cellsOf 4)) = some y0 := hg 0 _ rfl
      have h1 : DataW.trod enc Try.prog W 0 (fun _ => true) true n 23 ((([c0, c1, c2, c3]).drop 1).take (Try.prog.cellsOf 23)) = some y1 := hg 1 _ rfl
      have h2 : DataW.trod enc Try.prog W 0 (fun _ => true) true n 24 ((([c0, c1, c2, c3]).drop 2).take (Try.prog.cellsOf 24)) = some y2 := hg 2 _ rfl
      have h3 : DataW.trod enc Try.prog W 0 (fun _ => true) true n 25 ((([c0, c1, c2, c3]).drop 3).take (Try.prog.cellsOf 25)) = some y3 := hg 3 _ rfl
      rw [cells_bool] at h0
      rw [cells_keys] at h1
      rw [cells_vals] at h2
      rw [cells_kids] at h3
      have hx1 := congrArg Prod.fst hx
      dsimp only at hx1
      rw [hx1] at hw
      have hw' : ∀ k, k ∈ y1.1.weights Try.prog 23 ∨ k ∈ y2.1.weights Try.prog 24 ∨ k ∈ y3.1.weights Try.prog 25 → k ≤ reachBytes := fun k hk => hw k (by
        simp only [DataW.weights, Try.underlying27, List.map_cons, List.map_nil, DataW.weightsEach]
        rcases hk with h | h | h <;> simp [h])
      obtain ⟨lf, e0, _⟩ := DataW.trod_bool Try.underlying4 h0
      obtain ⟨q1, d1, ks, e1, a1, a2, a3, a4, a5, a6, a7⟩ := open_keys h1 fun k hk => hw' k (.inl hk)
      obtain ⟨q2, d2, vs, e2, b1, b2, b3, b4, b5, b6, b7⟩ := open_vals h2 fun k hk => hw' k (.inr (.inl hk))
      obtain ⟨q3, d3, is, e3, i1, i2, i3, i4, i5, i6⟩ := open_kids h3 fun k hk => hw' k (.inr (.inr hk))
      simp only [List.drop, List.take, List.cons.injEq, and_true] at e0 e1 e2 e3
      subst e0 e1 e2 e3
      exact ⟨⟨lf, q1, d1, ks, q2, d2, vs, q3, d3, is⟩, rfl, ⟨a1, a2, a3, a4, a5, b1, b2, b3, b4, b5, i1, i2, i3, i4, i5⟩, ⟨a6, b6, i6, a7, b7⟩⟩

end Go.Proofs.Ytigmibmebockhaa
