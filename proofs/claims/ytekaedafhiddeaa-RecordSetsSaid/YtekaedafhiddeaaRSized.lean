/-
  How great arguments that are properties may be: what the rows' bound on what is read gives.
-/
import Derived.Test.YtekaedafhiddeaaRRow
import Derived.Test.YtekaedafhiddeaaRMem
import Derived.SizedLaws
set_option linter.unusedVariables false
set_option maxRecDepth 100000
namespace Go.Proofs.Ytekaedafhiddeaa
open Go.ChangeShapes Go.WideShapes Go.ChangeAt Go.RowKit

def Rb : Nat := 140737488351232
theorem rb_eq : reachBytes = Rb := rfl

def At.Small (a : At) : Prop := a.s.size ≤ Rb
def Va.Small (v : Va) : Prop := v.a.Small ∧ v.m ≤ Rb ∧ ∀ a ∈ v.l, a.Small
def Pr.Small (p : Pr) : Prop := p.n.size ≤ Rb ∧ p.v.Small

section
variable {H : Type} {enc : TypeId × Value → H} {W : World} {fuel : Nat} {x : DataW H × List MemPlace}

theorem str_small {s : ByteArray} (h : DataW.trod enc Try.prog W 0 (fun _ => true) true fuel 9 [.string s] = some x) (hw : ∀ n ∈ x.1.weights Try.prog 9, n ≤ reachBytes) : s.size ≤ Rb := by
  obtain ⟨s', e, rfl, _⟩ := DataW.trod_string Try.underlying9 h
  simp only [List.cons.injEq, Value.string.injEq, and_true] at e
  subst e
  have := hw s.data.toList.length (by simp [DataW.weights])
  exact this

theorem atom_small {a : At} (h : DataW.trod enc Try.prog W 0 (fun _ => true) true fuel 43 [.int .i64 a.k, .int .i64 a.n, .float .f64 a.f, .string a.s] = some x) (hw : ∀ n ∈ x.1.weights Try.prog 43, n ≤ reachBytes) : a.Small := by
  obtain ⟨xs, n, _, hx, hlen, hxl, hg⟩ := DataW.trod_struct Try.underlying43 h
  match xs, hxl with
  | [y0, y1, y2, y3], _ =>
    have h3 : DataW.trod enc Try.prog W 0 (fun _ => true) true n 9 ((([Value.int .i64 a.k, .int .i64 a.n, .float .f64 a.f, .string a.s]).drop 3).take (Try.prog.cellsOf 9)) = some y3 := hg 3 _ rfl
    rw [cells_str] at h3
    refine str_small (s := a.s) h3 fun k hk => hw k ?_
    rw [hx]
    simp only [DataW.weights, Try.underlying43, List.map_cons, List.map_nil, DataW.weightsEach]
    simp [hk]

theorem all_mem {P : Program} {e : TypeId} : ∀ {l : List (DataW H)} {d : DataW H}, d ∈ l → ∀ n ∈ d.weights P e, n ∈ DataW.weightsAll P e l
  | d' :: l, d, hd, n, hn => by
    rw [DataW.weightsAll, List.mem_append]
    rcases List.mem_cons.1 hd with rfl | h
    · exact .inl hn
    · exact .inr (all_mem h n hn)

theorem bytesAtom : Try.prog.bytesOf 43 = 40 := by kernel_rfl
theorem bytesProp : Try.prog.bytesOf 48 = 80 := by kernel_rfl

theorem list_small {q : Option Addr} {m c : Nat} {l : List At} (h : DataW.trod enc Try.prog W 0 (fun _ => true) true fuel 44 [.slice q m c] = some x) (hl : As W q l) (hn : m = l.length) (hw : ∀ n ∈ x.1.weights Try.prog 44, n ≤ reachBytes) : m ≤ Rb ∧ ∀ a ∈ l, a.Small := by
  rcases Deep.open_slice Try.underlying44 h with ⟨hcs, _⟩ | ⟨a, len, cap, k, n, D, Pl, hcs, _, hlc, hm, hmm, hx, hi⟩
  · simp only [List.cons.injEq, Value.slice.injEq, and_true] at hcs
    obtain ⟨rfl, rfl, rfl⟩ := hcs
    obtain rfl := List.eq_nil_of_length_eq_zero hn.symm
    exact ⟨by decide, fun a h => by cases h⟩
  · simp only [if_true] at hmm
    subst hmm
    simp only [List.cons.injEq, Value.slice.injEq, and_true] at hcs
    obtain ⟨rfl, rfl, rfl⟩ := hcs
    rw [hx] at hw
    simp only [DataW.weights, Try.underlying44, bytesAtom] at hw
    refine ⟨?_, fun t ht => ?_⟩
    · have := hw _ List.mem_cons_self
      rw [rb_eq] at this
      simp only [List.length_map, List.length_range] at this
      omega
    · obtain ⟨i, hil, rfl⟩ := List.mem_iff_getElem.1 ht
      obtain ⟨cs', h1, h2⟩ := hi i (by omega)
      rw [cells_atom] at h1
      obtain ⟨b, o, hp, hc⟩ := hl (by intro e; subst e; simp at hil)
      obtain rfl := Option.some.inj hp
      have hat := hc i _ (List.getElem?_eq_getElem hil)
      obtain ⟨_, hlen, hget⟩ := World.cells?_some h1
      have e : cs' = [.int .i64 l[i].k, .int .i64 l[i].n, .float .f64 l[i].f, .string l[i].s] := by
        have c0 := hget 0 (by omega)
        have c1 := hget 1 (by omega)
        have c2 := hget 2 (by omega)
        have c3 := hget 3 (by omega)
        rw [Deep.add_add, add_plain] at c0 c1 c2 c3
        match cs', hlen with
        | [d0, d1, d2, d3], _ =>
          obtain rfl := Option.some.inj (hat.k.symm.trans c0)
          obtain rfl := Option.some.inj (hat.n.symm.trans c1)
          obtain rfl := Option.some.inj (hat.f.symm.trans c2)
          obtain rfl := Option.some.inj (hat.s.symm.trans c3)
          rfl
      rw [e] at h2
      refine atom_small h2 fun k hk => hw k ?_
      refine List.mem_cons_of_mem _ (List.mem_append_left _ (all_mem (d := D i) ?_ k hk))
      exact List.mem_map.2 ⟨i, List.mem_range.2 (by omega), rfl⟩

theorem value_small {v : Va} (h : DataW.trod enc Try.prog W 0 (fun _ => true) true fuel 46 [.int .i64 v.a.k, .int .i64 v.a.n, .float .f64 v.a.f, .string v.a.s, .slice v.q v.m v.c] = some x) (hl : As W v.q v.l) (hn : v.m = v.l.length) (hw : ∀ n ∈ x.1.weights Try.prog 46, n ≤ reachBytes) : v.Small := by
  obtain ⟨xs, n, _, hx, hlen, hxl, hg⟩ := DataW.trod_struct Try.underlying46 h
  match xs, hxl with
  | [y0, y1], _ =>
    have h0 : DataW.trod enc Try.prog W 0 (fun _ => true) true n 43 ((([Value.int .i64 v.a.k, .int .i64 v.a.n, .float .f64 v.a.f, .string v.a.s, .slice v.q v.m v.c]).drop 0).take (Try.prog.cellsOf 43)) = some y0 := hg 0 _ rfl
    have h1 : DataW.trod enc Try.prog W 0 (fun _ => true) true n 44 ((([Value.int .i64 v.a.k, .int .i64 v.a.n, .float .f64 v.a.f, .string v.a.s, .slice v.q v.m v.c]).drop 4).take (Try.prog.cellsOf 44)) = some y1 := hg 1 _ rfl
    rw [cells_atom] at h0
    rw [cells_list] at h1
    have hw' : ∀ n, n ∈ y0.1.weights Try.prog 43 ∨ n ∈ y1.1.weights Try.prog 44 → n ≤ reachBytes := fun k hk => hw k (by
      rw [hx]
      simp only [DataW.weights, Try.underlying46, List.map_cons, List.map_nil, DataW.weightsEach]
      simpa using hk)
    obtain ⟨g1, g2⟩ := list_small h1 hl hn fun k hk => hw' k (.inr hk)
    exact ⟨atom_small (a := v.a) h0 fun k hk => hw' k (.inl hk), g1, g2⟩
theorem prop_small {p : Pr} (h : DataW.trod enc Try.prog W 0 (fun _ => true) true fuel 48 [.string p.n, .int .i64 p.v.a.k, .int .i64 p.v.a.n, .float .f64 p.v.a.f, .string p.v.a.s, .slice p.v.q p.v.m p.v.c] = some x) (hok : p.Ok W) (hw : ∀ n ∈ x.1.weights Try.prog 48, n ≤ reachBytes) : p.Small := by
  obtain ⟨xs, n, _, hx, hlen, hxl, hg⟩ := DataW.trod_struct Try.underlying48 h
  match xs, hxl with
  | [y0, y1], _ =>
    have h0 : DataW.trod enc Try.prog W 0 (fun _ => true) true n 9 ((([Value.string p.n, .int .i64 p.v.a.k, .int .i64 p.v.a.n, .float .f64 p.v.a.f, .string p.v.a.s, .slice p.v.q p.v.m p.v.c]).drop 0).take (Try.prog.cellsOf 9)) = some y0 := hg 0 _ rfl
    have h1 : DataW.trod enc Try.prog W 0 (fun _ => true) true n 46 ((([Value.string p.n, .int .i64 p.v.a.k, .int .i64 p.v.a.n, .float .f64 p.v.a.f, .string p.v.a.s, .slice p.v.q p.v.m p.v.c]).drop 1).take (Try.prog.cellsOf 46)) = some y1 := hg 1 _ rfl
    rw [cells_str] at h0
    rw [cells_value] at h1
    have hw' : ∀ n, n ∈ y0.1.weights Try.prog 9 ∨ n ∈ y1.1.weights Try.prog 46 → n ≤ reachBytes := fun k hk => hw k (by
      rw [hx]
      simp only [DataW.weights, Try.underlying48, List.map_cons, List.map_nil, DataW.weightsEach]
      simpa using hk)
    exact ⟨str_small h0 fun k hk => hw' k (.inl hk), value_small (v := p.v) h1 hok.v.hl hok.v.hn fun k hk => hw' k (.inr hk)⟩
theorem props_small {q : Option Addr} {m c : Nat} {l : List Pr} (h : DataW.trod enc Try.prog W 0 (fun _ => true) true fuel 23 [.slice q m c] = some x) (hl : PsOk W q m c l) (hw : ∀ n ∈ x.1.weights Try.prog 23, n ≤ reachBytes) : m ≤ Rb ∧ ∀ a ∈ l, a.Small := by
  have hn := hl.hn
  rcases Deep.open_slice Try.underlying23 h with ⟨hcs, _⟩ | ⟨a, len, cap, k, n, D, Pl, hcs, _, hlc, hm, hmm, hx, hi⟩
  · simp only [List.cons.injEq, Value.slice.injEq, and_true] at hcs
    obtain ⟨rfl, rfl, rfl⟩ := hcs
    obtain rfl := List.eq_nil_of_length_eq_zero hn.symm
    exact ⟨by decide, fun a h => by cases h⟩
  · simp only [if_true] at hmm
    subst hmm
    simp only [List.cons.injEq, Value.slice.injEq, and_true] at hcs
    obtain ⟨rfl, rfl, rfl⟩ := hcs
    rw [hx] at hw
    simp only [DataW.weights, Try.underlying23, bytesProp] at hw
    refine ⟨?_, fun t ht => ?_⟩
    · have := hw _ List.mem_cons_self
      rw [rb_eq] at this
      simp only [List.length_map, List.length_range] at this
      omega
    · obtain ⟨i, hil, rfl⟩ := List.mem_iff_getElem.1 ht
      obtain ⟨cs', h1, h2⟩ := hi i (by omega)
      rw [cells_prop] at h1
      obtain ⟨hok, b, o, hp, hat⟩ := hl.hl.at (List.getElem?_eq_getElem hil)
      obtain rfl := Option.some.inj hp
      obtain ⟨_, hlen, hget⟩ := World.cells?_some h1
      have e : cs' = [.string l[i].n, .int .i64 l[i].v.a.k, .int .i64 l[i].v.a.n, .float .f64 l[i].v.a.f, .string l[i].v.a.s, .slice l[i].v.q l[i].v.m l[i].v.c] := by
        have c0 := hget 0 (by omega)
        have c1 := hget 1 (by omega)
        have c2 := hget 2 (by omega)
        have c3 := hget 3 (by omega)
        have c4 := hget 4 (by omega)
        have c5 := hget 5 (by omega)
        rw [Deep.add_add, add_plain] at c0 c1 c2 c3 c4 c5
        match cs', hlen with
        | [d0, d1, d2, d3, d4, d5], _ =>
          obtain rfl := Option.some.inj (hat.n.symm.trans c0)
          obtain rfl := Option.some.inj (hat.v.symm.trans c1)
          obtain rfl := Option.some.inj (hat.m.symm.trans c2)
          obtain rfl := Option.some.inj (hat.f.symm.trans c3)
          obtain rfl := Option.some.inj (hat.s.symm.trans c4)
          obtain rfl := Option.some.inj (hat.l.symm.trans c5)
          rfl
      rw [e] at h2
      refine prop_small h2 hok fun k hk => hw k ?_
      refine List.mem_cons_of_mem _ (List.mem_append_left _ (all_mem (d := D i) ?_ k hk))
      exact List.mem_map.2 ⟨i, List.mem_range.2 (by omega), rfl⟩
end

end Go.Proofs.Ytekaedafhiddeaa
