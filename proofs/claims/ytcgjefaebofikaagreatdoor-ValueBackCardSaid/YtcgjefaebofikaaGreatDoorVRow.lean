/-
  How arguments that are atoms, values and lists of atoms open, for the rows' proofs.
-/
import Derived.Test.YtcgjefaebofikaaGreatDoorFRow
import Derived.Test.YtcgjefaebofikaaGreatDoorVAt
import Derived.Deep.Slices
set_option linter.unusedVariables false
set_option maxRecDepth 100000
namespace Go.Proofs.YtcgjefaebofikaaGreatDoor
open Go.ChangeShapes Go.WideShapes Go.ChangeAt Go.RowKit

section
variable {H : Type} {enc : TypeId × Value → H} {P : Program} {w : World} {base : Nat} {spare : Nat → Bool} {held : Bool} {fuel : Nat} {t : TypeId} {cs : List Value} {x : DataW H × List MemPlace}
theorem trod_float {k : FloatKind} (ht : P.underlying t = some (.float k)) (h : DataW.trod enc P w base spare held fuel t cs = some x) : ∃ b, cs = [.float k b] ∧ (Lit.float k b).wf = true := by
  cases fuel with
  | zero => simp [DataW.trod] at h
  | succ n =>
    unfold DataW.trod at h
    rw [ht] at h
    split at h <;> simp_all
end

theorem cells_atom : Tryz.prog.cellsOf 24 = 4 := by kernel_rfl
theorem cells_value : Tryz.prog.cellsOf 27 = 5 := by kernel_rfl
theorem cells_float : Tryz.prog.cellsOf 22 = 1 := by kernel_rfl
theorem cells_list : Tryz.prog.cellsOf 25 = 1 := by kernel_rfl

/-- An atom. -/
theorem open_atom {H : Type} {enc : TypeId × Value → H} {W : World} {fuel : Nat} {cs : List Value} {x : DataW H × List MemPlace}
    (h : DataW.trod enc Tryz.prog W 0 (fun _ => true) true fuel 24 cs = some x) : ∃ a : At, a.Ok ∧ cs = [.int .i64 a.k, .int .i64 a.n, .float .f64 a.f, .string a.s] := by
  obtain ⟨xs, n, _, _, hlen, hxl, hg⟩ := DataW.trod_struct Tryz.underlying24 h
  rw [cells_atom] at hlen
  match cs, hlen with
  | [c0, c1, c2, c3], _ =>
    match xs, hxl with
    | [y0, y1, y2, y3], _ =>
      have h0 : DataW.trod enc Tryz.prog W 0 (fun _ => true) true n 3 ((([c0, c1, c2, c3]).drop 0).take (Tryz.prog.cellsOf 3)) = some y0 := hg 0 _ rfl
      have h1 : DataW.trod enc Tryz.prog W 0 (fun _ => true) true n 3 ((([c0, c1, c2, c3]).drop 1).take (Tryz.prog.cellsOf 3)) = some y1 := hg 1 _ rfl
      have h2 : DataW.trod enc Tryz.prog W 0 (fun _ => true) true n 22 ((([c0, c1, c2, c3]).drop 2).take (Tryz.prog.cellsOf 22)) = some y2 := hg 2 _ rfl
      have h3 : DataW.trod enc Tryz.prog W 0 (fun _ => true) true n 9 ((([c0, c1, c2, c3]).drop 3).take (Tryz.prog.cellsOf 9)) = some y3 := hg 3 _ rfl
      rw [cells_int] at h0 h1
      rw [cells_float] at h2
      rw [cells_str] at h3
      obtain ⟨k, e0, _, w0⟩ := DataW.trod_int Tryz.underlying3 h0
      obtain ⟨m, e1, _, w1⟩ := DataW.trod_int Tryz.underlying3 h1
      obtain ⟨f, e2, w2⟩ := trod_float Tryz.underlying22 h2
      obtain ⟨s, e3, _, w3⟩ := DataW.trod_string Tryz.underlying9 h3
      simp only [List.drop, List.take, List.cons.injEq, and_true] at e0 e1 e2 e3
      subst e0 e1 e2 e3
      have b0 := i64_bounds w0
      have b1 := i64_bounds w1
      have b2 := flt_lt w2
      unfold maxLen at w3
      exact ⟨⟨k, m, f, s⟩, ⟨b0.1, b0.2, b1.1, b1.2, b2, by dsimp only; omega⟩, rfl⟩

/-- A list of atoms. -/
theorem open_list {H : Type} {enc : TypeId × Value → H} {W : World} {fuel : Nat} {cs : List Value} {x : DataW H × List MemPlace}
    (h : DataW.trod enc Tryz.prog W 0 (fun _ => true) true fuel 25 cs = some x) :
    ∃ (q : Option Addr) (m c : Nat) (l : List At), cs = [.slice q m c] ∧ m = l.length ∧ m ≤ c ∧ c ≤ 9223372036854775807 ∧ As W q l ∧ (∀ a ∈ l, a.Ok) := by
  rcases Deep.open_slice Tryz.underlying25 h with ⟨hcs, _⟩ | ⟨a, len, cap, m, n, D, Pl, hcs, _, hl, hm, hmm, hx, hi⟩
  · exact ⟨none, 0, 0, [], hcs, rfl, by omega, by omega, As.nil _ _, fun a h => by cases h⟩
  · simp only [if_true] at hmm
    obtain rfl := hmm
    have hcell : ∀ i, i < len → ∃ t : At, t.Ok ∧ W.cells? 0 (a.add (i * 4)) 4 = some [.int .i64 t.k, .int .i64 t.n, .float .f64 t.f, .string t.s] := by
      intro i hil
      obtain ⟨cs', h1, h2⟩ := hi i (by omega)
      obtain ⟨t, ht, e⟩ := open_atom h2
      rw [cells_atom, e] at h1
      exact ⟨t, ht, h1⟩
    haveI : Inhabited At := ⟨⟨0, 0, 0, .empty⟩⟩
    obtain ⟨F, hF⟩ := Deep.choose_lt hcell
    unfold maxLen at hm
    refine ⟨some a, len, m, (List.range len).map F, hcs, by simp, hl, by omega, ?_, ?_⟩
    · intro hne
      have h0 : 0 < len := by
        rcases Nat.eq_zero_or_pos len with h | h
        · subst h; simp at hne
        · exact h
      obtain ⟨b, o, s⟩ := a
      have hs : s = none := by
        obtain ⟨_, _, hc⟩ := World.cells?_some (hF 0 h0).2
        have := World.cell?_spot ((hc 0 (by omega)).trans rfl)
        simpa [Addr.add] using this
      subst hs
      refine ⟨b, o, rfl, fun i t hit => ?_⟩
      rw [List.getElem?_map] at hit
      have hil : i < len := by
        rcases Nat.lt_or_ge i len with h | h
        · exact h
        · rw [List.getElem?_eq_none (by simpa using h)] at hit
          cases hit
      rw [List.getElem?_eq_getElem (by simpa using hil)] at hit
      simp only [List.getElem_range, Option.map_some, Option.some.injEq] at hit
      subst hit
      obtain ⟨_, _, hc⟩ := World.cells?_some (hF i hil).2
      have c0 := hc 0 (by omega)
      have c1 := hc 1 (by omega)
      have c2 := hc 2 (by omega)
      have c3 := hc 3 (by omega)
      rw [Deep.add_add, add_plain] at c0 c1 c2 c3
      exact ⟨c0, c1, c2, c3⟩
    · intro t ht
      obtain ⟨i, hi2, rfl⟩ := List.mem_map.1 ht
      exact (hF i (List.mem_range.1 hi2)).1

/-- A value. -/
theorem open_value {H : Type} {enc : TypeId × Value → H} {W : World} {r : Reach} {b0 : Nat} {v : Value} {d : DataW H} {p : List MemPlace}
    (hv : Value.okWide Tryz.prog W r b0 27 v) (h : DataW.Trod enc Tryz.prog W 0 (fun _ => true) true 27 v d p) :
    ∃ (k n : Int) (f : Nat) (s : ByteArray) (q : Option Addr) (m c : Nat) (l : List At), v = .agg #[.int .i64 k, .int .i64 n, .float .f64 f, .string s, .slice q m c] ∧ VaOk W ⟨k, n, f, s⟩ q m c l := by
  obtain ⟨cs, rfl, hsz⟩ := okWide_struct Tryz.underlying27 hv
  obtain ⟨l⟩ := cs
  rw [cells_value] at hsz
  match l, hsz with
  | [c0, c1, c2, c3, c4], _ =>
    obtain ⟨fuel, hf⟩ := h
    obtain ⟨xs, n, _, _, _, hxl, hg⟩ := DataW.trod_struct Tryz.underlying27 hf
    match xs, hxl with
    | [y0, y1], _ =>
      have h0 : DataW.trod enc Tryz.prog W 0 (fun _ => true) true n 24 ((([c0, c1, c2, c3, c4]).drop 0).take (Tryz.prog.cellsOf 24)) = some y0 := hg 0 _ rfl
      have h1 : DataW.trod enc Tryz.prog W 0 (fun _ => true) true n 25 ((([c0, c1, c2, c3, c4]).drop 4).take (Tryz.prog.cellsOf 25)) = some y1 := hg 1 _ rfl
      rw [cells_atom] at h0
      rw [cells_list] at h1
      obtain ⟨a, ha, e0⟩ := open_atom h0
      obtain ⟨q, m, c, l, e1, hn, hm1, hm2, hl, hok⟩ := open_list h1
      simp only [List.drop, List.take, List.cons.injEq, and_true] at e0 e1
      obtain ⟨rfl, rfl, rfl, rfl⟩ := e0
      subst e1
      exact ⟨a.k, a.n, a.f, a.s, q, m, c, l, rfl, ha, hn, hm1, hm2, hl, hok⟩

end Go.Proofs.YtcgjefaebofikaaGreatDoor
