/-
  Records: properties that are set one by one, in whichever order; plain facts. Lists of ints in memory.
-/
import Derived.Test.YtocplkiomlocpaaRSetS
set_option linter.unusedVariables false
set_option maxRecDepth 100000
namespace Go.Proofs.Ytocplkiomlocpaa
open Go.RowKit

/-- The ints l lie at p (of none nothing is said). -/
def Is (w : World) (p : Option Addr) (l : List Int) : Prop :=
  l ≠ [] → ∃ b o, p = some ⟨b, o, none⟩ ∧ ∀ i s, l[i]? = some s → w.cell? ⟨b, o + i, none⟩ = some (.int .i64 s)
theorem Is.at {w : World} {p : Option Addr} {l : List Int} (h : Is w p l) {j : Nat} {s : Int} (hj : l[j]? = some s) :
    ∃ b o, p = some ⟨b, o, none⟩ ∧ b < w.heap.size ∧ w.cell? ⟨b, o + j, none⟩ = some (.int .i64 s) := by
  obtain ⟨b, o, hp, hc⟩ := h (by intro e; subst e; simp at hj)
  refine ⟨b, o, hp, ?_, hc j s hj⟩
  have := World.block_lt_of_cell? _ _ (hc j s hj)
  simpa using this
theorem Is.below {w w' : World} {p : Option Addr} {l : List Int} (h : Is w p l) (hb : Below w.heap.size w w') : Is w' p l := by
  intro hne
  obtain ⟨b, o, hp, hc⟩ := h hne
  refine ⟨b, o, hp, fun i s hi => ?_⟩
  have h1 := hc i s hi
  have h2 := World.block_lt_of_cell? _ _ h1
  rw [hb.cell (by simpa using h2)]
  exact h1
structure IsOk (w : World) (q : Option Addr) (m c : Nat) (l : List Int) : Prop where
  hn : m = l.length
  h1 : m ≤ c
  h2 : c ≤ 9223372036854775807
  hl : Is w q l
  ok : ∀ s ∈ l, -9223372036854775808 ≤ s ∧ s ≤ 9223372036854775807

/-- A whole number as a property. -/
def pcI (s : ByteArray) (v : Int) : Pc := ⟨s, ⟨2, v, 0, str0⟩, []⟩
theorem pcI_valid (s : ByteArray) (v : Int) : validV (pcI s v).a (pcI s v).l = true := by
  have h : validV (pcI s v).a (pcI s v).l = validA 2 v 0 str0 := by
    unfold validV
    rw [if_neg (show ¬ (pcI s v).a.k = 6 from (by decide : ¬ (2 : Int) = 6))]
    rfl
  rw [h, validA2, toList_data]
  rfl
def stepA (a : List Pc) (x : Pc) : List Pc := if nameOk x.n = true then setP a x else a
def Dist (l : List Pc) : Prop := l.Pairwise fun p q => p.n ≠ q.n
/-- What was set so far. -/
structure SetsI (xs a : List Pc) : Prop where
  ri : Right a
  ln : a.length ≤ xs.length
  mem : Dist xs → ∀ p, p ∈ a ↔ p ∈ xs ∧ nameOk p.n = true
theorem SetsI.nil : SetsI [] [] := ⟨⟨by simp, ⟨by simp, by simp, List.Pairwise.nil⟩, by simp⟩, by simp, fun _ p => by simp⟩
theorem setR_int {xs a : List Pc} (h : SetsI xs a) (hl : xs.length ≤ 15) (s : ByteArray) (v : Int) :
    setR a (pcI s v) = if nameOk s = true then (setP a (pcI s v), 0) else ([], 2) := by
  have h1 : (setP a (pcI s v)).length ≤ 16 := by have := setP_len a (pcI s v); have := h.ln; omega
  unfold setR setOk
  rw [pcI_valid, (propsR_iff a).2 h.ri, if_pos h1]
  show (if (nameOk s && (true && true)) = true then _ else _) = _
  cases nameOk s <;> rfl
theorem SetsI.step {xs a : List Pc} (h : SetsI xs a) (hl : xs.length ≤ 15) (s : ByteArray) (v : Int) : SetsI (xs ++ [pcI s v]) (stepA a (pcI s v)) := by
  have h1 : (setP a (pcI s v)).length ≤ xs.length + 1 := by have := setP_len a (pcI s v); have := h.ln; omega
  have hd : Dist (xs ++ [pcI s v]) → Dist xs ∧ ∀ p ∈ xs, p.n ≠ s := fun h => by
    obtain ⟨g1, _, g2⟩ := List.pairwise_append.1 h
    exact ⟨g1, fun p hp => g2 p hp (pcI s v) (by simp)⟩
  unfold stepA
  by_cases hn : nameOk s = true
  · rw [if_pos (show nameOk (pcI s v).n = true from hn)]
    refine ⟨right_setP h.ri hn (pcI_valid s v) (by omega), by rw [List.length_append]; exact h1, fun hdx p => ?_⟩
    obtain ⟨d1, d2⟩ := hd hdx
    rw [mem_setP, h.mem d1 p, List.mem_append, List.mem_singleton]
    constructor
    · rintro (⟨⟨g1, g2⟩, _⟩ | ⟨rfl, _⟩)
      · exact ⟨.inl g1, g2⟩
      · exact ⟨.inr rfl, hn⟩
    · rintro ⟨g1 | rfl, g2⟩
      · exact .inl ⟨⟨g1, g2⟩, d2 p g1⟩
      · exact .inr ⟨rfl, by show (2 : Int) ≠ 0; decide⟩
  · rw [if_neg (show ¬ nameOk (pcI s v).n = true from hn)]
    refine ⟨h.ri, by have := h.ln; rw [List.length_append]; omega, fun hdx p => ?_⟩
    obtain ⟨d1, d2⟩ := hd hdx
    rw [h.mem d1 p, List.mem_append, List.mem_singleton]
    constructor
    · rintro ⟨g1, g2⟩
      exact ⟨.inl g1, g2⟩
    · rintro ⟨g1 | rfl, g2⟩
      · exact ⟨g1, g2⟩
      · exact absurd g2 hn
theorem inc_ext : ∀ {l r : List Pc}, Inc l → Inc r → (∀ p, p ∈ l ↔ p ∈ r) → l = r
  | [], [], _, _, _ => rfl
  | [], y :: r, _, _, h => absurd ((h y).2 (by simp)) (by simp)
  | x :: l, [], _, _, h => absurd ((h x).1 (by simp)) (by simp)
  | x :: l, y :: r, hl, hr, h => by
    obtain ⟨l1, l2⟩ := List.pairwise_cons.1 hl
    obtain ⟨r1, r2⟩ := List.pairwise_cons.1 hr
    have hxy : x = y := by
      rcases List.mem_cons.1 ((h x).1 (by simp)) with e | hx
      · exact e
      · rcases List.mem_cons.1 ((h y).2 (by simp)) with e | hy
        · exact e.symm
        · have h1 := r1 x hx
          have h2 := l1 y hy
          have := cmpS_anti x.n y.n
          omega
    subst hxy
    have ne : ∀ p ∈ l, p ≠ x := fun p hp e => by
      have := l1 p hp
      rw [e, cmpS_self] at this
      omega
    have ne' : ∀ p ∈ r, p ≠ x := fun p hp e => by
      have := r1 p hp
      rw [e, cmpS_self] at this
      omega
    rw [inc_ext l2 r2 fun p => ⟨fun hp => (List.mem_cons.1 ((h p).1 (by simp [hp]))).resolve_left (ne p hp), fun hp => (List.mem_cons.1 ((h p).2 (by simp [hp]))).resolve_left (ne' p hp)⟩]
/-- In whichever order. -/
theorem SetsI.same {xs ys a b : List Pc} (h : SetsI xs a) (h' : SetsI ys b) (hd : Dist xs) (hd' : Dist ys) (hm : ∀ p, p ∈ xs ↔ p ∈ ys) : a = b :=
  inc_ext h.ri.inc h'.ri.inc fun p => by rw [h.mem hd, h'.mem hd', hm]
theorem dist_reverse {xs : List Pc} (h : Dist xs) : Dist xs.reverse := by
  unfold Dist
  rw [List.pairwise_reverse]
  exact h.imp fun h e => h e.symm
/-- The properties that the law sets. -/
def xsOf (ns : List ByteArray) (vs : List Int) : List Pc := (ns.zip vs).map fun x => pcI x.1 x.2
theorem xsOf_at {ns : List ByteArray} {vs : List Int} {i : Nat} {s : ByteArray} {v : Int} (h : ns[i]? = some s) (h' : vs[i]? = some v) : (xsOf ns vs)[i]? = some (pcI s v) := by
  unfold xsOf
  have e : (ns.zip vs)[i]? = some (s, v) := List.getElem?_zip_eq_some.2 ⟨h, h'⟩
  rw [List.getElem?_map, e]
  rfl
theorem take_snoc {α : Type} {l : List α} {i : Nat} {x : α} (h : l[i]? = some x) : l.take (i + 1) = l.take i ++ [x] := by
  obtain ⟨hj, rfl⟩ := List.getElem?_eq_some_iff.1 h
  exact List.take_succ_eq_append_getElem hj
theorem dist_snoc {xs : List Pc} {x : Pc} : Dist (xs ++ [x]) ↔ Dist xs ∧ ∀ p ∈ xs, p.n ≠ x.n := by
  unfold Dist
  rw [List.pairwise_append]
  constructor
  · rintro ⟨h1, _, h2⟩
    exact ⟨h1, fun p hp => h2 p hp x (by simp)⟩
  · rintro ⟨h1, h2⟩
    exact ⟨h1, List.pairwise_singleton _ _, fun p hp q hq => by obtain rfl := List.mem_singleton.1 hq; exact h2 p hp⟩

end Go.Proofs.Ytocplkiomlocpaa
