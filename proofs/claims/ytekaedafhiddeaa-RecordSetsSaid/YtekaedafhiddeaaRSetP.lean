/-
  Records: a property that is asked for, and properties with one that is set; plain facts.
-/
import Derived.Test.YtekaedafhiddeaaRSpec
set_option linter.unusedVariables false
set_option maxRecDepth 100000
namespace Go.Proofs.Ytekaedafhiddeaa
open Go.RowKit

/-- P5.4: Get, Set. -/
def getP (l : List Pc) (n : ByteArray) : Option Pc := l.find? fun p => eqS p.n n
def newP (x : Pc) : List Pc := if x.a.k = 0 then [] else [x]
def ltP (n : ByteArray) (p : Pc) : Bool := decide (cmpS p.n n < 0)
def gtP (n : ByteArray) (p : Pc) : Bool := decide (0 < cmpS p.n n)
def setP (l : List Pc) (x : Pc) : List Pc := l.filter (ltP x.n) ++ (newP x ++ l.filter (gtP x.n))
def setOk (l : List Pc) (x : Pc) : Bool := nameOk x.n && (validV x.a x.l && propsR l)
def setR (l : List Pc) (x : Pc) : List Pc × Int := if setOk l x = true then (if (setP l x).length ≤ 16 then (setP l x, 0) else ([], 15)) else ([], 2)

def Inc (l : List Pc) : Prop := l.Pairwise fun p q => cmpS p.n q.n < 0
theorem Right.inc {l : List Pc} (h : Right l) : Inc l := by
  have := h.ris.pw
  rw [List.pairwise_map] at this
  exact this
theorem lt_gt {l : List Pc} {e : Pc} {n : ByteArray} (h : ∀ p ∈ l, cmpS e.n p.n < 0) (h0 : 0 ≤ cmpS e.n n) : l.filter (ltP n) = [] ∧ l.filter (gtP n) = l := by
  have hx : ∀ p ∈ l, 0 < cmpS p.n n := by
    intro p hp
    have h1 := h p hp
    have h2 := IsCmp.str.tr n e.n p.n (by have := cmpS_anti e.n n; omega) (by omega)
    have := cmpS_anti p.n n
    have := h2.2.2 h1
    omega
  refine ⟨List.filter_eq_nil_iff.2 fun p hp => ?_, List.filter_eq_self.2 fun p hp => ?_⟩
  · have := hx p hp
    unfold ltP
    rw [decide_eq_true_eq]
    omega
  · exact decide_eq_true (hx p hp)
theorem split_at {l : List Pc} (h : Inc l) {n : ByteArray} {k : Nat} (h1 : ∀ p ∈ l.take k, cmpS p.n n < 0) (h2 : ∀ p ∈ l.drop k, 0 ≤ cmpS p.n n) {b : Bool} (h3 : b = true ↔ ∃ p, l[k]? = some p ∧ cmpS p.n n = 0) :
    l.filter (ltP n) = l.take k ∧ l.filter (gtP n) = l.drop (if b = true then k + 1 else k) := by
  have e : l = l.take k ++ l.drop k := (List.take_append_drop k l).symm
  have a1 : (l.take k).filter (ltP n) = l.take k := List.filter_eq_self.2 fun p hp => decide_eq_true (h1 p hp)
  have a2 : (l.take k).filter (gtP n) = [] := List.filter_eq_nil_iff.2 fun p hp => by
    have := h1 p hp
    unfold gtP
    rw [decide_eq_true_eq]
    omega
  have hd : Inc (l.drop k) := h.sublist (List.drop_sublist k l)
  have key : (l.drop k).filter (ltP n) = [] ∧ (l.drop k).filter (gtP n) = l.drop (if b = true then k + 1 else k) := by
    cases hk : l.drop k with
    | nil =>
      have hlen : l.length ≤ k := List.drop_eq_nil_iff.1 hk
      refine ⟨rfl, ?_⟩
      rw [List.drop_eq_nil_of_le (by split <;> omega)]
      rfl
    | cons p t =>
      rw [hk] at hd h2
      obtain ⟨g1, g2⟩ := List.pairwise_cons.1 hd
      have h0 := h2 p (by simp)
      obtain ⟨f1, f2⟩ := lt_gt g1 h0
      have hp : l[k]? = some p := by
        have : (l.drop k)[0]? = some p := by rw [hk]; rfl
        rwa [List.getElem?_drop, Nat.add_zero] at this
      have ht : l.drop (k + 1) = t := by
        have : (l.drop k).drop 1 = t := by rw [hk]; rfl
        rwa [List.drop_drop] at this
      by_cases hz : cmpS p.n n = 0
      · have hb : b = true := h3.2 ⟨p, hp, hz⟩
        rw [if_pos hb, ht, List.filter_cons_of_neg, List.filter_cons_of_neg]
        · exact ⟨f1, f2⟩
        · unfold gtP; rw [decide_eq_true_eq]; omega
        · unfold ltP; rw [decide_eq_true_eq]; omega
      · have hb : ¬ b = true := fun h => by
          obtain ⟨q, hq, hq0⟩ := h3.1 h
          rw [hp] at hq
          obtain rfl := Option.some.inj hq
          exact hz hq0
        rw [if_neg hb, hk, List.filter_cons_of_neg, List.filter_cons_of_pos, f1, f2]
        · exact ⟨rfl, rfl⟩
        · unfold gtP; rw [decide_eq_true_eq]; omega
        · unfold ltP; rw [decide_eq_true_eq]; omega
  constructor
  · conv => lhs; rw [e]
    rw [List.filter_append, a1, key.1, List.append_nil]
  · conv => lhs; rw [e]
    rw [List.filter_append, a2, key.2, List.nil_append]

/-- The reference's Set, property by property. -/
def geS (s t : ByteArray) : Bool := !Op.bytesLess s.toList t.toList
theorem geS_cmp (s t : ByteArray) : geS s t = decide (0 ≤ cmpS s t) := by
  unfold geS
  rw [toList_data, toList_data, less_iff]
  show (!decide (cmpS s t = -1)) = _
  rcases cmpS_rng s t with h | h | h <;> rw [h] <;> rfl
def refS (x : Pc) : Bool → List Pc → List Pc
  | put, [] => if put = true then [] else [x]
  | put, e :: t => (if put = false ∧ geS e.n x.n = true then [x] else []) ++ ((if eqS e.n x.n = true then [] else [e]) ++ refS x (put || geS e.n x.n) t)
theorem refS_true (x : Pc) : ∀ {l : List Pc}, Inc l → refS x true l = l.filter (ltP x.n) ++ l.filter (gtP x.n)
  | [], _ => rfl
  | e :: t, h => by
    obtain ⟨g1, g2⟩ := List.pairwise_cons.1 h
    have ih := refS_true x g2
    have e1 : refS x true (e :: t) = (if eqS e.n x.n = true then [] else [e]) ++ refS x true t := by
      simp only [refS, Bool.true_or]
      rw [if_neg (by simp), List.nil_append]
    rw [e1, ih, eqS_cmp]
    rcases Int.lt_trichotomy (cmpS e.n x.n) 0 with hc | hc | hc
    · rw [if_neg (by rw [decide_eq_true_eq]; omega), List.filter_cons_of_pos (by exact decide_eq_true hc), List.filter_cons_of_neg (p := gtP x.n) (by unfold gtP; rw [decide_eq_true_eq]; omega)]
      rfl
    · rw [if_pos (by rw [decide_eq_true_eq]; omega), List.filter_cons_of_neg (p := ltP x.n) (by unfold ltP; rw [decide_eq_true_eq]; omega), List.filter_cons_of_neg (p := gtP x.n) (by unfold gtP; rw [decide_eq_true_eq]; omega)]
      rfl
    · obtain ⟨f1, f2⟩ := lt_gt (n := x.n) g1 (by omega)
      rw [if_neg (by rw [decide_eq_true_eq]; omega), List.filter_cons_of_neg (p := ltP x.n) (by unfold ltP; rw [decide_eq_true_eq]; omega), List.filter_cons_of_pos (p := gtP x.n) (by exact decide_eq_true hc), f1]
      rfl
theorem refS_false (x : Pc) : ∀ {l : List Pc}, Inc l → refS x false l = l.filter (ltP x.n) ++ ([x] ++ l.filter (gtP x.n))
  | [], _ => rfl
  | e :: t, h => by
    obtain ⟨g1, g2⟩ := List.pairwise_cons.1 h
    have it := refS_true x g2
    have ih := refS_false x g2
    have e1 : refS x false (e :: t) = (if geS e.n x.n = true then [x] else []) ++ ((if eqS e.n x.n = true then [] else [e]) ++ refS x (geS e.n x.n) t) := by
      simp only [refS, Bool.false_or, true_and]
    rw [e1, eqS_cmp, geS_cmp]
    rcases Int.lt_trichotomy (cmpS e.n x.n) 0 with hc | hc | hc
    · rw [decide_eq_false (p := 0 ≤ _) (by omega), ih, if_neg (by decide), if_neg (by rw [decide_eq_true_eq]; omega), List.filter_cons_of_pos (by exact decide_eq_true hc), List.filter_cons_of_neg (p := gtP x.n) (by unfold gtP; rw [decide_eq_true_eq]; omega)]
      rfl
    · obtain ⟨f1, f2⟩ := lt_gt (n := x.n) g1 (by omega)
      rw [decide_eq_true (p := 0 ≤ _) (by omega), it, if_pos rfl, if_pos (by rw [decide_eq_true_eq]; omega), List.filter_cons_of_neg (p := ltP x.n) (by unfold ltP; rw [decide_eq_true_eq]; omega), List.filter_cons_of_neg (p := gtP x.n) (by unfold gtP; rw [decide_eq_true_eq]; omega), f1]
      rfl
    · obtain ⟨f1, f2⟩ := lt_gt (n := x.n) g1 (by omega)
      rw [decide_eq_true (p := 0 ≤ _) (by omega), it, if_pos rfl, if_neg (by rw [decide_eq_true_eq]; omega), List.filter_cons_of_neg (p := ltP x.n) (by unfold ltP; rw [decide_eq_true_eq]; omega), List.filter_cons_of_pos (p := gtP x.n) (by exact decide_eq_true hc), f1]
      rfl
theorem refS_eq (x : Pc) {l : List Pc} (h : Inc l) : refS x (x.a.k == 0) l = setP l x := by
  unfold setP newP
  by_cases hk : x.a.k = 0
  · rw [hk, show ((0 : Int) == 0) = true from rfl, refS_true x h, if_pos rfl]
    rfl
  · rw [beq_eq_false_iff_ne.2 hk, refS_false x h, if_neg hk]

/-- What a property that is set leaves. -/
theorem mem_setP {l : List Pc} {x p : Pc} : p ∈ setP l x ↔ (p ∈ l ∧ p.n ≠ x.n) ∨ (p = x ∧ x.a.k ≠ 0) := by
  unfold setP newP ltP gtP
  simp only [List.mem_append, List.mem_filter, decide_eq_true_eq]
  have hne : p.n ≠ x.n ↔ cmpS p.n x.n < 0 ∨ 0 < cmpS p.n x.n := by
    constructor
    · intro h
      have : cmpS p.n x.n ≠ 0 := fun h0 => h (cmpS_eq h0)
      omega
    · intro h e
      rw [e, cmpS_self] at h
      omega
  rw [hne]
  have hx : p ∈ (if x.a.k = 0 then [] else [x]) ↔ p = x ∧ x.a.k ≠ 0 := by
    split
    · rename_i h
      exact ⟨fun h' => (by cases h'), fun h' => absurd h h'.2⟩
    · rename_i h
      rw [List.mem_singleton]
      exact ⟨fun h' => ⟨h', h⟩, fun h' => h'.1⟩
  rw [hx]
  constructor
  · rintro (⟨h1, h2⟩ | h | ⟨h1, h2⟩)
    · exact .inl ⟨h1, .inl h2⟩
    · exact .inr h
    · exact .inl ⟨h1, .inr h2⟩
  · rintro (⟨h1, h2 | h2⟩ | h)
    · exact .inl ⟨h1, h2⟩
    · exact .inr (.inr ⟨h1, h2⟩)
    · exact .inr (.inl h)
theorem inc_setP {l : List Pc} (h : Inc l) (x : Pc) : Inc (setP l x) := by
  unfold setP newP Inc
  rw [List.pairwise_append]
  refine ⟨h.sublist List.filter_sublist, ?_, ?_⟩
  · rw [List.pairwise_append]
    refine ⟨?_, h.sublist List.filter_sublist, ?_⟩
    · split
      · exact List.Pairwise.nil
      · exact List.pairwise_singleton _ _
    · intro a ha b hb
      split at ha
      · cases ha
      · obtain rfl := List.mem_singleton.1 ha
        have := (List.mem_filter.1 hb).2
        unfold gtP at this
        rw [decide_eq_true_eq] at this
        have := cmpS_anti a.n b.n
        omega
  · intro a ha b hb
    have h1 := (List.mem_filter.1 ha).2
    unfold ltP at h1
    rw [decide_eq_true_eq] at h1
    rcases List.mem_append.1 hb with hb | hb
    · split at hb
      · cases hb
      · obtain rfl := List.mem_singleton.1 hb
        exact h1
    · have h2 := (List.mem_filter.1 hb).2
      unfold gtP at h2
      rw [decide_eq_true_eq] at h2
      exact cmpS_tr h1 (by have := cmpS_anti x.n b.n; omega)
theorem right_setP {l : List Pc} (h : Right l) {x : Pc} (hn : nameOk x.n = true) (hv : validV x.a x.l = true) (h16 : (setP l x).length ≤ 16) : Right (setP l x) := by
  have ok : ∀ s ∈ (setP l x).map Pc.n, nameOk s = true := by
    intro s hs
    obtain ⟨p, hp, rfl⟩ := List.mem_map.1 hs
    rcases mem_setP.1 hp with ⟨h1, _⟩ | ⟨rfl, _⟩
    · exact h.ris.ok p.n (List.mem_map.2 ⟨p, h1, rfl⟩)
    · exact hn
  refine ⟨h16, ⟨ok, fun s hs => cmp_nil_pos (nameOk_len (ok s hs)).1, ?_⟩, fun p hp => ?_⟩
  · rw [List.pairwise_map]
    exact inc_setP h.inc x
  · rcases mem_setP.1 hp with ⟨h1, _⟩ | ⟨rfl, h2⟩
    · exact h.va p h1
    · exact ⟨h2, hv⟩
theorem getP_mem : ∀ {l : List Pc}, Inc l → ∀ {p : Pc}, p ∈ l → getP l p.n = some p
  | e :: t, h, p, hp => by
    obtain ⟨g1, g2⟩ := List.pairwise_cons.1 h
    unfold getP
    rw [List.find?_cons]
    by_cases he : eqS e.n p.n = true
    · rw [he]
      rcases List.mem_cons.1 hp with rfl | h1
      · rfl
      · have h2 := g1 p h1
        rw [(eqS_iff _ _).1 he, cmpS_self] at h2
        omega
    · rw [Bool.not_eq_true] at he
      rw [he]
      rcases List.mem_cons.1 hp with rfl | h1
      · rw [eqS_self] at he
        cases he
      · exact getP_mem g2 h1
theorem getP_none {l : List Pc} {n : ByteArray} (h : ∀ p ∈ l, p.n ≠ n) : getP l n = none := by
  unfold getP
  rw [List.find?_eq_none]
  intro p hp he
  exact h p hp ((eqS_iff _ _).1 he)
theorem getP_set {l : List Pc} (h : Inc l) (x : Pc) : getP (setP l x) x.n = if x.a.k = 0 then none else some x := by
  split
  · rename_i hk
    refine getP_none fun p hp => ?_
    rcases mem_setP.1 hp with ⟨_, h1⟩ | ⟨_, h2⟩
    · exact h1
    · exact absurd hk h2
  · rename_i hk
    exact getP_mem (inc_setP h x) (mem_setP.2 (.inr ⟨rfl, hk⟩))
theorem getP_keep {l : List Pc} (h : Inc l) {x p : Pc} (hp : p ∈ l) (hne : p.n ≠ x.n) : getP (setP l x) p.n = some p := getP_mem (inc_setP h x) (mem_setP.2 (.inl ⟨hp, hne⟩))
theorem filter_two (n : ByteArray) : ∀ l : List Pc, (l.filter (ltP n)).length + (l.filter (gtP n)).length ≤ l.length
  | [] => by simp
  | e :: t => by
    have ih := filter_two n t
    have hx : ¬ (ltP n e = true ∧ gtP n e = true) := by
      unfold ltP gtP
      rw [decide_eq_true_eq, decide_eq_true_eq]
      omega
    by_cases h1 : ltP n e = true
    · rw [List.filter_cons_of_pos h1, List.filter_cons_of_neg (fun h => hx ⟨h1, h⟩)]
      simp only [List.length_cons]
      omega
    · by_cases h2 : gtP n e = true
      · rw [List.filter_cons_of_neg h1, List.filter_cons_of_pos h2]
        simp only [List.length_cons]
        omega
      · rw [List.filter_cons_of_neg h1, List.filter_cons_of_neg h2]
        simp only [List.length_cons]
        omega
theorem setP_len (l : List Pc) (x : Pc) : (setP l x).length ≤ l.length + 1 := by
  have h := filter_two x.n l
  unfold setP newP
  split <;> simp only [List.length_append, List.length_nil, List.length_cons] <;> omega
/-- Without it again. -/
theorem setP_gone (l : List Pc) (x : Pc) {y : Pc} (hy : y.n = x.n) (h0 : y.a.k = 0) : (setP (setP l x) y).length ≤ l.length := by
  have e1 : ∀ (m : List Pc), (m.filter (ltP x.n)).filter (ltP x.n) = m.filter (ltP x.n) := fun m => List.filter_eq_self.2 fun p hp => (List.mem_filter.1 hp).2
  have e2 : ∀ (m : List Pc), (m.filter (gtP x.n)).filter (gtP x.n) = m.filter (gtP x.n) := fun m => List.filter_eq_self.2 fun p hp => (List.mem_filter.1 hp).2
  have e3 : ∀ (m : List Pc), (m.filter (gtP x.n)).filter (ltP x.n) = [] := fun m => List.filter_eq_nil_iff.2 fun p hp h => by
    have h1 := (List.mem_filter.1 hp).2
    unfold gtP at h1
    unfold ltP at h
    rw [decide_eq_true_eq] at h1 h
    omega
  have e4 : ∀ (m : List Pc), (m.filter (ltP x.n)).filter (gtP x.n) = [] := fun m => List.filter_eq_nil_iff.2 fun p hp h => by
    have h1 := (List.mem_filter.1 hp).2
    unfold ltP at h1
    unfold gtP at h
    rw [decide_eq_true_eq] at h1 h
    omega
  have e5 : (newP x).filter (ltP x.n) = [] ∧ (newP x).filter (gtP x.n) = [] := by
    unfold newP
    split
    · exact ⟨rfl, rfl⟩
    · constructor
      · refine List.filter_eq_nil_iff.2 fun p hp h => ?_
        obtain rfl := List.mem_singleton.1 hp
        unfold ltP at h
        rw [decide_eq_true_eq, cmpS_self] at h
        omega
      · refine List.filter_eq_nil_iff.2 fun p hp h => ?_
        obtain rfl := List.mem_singleton.1 hp
        unfold gtP at h
        rw [decide_eq_true_eq, cmpS_self] at h
        omega
  have h := filter_two x.n l
  have e : setP (setP l x) y = l.filter (ltP x.n) ++ l.filter (gtP x.n) := by
    unfold setP
    rw [hy]
    simp only [List.filter_append, e1, e2, e3, e4, e5.1, e5.2]
    unfold newP
    rw [if_pos h0]
    simp
  rw [e, List.length_append]
  exact h

end Go.Proofs.Ytekaedafhiddeaa
