/-
  Records: names, lists of names that rise, properties that are right, and their bytes; plain facts.
-/
import Derived.Test.YtekaedafhiddeaaKRead
set_option linter.unusedVariables false
set_option maxRecDepth 100000
namespace Go.Proofs.Ytekaedafhiddeaa
open Go.RowKit
open Go.Lib (compareBytes)

/-- A property: its name, and its value's atom and atoms. -/
structure Pc where
  n : ByteArray
  a : At
  l : List At

def isL (c : UInt8) : Bool := (decide (97 ≤ (c.toNat : Int)) && decide ((c.toNat : Int) ≤ 122)) || (decide (65 ≤ (c.toNat : Int)) && decide ((c.toNat : Int) ≤ 90))
def isD (c : UInt8) : Bool := decide (48 ≤ (c.toNat : Int)) && decide ((c.toNat : Int) ≤ 57)
def okC (c : UInt8) : Bool := isL c || (isD c || ((c.toNat : Int) == 95))
/-- P5.1: a name. -/
def nameL : List UInt8 → Bool
  | [] => false
  | c :: t => decide ((c :: t).length ≤ 16) && (!isD c && (c :: t).all okC)
def nameOk (s : ByteArray) : Bool := nameL s.data.toList
theorem nameL_len {l : List UInt8} (h : nameL l = true) : 0 < l.length ∧ l.length ≤ 16 := by
  cases l with
  | nil => cases h
  | cons c t =>
    simp only [nameL, Bool.and_eq_true, decide_eq_true_eq] at h
    exact ⟨by simp, h.1⟩
theorem nameOk_len {s : ByteArray} (h : nameOk s = true) : 0 < s.size ∧ s.size ≤ 16 := nameL_len h

/-- s <= t, as the walk tells it. -/
def leS (s t : ByteArray) : Bool := Op.bytesLess s.toList t.toList || s.toList == t.toList
def eqS (s t : ByteArray) : Bool := s.toList == t.toList
theorem eqS_iff (s t : ByteArray) : eqS s t = true ↔ s = t := by
  unfold eqS
  rw [beq_iff_eq]
  exact ⟨str_eq, fun h => by rw [h]⟩
theorem eqS_self (s : ByteArray) : eqS s s = true := (eqS_iff s s).2 rfl
theorem eqS_cmp (s t : ByteArray) : eqS s t = decide (cmpS s t = 0) := by
  rw [Bool.eq_iff_iff, eqS_iff, decide_eq_true_eq]
  exact ⟨fun h => by rw [h]; exact IsCmp.str.self _, cmpS_eq⟩
theorem leS_cmp (s t : ByteArray) : leS s t = decide (cmpS s t ≤ 0) := by
  have h : leS s t = (Op.bytesLess s.toList t.toList || eqS s t) := rfl
  rw [h, eqS_cmp, toList_data, toList_data, less_iff]
  show (decide (cmpS s t = -1) || decide (cmpS s t = 0)) = _
  rcases cmpS_rng s t with h | h | h <;> rw [h] <;> rfl
theorem cmpS_self (s : ByteArray) : cmpS s s = 0 := IsCmp.str.self s
theorem cmpS_anti (s t : ByteArray) : cmpS s t = - cmpS t s := IsCmp.str.anti s t
theorem cmpS_tr {s t u : ByteArray} (h1 : cmpS s t < 0) (h2 : cmpS t u < 0) : cmpS s u < 0 := (IsCmp.str.tr s t u (by omega) (by omega)).2.1 h1

/-- Names that rise, each above the one ahead of it. -/
def riseF : ByteArray → List ByteArray → Bool
  | _, [] => true
  | p, s :: t => nameOk s && (!leS s p && riseF s t)
def nothing (p : Pc) : Bool := p.a.k == 0 || !validV p.a p.l
/-- P5.1: properties that are right. -/
def propsR (l : List Pc) : Bool := decide (l.length ≤ 16) && (riseF str0 (l.map Pc.n) && !l.any nothing)
def nodeR (id : Int) (labels : List ByteArray) (l : List Pc) : Bool := decide (0 < id) && (decide (labels.length ≤ 8) && (riseF str0 labels && propsR l))
def edgeR (id fr to : Int) (t : ByteArray) (l : List Pc) : Bool := decide (0 < id) && (decide (0 < fr) && (decide (0 < to) && (nameOk t && propsR l)))

theorem riseF_cons (p s : ByteArray) (t : List ByteArray) : riseF p (s :: t) = (nameOk s && (!leS s p && riseF s t)) := rfl
/-- What rises. -/
structure Rise (p : ByteArray) (l : List ByteArray) : Prop where
  ok : ∀ s ∈ l, nameOk s = true
  ab : ∀ s ∈ l, cmpS p s < 0
  pw : l.Pairwise fun s t => cmpS s t < 0
theorem riseF_iff : ∀ (p : ByteArray) (l : List ByteArray), riseF p l = true ↔ Rise p l
  | p, [] => ⟨fun _ => ⟨by simp, by simp, List.Pairwise.nil⟩, fun _ => rfl⟩
  | p, s :: t => by
    have ih := riseF_iff s t
    rw [riseF_cons, Bool.and_eq_true, Bool.and_eq_true, ih, leS_cmp]
    have hx : (!decide (cmpS s p ≤ 0)) = true ↔ cmpS p s < 0 := by
      rw [Bool.not_eq_true', decide_eq_false_iff_not]
      have := cmpS_anti s p
      omega
    rw [hx]
    constructor
    · rintro ⟨h1, h2, h3⟩
      refine ⟨fun x hx => ?_, fun x hx => ?_, List.pairwise_cons.2 ⟨h3.ab, h3.pw⟩⟩
      · rcases List.mem_cons.1 hx with rfl | h
        · exact h1
        · exact h3.ok x h
      · rcases List.mem_cons.1 hx with rfl | h
        · exact h2
        · exact cmpS_tr h2 (h3.ab x h)
    · intro h
      obtain ⟨h4, h5⟩ := List.pairwise_cons.1 h.pw
      exact ⟨h.ok s (by simp), h.ab s (by simp), fun x hx => h.ok x (by simp [hx]), h4, h5⟩
theorem cmp_nil_pos {s : ByteArray} (h : 0 < s.size) : cmpS str0 s < 0 := by
  unfold cmpS
  have h1 : s.data.toList.length = s.size := rfl
  cases h2 : s.data.toList with
  | nil => rw [h2] at h1; simp at h1; omega
  | cons c t => rw [show str0.data.toList = [] from rfl, cmp_nil_cons]; decide

/-- The reference asks of each but the first one whether it is above the one ahead. -/
def riseG : Option ByteArray → List ByteArray → Bool
  | _, [] => true
  | none, s :: t => nameOk s && riseG (some s) t
  | some p, s :: t => nameOk s && (!leS s p && riseG (some s) t)
theorem riseG_some : ∀ (p : ByteArray) (l : List ByteArray), riseG (some p) l = riseF p l
  | p, [] => rfl
  | p, s :: t => by simp only [riseG, riseF, riseG_some s t]
theorem riseG_none (l : List ByteArray) : riseG none l = riseF str0 l := by
  cases l with
  | nil => rfl
  | cons s t =>
    simp only [riseG, riseF, riseG_some]
    cases hn : nameOk s
    · rfl
    · have h := cmp_nil_pos (nameOk_len hn).1
      have h2 := cmpS_anti s str0
      rw [leS_cmp, decide_eq_false (by omega)]
      rfl

/-- The reference's look at properties, one by one. -/
def propsG : Option ByteArray → List Pc → Bool
  | _, [] => true
  | none, p :: t => nameOk p.n && (validV p.a p.l && (!(p.a.k == 0) && propsG (some p.n) t))
  | some q, p :: t => nameOk p.n && (validV p.a p.l && (!(p.a.k == 0) && (!leS p.n q && propsG (some p.n) t)))
theorem propsG_eq : ∀ (q : Option ByteArray) (l : List Pc), propsG q l = (riseG q (l.map Pc.n) && !l.any nothing)
  | q, [] => by cases q <;> rfl
  | none, p :: t => by
    simp only [propsG, List.map_cons, riseG, List.any_cons, propsG_eq (some p.n) t, nothing]
    cases nameOk p.n <;> cases validV p.a p.l <;> cases p.a.k == 0 <;> simp
  | some q, p :: t => by
    simp only [propsG, List.map_cons, riseG, List.any_cons, propsG_eq (some p.n) t, nothing]
    cases nameOk p.n <;> cases validV p.a p.l <;> cases p.a.k == 0 <;> cases leS p.n q <;> simp
theorem propsR_ref (l : List Pc) : propsR l = (propsG none l && decide (l.length ≤ 16)) := by
  rw [propsG_eq, riseG_none]
  unfold propsR
  cases decide (l.length ≤ 16) <;> simp

/-- The bytes of properties, labels, nodes, edges. -/
def propsK : List Pc → List UInt8
  | [] => []
  | p :: l => txt p.n.data.toList ++ (putK p.a p.l ++ propsK l)
def recK (l : List Pc) : List UInt8 := UInt8.ofNat l.length :: propsK l
def labsK : List ByteArray → List UInt8
  | [] => []
  | s :: l => txt s.data.toList ++ labsK l
def nodeK (labels : List ByteArray) (l : List Pc) : List UInt8 := UInt8.ofNat labels.length :: (labsK labels ++ recK l)
def edgeK (fr to : Int) (t : ByteArray) (l : List Pc) : List UInt8 := txt t.data.toList ++ (be8 (inKey fr) ++ (be8 (inKey to) ++ recK l))
theorem propsK_append (l m : List Pc) : propsK (l ++ m) = propsK l ++ propsK m := by
  induction l with
  | nil => rfl
  | cons a l ih => simp only [List.cons_append, propsK, ih, List.append_assoc]
theorem labsK_append (l m : List ByteArray) : labsK (l ++ m) = labsK l ++ labsK m := by
  induction l with
  | nil => rfl
  | cons a l ih => simp only [List.cons_append, labsK, ih, List.append_assoc]
theorem propsK_take {l : List Pc} {j : Nat} {p : Pc} (h : l[j]? = some p) : propsK (l.take (j + 1)) = propsK (l.take j) ++ txt p.n.data.toList ++ putK p.a p.l := by
  obtain ⟨hj, rfl⟩ := List.getElem?_eq_some_iff.1 h
  rw [List.take_succ_eq_append_getElem hj, propsK_append]
  simp [propsK]
theorem labsK_take {l : List ByteArray} {j : Nat} {s : ByteArray} (h : l[j]? = some s) : labsK (l.take (j + 1)) = labsK (l.take j) ++ txt s.data.toList := by
  obtain ⟨hj, rfl⟩ := List.getElem?_eq_some_iff.1 h
  rw [List.take_succ_eq_append_getElem hj, labsK_append]
  simp [labsK]
theorem txt_len (s : ByteArray) (h : nameOk s = true) : (txt s.data.toList).length ≤ 34 := by
  have h1 := (nameOk_len h).2
  have h2 : s.data.toList.length = s.size := rfl
  have h3 := esc_length s.data.toList
  rw [txt_length]
  omega

/-- What right properties are. -/
structure Right (l : List Pc) : Prop where
  n16 : l.length ≤ 16
  ris : Rise str0 (l.map Pc.n)
  va : ∀ p ∈ l, p.a.k ≠ 0 ∧ validV p.a p.l = true
theorem propsR_iff (l : List Pc) : propsR l = true ↔ Right l := by
  unfold propsR
  rw [Bool.and_eq_true, Bool.and_eq_true, decide_eq_true_eq, riseF_iff, Bool.not_eq_true', List.any_eq_false]
  have hx : ∀ p : Pc, (¬ nothing p = true) ↔ (p.a.k ≠ 0 ∧ validV p.a p.l = true) := by
    intro p
    unfold nothing
    rw [Bool.or_eq_true, not_or, beq_iff_eq, Bool.not_eq_true', Bool.not_eq_false]
  constructor
  · rintro ⟨h1, h2, h3⟩
    exact ⟨h1, h2, fun p hp => (hx p).1 (h3 p hp)⟩
  · rintro ⟨h1, h2, h3⟩
    exact ⟨h1, h2, fun p hp => (hx p).2 (h3 p hp)⟩

/-- What PutNode, PutEdge tell: the bytes, the error. -/
def fitK (b : List UInt8) : List UInt8 × Int := if b.length ≤ 4096 then (b, 0) else ([], 3)
def putN (id : Int) (labels : List ByteArray) (l : List Pc) : List UInt8 × Int := if nodeR id labels l = true then fitK (nodeK labels l) else ([], 2)
def putE (id fr to : Int) (t : ByteArray) (l : List Pc) : List UInt8 × Int := if edgeR id fr to t l = true then fitK (edgeK fr to t l) else ([], 2)

end Go.Proofs.Ytekaedafhiddeaa
