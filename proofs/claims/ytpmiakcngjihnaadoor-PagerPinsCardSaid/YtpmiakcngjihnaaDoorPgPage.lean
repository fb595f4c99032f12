/-
  A page's bytes (plain): what Seal tells, what Open asks.
-/
import Derived.Test.YtpmiakcngjihnaaDoorPgSpec
set_option linter.unusedVariables false
set_option maxRecDepth 100000
namespace Go.Proofs.YtpmiakcngjihnaaDoor

/-- A page ahead of its sum; a page. -/
def headB (kind : UInt8) (no gen : Nat) (l : List UInt8) : List UInt8 := kind :: (leB 4 no ++ (leB 8 gen ++ (leB 2 l.length ++ (l ++ List.replicate (493 - l.length) 0))))
def pageB (kind : UInt8) (no gen : Nat) (l : List UInt8) : List UInt8 := headB kind no gen l ++ leB 4 (sumV (headB kind no gen l))

theorem headB_length {kind : UInt8} {no gen : Nat} {l : List UInt8} (h : l.length ≤ 493) : (headB kind no gen l).length = 508 := by
  simp only [headB, List.length_cons, List.length_append, leB_length, List.length_replicate]
  omega
theorem pageB_length {kind : UInt8} {no gen : Nat} {l : List UInt8} (h : l.length ≤ 493) : (pageB kind no gen l).length = 512 := by
  rw [pageB, List.length_append, headB_length h, leB_length]
theorem pageB_take {kind : UInt8} {no gen : Nat} {l : List UInt8} (h : l.length ≤ 493) : (pageB kind no gen l).take 508 = headB kind no gen l := by
  rw [pageB, List.take_append_of_le_length (by rw [headB_length h]; omega), List.take_of_length_le (by rw [headB_length h]; omega)]
theorem pageB_drop {kind : UInt8} {no gen : Nat} {l : List UInt8} (h : l.length ≤ 493) : (pageB kind no gen l).drop 508 = leB 4 (sumV (headB kind no gen l)) := by
  rw [pageB, List.drop_append, headB_length h, List.drop_eq_nil_of_le (by rw [headB_length h]; omega)]
  rfl
theorem pageB_fits {kind : UInt8} {no gen : Nat} {l : List UInt8} (h : l.length ≤ 493) : Fits (pageB kind no gen l) := by
  have h1 := sumV_lt (headB kind no gen l)
  unfold Fits
  rw [pageB_take h, pageB_drop h, leV_leB]
  exact Nat.mod_eq_of_lt (by omega)

/-- Seal's error, or 0. -/
def sealE (no gen : Int) (n : Nat) : Nat := if no < 0 ∨ 4096 ≤ no ∨ gen < 0 ∨ 1152921504606846976 < gen then 2 else if 493 < n then 3 else 0

/-- What stands in a page. -/
def fNo (l : List UInt8) : Nat := leV ((l.drop 1).take 4)
def fGen (l : List UInt8) : Nat := leV ((l.drop 5).take 8)
def fLen (l : List UInt8) : Nat := leV ((l.drop 13).take 2)
def fIn (l : List UInt8) : List UInt8 := (l.drop 15).take (fLen l)
def Tail (l : List UInt8) : Prop := ∀ i, 15 + fLen l ≤ i → i < 508 → l[i]? = some 0
/-- What Open asks of bytes with a right sum. -/
def Right (l : List UInt8) (no : Int) : Prop := 0 ≤ no ∧ no < 4096 ∧ (fNo l : Int) = no ∧ fGen l ≤ 1152921504606846976 ∧ fLen l ≤ 493 ∧ Tail l
/-- Open's error, or 0. -/
noncomputable def openE (l : List UInt8) (no : Int) : Nat := open Classical in if l.length ≠ 512 then 11 else if ¬ Fits l then 12 else if Right l no then 0 else 11

theorem openE_zero {l : List UInt8} {no : Int} : openE l no = 0 ↔ l.length = 512 ∧ Fits l ∧ Right l no := by
  unfold openE
  by_cases h1 : l.length = 512 <;> by_cases h2 : Fits l <;> by_cases h3 : Right l no <;> simp [h1, h2, h3]

theorem sub_length {l : List UInt8} {a n : Nat} (h : a + n ≤ l.length) : ((l.drop a).take n).length = n := by
  rw [List.length_take, List.length_drop]
  omega
theorem fIn_length {l : List UInt8} (hl : l.length = 512) (h : fLen l ≤ 493) : (fIn l).length = fLen l := sub_length (by omega)
theorem fNo_lt {l : List UInt8} (hl : l.length = 512) : fNo l < 4294967296 := by
  have := leV_lt ((l.drop 1).take 4)
  rw [sub_length (by omega)] at this
  exact this
theorem fGen_lt {l : List UInt8} (hl : l.length = 512) : fGen l < 18446744073709551616 := by
  have := leV_lt ((l.drop 5).take 8)
  rw [sub_length (by omega)] at this
  exact this
theorem fLen_lt {l : List UInt8} (hl : l.length = 512) : fLen l < 65536 := by
  have := leV_lt ((l.drop 13).take 2)
  rw [sub_length (by omega)] at this
  exact this

theorem cut_take (l : List UInt8) (a n : Nat) : l.drop a = (l.drop a).take n ++ l.drop (a + n) := by
  rw [← List.drop_drop, List.take_append_drop]
theorem split_page {l : List UInt8} (hl : l.length = 512) (k : Nat) (hk : k ≤ 493) :
    l.take 508 = l[0] :: ((l.drop 1).take 4 ++ ((l.drop 5).take 8 ++ ((l.drop 13).take 2 ++ ((l.drop 15).take k ++ (l.drop (15 + k)).take (493 - k))))) := by
  have h0 : l = l[0] :: l.drop 1 := by
    have := List.drop_eq_getElem_cons (l := l) (i := 0) (by omega)
    rwa [List.drop_zero] at this
  have h1 : l.take 508 = l[0] :: (l.drop 1).take 507 := (congrArg (List.take 508) h0).trans rfl
  have h2 : ∀ a m n, (l.drop a).take (m + n) = (l.drop a).take m ++ (l.drop (a + m)).take n := fun a m n => by rw [List.take_add, List.drop_drop]
  have e : 507 = 4 + (8 + (2 + (k + (493 - k)))) := by omega
  rw [h1, e, h2, h2, h2, h2]
theorem tail_iff {l : List UInt8} (hl : l.length = 512) (h : fLen l ≤ 493) : Tail l ↔ List.replicate (493 - fLen l) 0 = (l.drop (15 + fLen l)).take (493 - fLen l) := by
  constructor
  · intro ht
    apply List.ext_getElem?
    intro i
    rw [List.getElem?_replicate, List.getElem?_take, List.getElem?_drop]
    split
    · rw [ht _ (by omega) (by omega)]
    · rfl
  · intro he i h1 h2
    have h3 := congrArg (fun m => m[i - (15 + fLen l)]?) he
    simp only [List.getElem?_replicate, List.getElem?_take, List.getElem?_drop] at h3
    rw [if_pos (by omega), if_pos (by omega)] at h3
    have h4 : 15 + fLen l + (i - (15 + fLen l)) = i := by omega
    rw [h4] at h3
    exact h3.symm

/-- Laying anew what stands in a page. -/
theorem again_iff {l : List UInt8} (hl : l.length = 512) {n : Nat} (hn : n < 4294967296) (h : fLen l ≤ 493) : headB l[0] n (fGen l) (fIn l) = l.take 508 ↔ fNo l = n ∧ Tail l := by
  rw [tail_iff hl h, split_page hl (fLen l) h, headB, fIn_length hl h]
  have e8 : leB 8 (fGen l) = (l.drop 5).take 8 := by
    have := leB_leV ((l.drop 5).take 8)
    rwa [sub_length (by omega)] at this
  have e2 : leB 2 (fLen l) = (l.drop 13).take 2 := by
    have := leB_leV ((l.drop 13).take 2)
    rwa [sub_length (by omega)] at this
  have e4 : leB 4 n = (l.drop 1).take 4 ↔ fNo l = n := by
    have h1 := leB_leV ((l.drop 1).take 4)
    rw [sub_length (by omega)] at h1
    constructor
    · intro h2
      have h3 := fNo_lt hl
      refine (leB_inj (k := 4) hn h3 ?_).symm
      rw [h2]
      exact h1.symm
    · intro h2
      rw [← h1, ← h2]
      rfl
  rw [e8, e2, ← e4]
  constructor
  · intro h1
    have h2 := (List.cons.inj h1).2
    obtain ⟨h3, h4⟩ := List.append_inj h2 (by rw [leB_length, sub_length (by omega)])
    exact ⟨h3, List.append_cancel_left (List.append_cancel_left (List.append_cancel_left h4))⟩
  · rintro ⟨h1, h2⟩
    rw [h1, h2]
    rfl

/-- What stands in what Seal tells. -/
theorem page_fields {kind : UInt8} {no gen : Nat} {l : List UInt8} (h : l.length ≤ 493) (hno : no < 4294967296) (hg : gen < 18446744073709551616) :
    (pageB kind no gen l)[0]? = some kind ∧ fNo (pageB kind no gen l) = no ∧ fGen (pageB kind no gen l) = gen ∧ fLen (pageB kind no gen l) = l.length ∧ fIn (pageB kind no gen l) = l ∧ Tail (pageB kind no gen l) := by
  have e : pageB kind no gen l = kind :: (leB 4 no ++ (leB 8 gen ++ (leB 2 l.length ++ (l ++ (List.replicate (493 - l.length) 0 ++ leB 4 (sumV (headB kind no gen l))))))) := by
    simp only [pageB, headB, List.cons_append, List.append_assoc]
  generalize leB 4 (sumV (headB kind no gen l)) = s at e
  rw [e]
  have d1 : (kind :: (leB 4 no ++ (leB 8 gen ++ (leB 2 l.length ++ (l ++ (List.replicate (493 - l.length) 0 ++ s)))))).drop 1 = leB 4 no ++ (leB 8 gen ++ (leB 2 l.length ++ (l ++ (List.replicate (493 - l.length) 0 ++ s)))) := rfl
  have step : ∀ (m : List UInt8) (a b : List UInt8) (k n : Nat), m.drop k = a ++ b → a.length = n → m.drop (k + n) = b ∧ (m.drop k).take n = a := by
    intro m a b k n h1 h2
    subst h2
    rw [← List.drop_drop, h1]
    simp
  obtain ⟨d5, t1⟩ := step _ _ _ 1 4 d1 (leB_length 4 no)
  obtain ⟨d13, t5⟩ := step _ _ _ 5 8 d5 (leB_length 8 gen)
  obtain ⟨d15, t13⟩ := step _ _ _ 13 2 d13 (leB_length 2 _)
  obtain ⟨dT, t15⟩ := step _ _ _ 15 l.length d15 rfl
  have f1 : fNo (kind :: (leB 4 no ++ (leB 8 gen ++ (leB 2 l.length ++ (l ++ (List.replicate (493 - l.length) 0 ++ s)))))) = no := by
    unfold fNo
    rw [t1, leV_leB]
    exact Nat.mod_eq_of_lt hno
  have f2 : fGen (kind :: (leB 4 no ++ (leB 8 gen ++ (leB 2 l.length ++ (l ++ (List.replicate (493 - l.length) 0 ++ s)))))) = gen := by
    unfold fGen
    rw [t5, leV_leB]
    exact Nat.mod_eq_of_lt hg
  have f3 : fLen (kind :: (leB 4 no ++ (leB 8 gen ++ (leB 2 l.length ++ (l ++ (List.replicate (493 - l.length) 0 ++ s)))))) = l.length := by
    unfold fLen
    rw [t13, leV_leB]
    exact Nat.mod_eq_of_lt (by omega)
  refine ⟨rfl, f1, f2, f3, ?_, ?_⟩
  · unfold fIn
    rw [f3, t15]
  · intro i h1 h2
    rw [f3] at h1
    have h3 : i = 15 + l.length + (i - (15 + l.length)) := by omega
    rw [h3, ← List.getElem?_drop, dT, List.getElem?_append_left (by rw [List.length_replicate]; omega), List.getElem?_replicate, if_pos (by omega)]
theorem page_right {kind : UInt8} {no gen : Nat} {l : List UInt8} (h : l.length ≤ 493) (hno : no < 4096) (hg : gen ≤ 1152921504606846976) (n : Int) : openE (pageB kind no gen l) n = if n = (no : Int) then 0 else 11 := by
  obtain ⟨_, h1, h2, h3, _, h5⟩ := page_fields (kind := kind) h (no := no) (by omega) (gen := gen) (by omega)
  unfold openE
  rw [if_neg (by rw [pageB_length h]; omega), if_neg (by simpa using pageB_fits h)]
  by_cases hn : n = (no : Int)
  · rw [if_pos hn, if_pos ⟨by omega, by omega, by rw [h1]; exact hn.symm, by rw [h2]; exact hg, by rw [h3]; exact h, h5⟩]
  · rw [if_neg hn, if_neg (by rintro ⟨_, _, h6, _⟩; rw [h1] at h6; exact hn h6.symm)]
/-- What is opened is what Seal tells of it. -/
theorem open_again {l : List UInt8} {no : Int} (h : openE l no = 0) : ∃ hl : 0 < l.length, pageB l[0] no.toNat (fGen l) (fIn l) = l ∧ sealE no (fGen l) (fIn l).length = 0 ∧ (fIn l).length ≤ 493 := by
  obtain ⟨hl, hf, r1, r2, r3, r4, r5, r6⟩ := openE_zero.1 h
  refine ⟨by omega, ?_, ?_, by rw [fIn_length hl r5]; exact r5⟩
  · have h1 := (again_iff hl (n := no.toNat) (by omega) r5).2 ⟨by omega, r6⟩
    unfold pageB
    rw [h1]
    have h2 : leB 4 (sumV (l.take 508)) = l.drop 508 := by
      rw [← hf]
      have := leB_leV (l.drop 508)
      rwa [List.length_drop, hl] at this
    rw [h2, List.take_append_drop]
  · unfold sealE
    rw [if_neg (by omega), if_neg (by rw [fIn_length hl r5]; omega)]

end Go.Proofs.YtpmiakcngjihnaaDoor
