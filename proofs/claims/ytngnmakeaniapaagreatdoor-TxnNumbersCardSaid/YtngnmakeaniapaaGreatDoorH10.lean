/-
  A page's bytes (plain): what Seal tells, what Open asks.
  A Meta's page (plain): what Seal tells, what Open asks, and what a page tells that is written in part.
  A block of bytes that is known whole: make, copy into a part of it, a byte that is stored.
  page.get, page.put, and the reference's number and little: contracts for the walks.
-/
import Derived.Test.YtngnmakeaniapaaGreatDoorH00
import Derived.Laws.CopyOwn
import Derived.Deep.OwnRows
import Derived.Laws.Bits64b
import Derived.Laws.BitsAllLaws
import Derived.Below
set_option linter.unusedVariables false
set_option maxRecDepth 100000
namespace Go.Proofs.YtngnmakeaniapaaGreatDoor

/-- A page ahead of its sum; a page. -/
def headB (kind : UInt8) (no gen : Nat) (l : List UInt8) : List UInt8 := kind :: (leB 4 no ++ (leB 8 gen ++ (leB 2 l.length ++ (l ++ List.replicate (493 - l.length) 0))))
def pageB (kind : UInt8) (no gen : Nat) (l : List UInt8) : List UInt8 := headB kind no gen l ++ leB 4 (sumV (headB kind no gen l))

theorem headB_length {kind : UInt8} {no gen : Nat} {l : List UInt8} (h : l.length ≤ 493) : (headB kind no gen l).length = 508 := by
  simp only [headB, List.length_cons, List.length_append, leB_length, List.length_replicate]
  omega
theorem pageB_length {kind : UInt8} {no gen : Nat} {l : List UInt8} (h : l.length ≤ 493) : (pageB kind no gen l).length = 512 := by
  rw [pageB, List.length_append, headB_length h, leB_length]
theorem pageB_take {kind : UInt8} {no gen : Nat} {l : List UInt8} (h : l.length ≤ 493) : (pageB kind no gen l).take 508 = headB kind no gen l := by
  rw [pageB, List.take_append_of_le_length (by rw [headB_length h]; omega), List.take_of_length_le (by rw [headB_length h]; omega)]
theorem pageB_drop {kind : UInt8} {no gen : Nat} {l : List UInt8} (h : l.length ≤ 493) : (pageB kind no gen l).drop 508 = leB 4 (sumV (headB kind no gen l)) := by
  rw [pageB, List.drop_append, headB_length h, List.drop_eq_nil_of_le (by rw [headB_length h]; omega)]
  rfl
theorem pageB_fits {kind : UInt8} {no gen : Nat} {l : List UInt8} (h : l.length ≤ 493) : Fits (pageB kind no gen l) := by
  have h1 := sumV_lt (headB kind no gen l)
  unfold Fits
  rw [pageB_take h, pageB_drop h, leV_leB]
  exact Nat.mod_eq_of_lt (by omega)

/-- Seal's error, or 0. -/
def sealE (no gen : Int) (n : Nat) : Nat := if no < 0 ∨ 4096 ≤ no ∨ gen < 0 ∨ 1152921504606846976 < gen then 2 else if 493 < n then 3 else 0

/-- What stands in a page. -/
def fNo (l : List UInt8) : Nat := leV ((l.drop 1).take 4)
def fGen (l : List UInt8) : Nat := leV ((l.drop 5).take 8)
def fLen (l : List UInt8) : Nat := leV ((l.drop 13).take 2)
def fIn (l : List UInt8) : List UInt8 := (l.drop 15).take (fLen l)
def Tail (l : List UInt8) : Prop := ∀ i, 15 + fLen l ≤ i → i < 508 → l[i]? = some 0
/-- What Open asks of bytes with a right sum. -/
def Right (l : List UInt8) (no : Int) : Prop := 0 ≤ no ∧ no < 4096 ∧ (fNo l : Int) = no ∧ fGen l ≤ 1152921504606846976 ∧ fLen l ≤ 493 ∧ Tail l
/-- Open's error, or 0. -/
noncomputable def openE (l : List UInt8) (no : Int) : Nat := open Classical in if l.length ≠ 512 then 11 else if ¬ Fits l then 12 else if Right l no then 0 else 11

theorem openE_zero {l : List UInt8} {no : Int} : openE l no = 0 ↔ l.length = 512 ∧ Fits l ∧ Right l no := by
  unfold openE
  by_cases h1 : l.length = 512 <;> by_cases h2 : Fits l <;> by_cases h3 : Right l no <;> simp [h1, h2, h3]

theorem sub_length {l : List UInt8} {a n : Nat} (h : a + n ≤ l.length) : ((l.drop a).take n).length = n := by
  rw [List.length_take, List.length_drop]
  omega
theorem fIn_length {l : List UInt8} (hl : l.length = 512) (h : fLen l ≤ 493) : (fIn l).length = fLen l := sub_length (by omega)
theorem fNo_lt {l : List UInt8} (hl : l.length = 512) : fNo l < 4294967296 := by
  have := leV_lt ((l.drop 1).take 4)
  rw [sub_length (by omega)] at this
  exact this
theorem fGen_lt {l : List UInt8} (hl : l.length = 512) : fGen l < 18446744073709551616 := by
  have := leV_lt ((l.drop 5).take 8)
  rw [sub_length (by omega)] at this
  exact this
theorem fLen_lt {l : List UInt8} (hl : l.length = 512) : fLen l < 65536 := by
  have := leV_lt ((l.drop 13).take 2)
  rw [sub_length (by omega)] at this
  exact this

theorem cut_take (l : List UInt8) (a n : Nat) : l.drop a = (l.drop a).take n ++ l.drop (a + n) := by
  rw [← List.drop_drop, List.take_append_drop]
theorem split_page {l : List UInt8} (hl : l.length = 512) (k : Nat) (hk : k ≤ 493) :
    l.take 508 = l[0] :: ((l.drop 1).take 4 ++ ((l.drop 5).take 8 ++ ((l.drop 13).take 2 ++ ((l.drop 15).take k ++ (l.drop (15 + k)).take (493 - k))))) := by
  have h0 : l = l[0] :: l.drop 1 := by
    have := List.drop_eq_getElem_cons (l := l) (i := 0) (by omega)
    rwa [List.drop_zero] at this
  have h1 : l.take 508 = l[0] :: (l.drop 1).take 507 := (congrArg (List.take 508) h0).trans rfl
  have h2 : ∀ a m n, (l.drop a).take (m + n) = (l.drop a).take m ++ (l.drop (a + m)).take n := fun a m n => by rw [List.take_add, List.drop_drop]
  have e : 507 = 4 + (8 + (2 + (k + (493 - k)))) := by omega
  rw [h1, e, h2, h2, h2, h2]
theorem tail_iff {l : List UInt8} (hl : l.length = 512) (h : fLen l ≤ 493) : Tail l ↔ List.replicate (493 - fLen l) 0 = (l.drop (15 + fLen l)).take (493 - fLen l) := by
  constructor
  · intro ht
    apply List.ext_getElem?
    intro i
    rw [List.getElem?_replicate, List.getElem?_take, List.getElem?_drop]
    split
    · rw [ht _ (by omega) (by omega)]
    · rfl
  · intro he i h1 h2
    have h3 := congrArg (fun m => m[i - (15 + fLen l)]?) he
    simp only [List.getElem?_replicate, List.getElem?_take, List.getElem?_drop] at h3
    rw [if_pos (by omega), if_pos (by omega)] at h3
    have h4 : 15 + fLen l + (i - (15 + fLen l)) = i := by omega
    rw [h4] at h3
    exact h3.symm

/-- Laying anew what stands in a page. -/
theorem again_iff {l : List UInt8} (hl : l.length = 512) {n : Nat} (hn : n < 4294967296) (h : fLen l ≤ 493) : headB l[0] n (fGen l) (fIn l) = l.take 508 ↔ fNo l = n ∧ Tail l := by
  rw [tail_iff hl h, split_page hl (fLen l) h, headB, fIn_length hl h]
  have e8 : leB 8 (fGen l) = (l.drop 5).take 8 := by
    have := leB_leV ((l.drop 5).take 8)
    rwa [sub_length (by omega)] at this
  have e2 : leB 2 (fLen l) = (l.drop 13).take 2 := by
    have := leB_leV ((l.drop 13).take 2)
    rwa [sub_length (by omega)] at this
  have e4 : leB 4 n = (l.drop 1).take 4 ↔ fNo l = n := by
    have h1 := leB_leV ((l.drop 1).take 4)
    rw [sub_length (by omega)] at h1
    constructor
    · intro h2
      have h3 := fNo_lt hl
      refine (leB_inj (k := 4) hn h3 ?_).symm
      rw [h2]
      exact h1.symm
    · intro h2
      rw [← h1, ← h2]
      rfl
  rw [e8, e2, ← e4]
  constructor
  · intro h1
    have h2 := (List.cons.inj h1).2
    obtain ⟨h3, h4⟩ := List.append_inj h2 (by rw [leB_length, sub_length (by omega)])
    exact ⟨h3, List.append_cancel_left (List.append_cancel_left (List.append_cancel_left h4))⟩
  · rintro ⟨h1, h2⟩
    rw [h1, h2]
    rfl

/-- What stands in what Seal tells. -/
theorem page_fields {kind : UInt8} {no gen : Nat} {l : List UInt8} (h : l.length ≤ 493) (hno : no < 4294967296) (hg : gen < 18446744073709551616) :
    (pageB kind no gen l)[0]? = some kind ∧ fNo (pageB kind no gen l) = no ∧ fGen (pageB kind no gen l) = gen ∧ fLen (pageB kind no gen l) = l.length ∧ fIn (pageB kind no gen l) = l ∧ Tail (pageB kind no gen l) := by
  have e : pageB kind no gen l = kind :: (leB 4 no ++ (leB 8 gen ++ (leB 2 l.length ++ (l ++ (List.replicate (493 - l.length) 0 ++ leB 4 (sumV (headB kind no gen l))))))) := by
    simp only [pageB, headB, List.cons_append, List.append_assoc]
  generalize leB 4 (sumV (headB kind no gen l)) = s at e
  rw [e]
  have d1 : (kind :: (leB 4 no ++ (leB 8 gen ++ (leB 2 l.length ++ (l ++ (List.replicate (493 - l.length) 0 ++ s)))))).drop 1 = leB 4 no ++ (leB 8 gen ++ (leB 2 l.length ++ (l ++ (List.replicate (493 - l.length) 0 ++ s)))) := rfl
  have step : ∀ (m : List UInt8) (a b : List UInt8) (k n : Nat), m.drop k = a ++ b → a.length = n → m.drop (k + n) = b ∧ (m.drop k).take n = a := by
    intro m a b k n h1 h2
    subst h2
    rw [← List.drop_drop, h1]
    simp
  obtain ⟨d5, t1⟩ := step _ _ _ 1 4 d1 (leB_length 4 no)
  obtain ⟨d13, t5⟩ := step _ _ _ 5 8 d5 (leB_length 8 gen)
  obtain ⟨d15, t13⟩ := step _ _ _ 13 2 d13 (leB_length 2 _)
  obtain ⟨dT, t15⟩ := step _ _ _ 15 l.length d15 rfl
  have f1 : fNo (kind :: (leB 4 no ++ (leB 8 gen ++ (leB 2 l.length ++ (l ++ (List.replicate (493 - l.length) 0 ++ s)))))) = no := by
    unfold fNo
    rw [t1, leV_leB]
    exact Nat.mod_eq_of_lt hno
  have f2 : fGen (kind :: (leB 4 no ++ (leB 8 gen ++ (leB 2 l.length ++ (l ++ (List.replicate (493 - l.length) 0 ++ s)))))) = gen := by
    unfold fGen
    rw [t5, leV_leB]
    exact Nat.mod_eq_of_lt hg
  have f3 : fLen (kind :: (leB 4 no ++ (leB 8 gen ++ (leB 2 l.length ++ (l ++ (List.replicate (493 - l.length) 0 ++ s)))))) = l.length := by
    unfold fLen
    rw [t13, leV_leB]
    exact Nat.mod_eq_of_lt (by omega)
  refine ⟨rfl, f1, f2, f3, ?_, ?_⟩
  · unfold fIn
    rw [f3, t15]
  · intro i h1 h2
    rw [f3] at h1
    have h3 : i = 15 + l.length + (i - (15 + l.length)) := by omega
    rw [h3, ← List.getElem?_drop, dT, List.getElem?_append_left (by rw [List.length_replicate]; omega), List.getElem?_replicate, if_pos (by omega)]
theorem page_right {kind : UInt8} {no gen : Nat} {l : List UInt8} (h : l.length ≤ 493) (hno : no < 4096) (hg : gen ≤ 1152921504606846976) (n : Int) : openE (pageB kind no gen l) n = if n = (no : Int) then 0 else 11 := by
  obtain ⟨_, h1, h2, h3, _, h5⟩ := page_fields (kind := kind) h (no := no) (by omega) (gen := gen) (by omega)
  unfold openE
  rw [if_neg (by rw [pageB_length h]; omega), if_neg (by simpa using pageB_fits h)]
  by_cases hn : n = (no : Int)
  · rw [if_pos hn, if_pos ⟨by omega, by omega, by rw [h1]; exact hn.symm, by rw [h2]; exact hg, by rw [h3]; exact h, h5⟩]
  · rw [if_neg hn, if_neg (by rintro ⟨_, _, h6, _⟩; rw [h1] at h6; exact hn h6.symm)]
/-- What is opened is what Seal tells of it. -/
theorem open_again {l : List UInt8} {no : Int} (h : openE l no = 0) : ∃ hl : 0 < l.length, pageB l[0] no.toNat (fGen l) (fIn l) = l ∧ sealE no (fGen l) (fIn l).length = 0 ∧ (fIn l).length ≤ 493 := by
  obtain ⟨hl, hf, r1, r2, r3, r4, r5, r6⟩ := openE_zero.1 h
  refine ⟨by omega, ?_, ?_, by rw [fIn_length hl r5]; exact r5⟩
  · have h1 := (again_iff hl (n := no.toNat) (by omega) r5).2 ⟨by omega, r6⟩
    unfold pageB
    rw [h1]
    have h2 : leB 4 (sumV (l.take 508)) = l.drop 508 := by
      rw [← hf]
      have := leB_leV (l.drop 508)
      rwa [List.length_drop, hl] at this
    rw [h2, List.take_append_drop]
  · unfold sealE
    rw [if_neg (by omega), if_neg (by rw [fIn_length hl r5]; omega)]

end Go.Proofs.YtngnmakeaniapaaGreatDoor

set_option linter.unusedVariables false
set_option maxRecDepth 100000
namespace Go.Proofs.YtngnmakeaniapaaGreatDoor

/-- Is it right? -/
def MNext (n : Int) : Prop := 1 ≤ n ∧ n ≤ 1152921504606846976
def MRoot (n : Int) : Prop := n = 0 ∨ (2 ≤ n ∧ n < 4096)
def MRight (g r n d : Int) : Prop := MNext g ∧ MRoot r ∧ MNext n ∧ MNext d
instance (n : Int) : Decidable (MNext n) := inferInstanceAs (Decidable (_ ∧ _))
instance (n : Int) : Decidable (MRoot n) := inferInstanceAs (Decidable (_ ∨ _))
instance (g r n d : Int) : Decidable (MRight g r n d) := inferInstanceAs (Decidable (_ ∧ _))

theorem MRight.b {g r n d : Nat} (h : MRight g r n d) : 1 ≤ g ∧ g ≤ 1152921504606846976 ∧ (r = 0 ∨ (2 ≤ r ∧ r < 4096)) ∧ 1 ≤ n ∧ n ≤ 1152921504606846976 ∧ 1 ≤ d ∧ d ≤ 1152921504606846976 := by
  obtain ⟨⟨h1, h2⟩, h3, ⟨h4, h5⟩, h6, h7⟩ := h
  have h3' : (r : Int) = 0 ∨ (2 ≤ (r : Int) ∧ (r : Int) < 4096) := h3
  omega
theorem MRight.mk' {g r n d : Nat} (h : 1 ≤ g ∧ g ≤ 1152921504606846976 ∧ (r = 0 ∨ (2 ≤ r ∧ r < 4096)) ∧ 1 ≤ n ∧ n ≤ 1152921504606846976 ∧ 1 ≤ d ∧ d ≤ 1152921504606846976) : MRight g r n d := by
  unfold MRight MNext MRoot
  omega
/-- What is right has no sign. -/
theorem MRight.nat {g r n d : Int} (h : MRight g r n d) : ∃ g' r' n' d' : Nat, g = g' ∧ r = r' ∧ n = n' ∧ d = d' := by
  obtain ⟨⟨h1, h2⟩, h3, ⟨h4, h5⟩, h6, h7⟩ := h
  have h3' : r = 0 ∨ (2 ≤ r ∧ r < 4096) := h3
  exact ⟨g.toNat, r.toNat, n.toNat, d.toNat, by omega, by omega, by omega, by omega⟩

/-- What is within; its page. -/
def metaB (g r n d : Nat) : List UInt8 := leB 8 r ++ (leB 8 n ++ (leB 8 d ++ leB 8 g))
def mPage (g r n d : Nat) : List UInt8 := pageB 1 (g % 2) g (metaB g r n d)
theorem metaB_length (g r n d : Nat) : (metaB g r n d).length = 32 := by simp [metaB, leB_length]
theorem mPage_length (g r n d : Nat) : (mPage g r n d).length = 512 := pageB_length (by rw [metaB_length]; omega)

theorem metaB_parts (g r n d : Nat) : (metaB g r n d).take 8 = leB 8 r ∧ ((metaB g r n d).drop 8).take 8 = leB 8 n ∧ ((metaB g r n d).drop 16).take 8 = leB 8 d ∧ (metaB g r n d).drop 24 = leB 8 g := by
  have hr := leB_length 8 r
  have hn := leB_length 8 n
  have hd := leB_length 8 d
  unfold metaB
  generalize leB 8 r = a at *
  generalize leB 8 n = b at *
  generalize leB 8 d = c at *
  have e1 : (a ++ (b ++ (c ++ leB 8 g))).drop 8 = b ++ (c ++ leB 8 g) := List.drop_left' hr
  have e2 : (a ++ (b ++ (c ++ leB 8 g))).drop 16 = c ++ leB 8 g := by
    have h := List.drop_drop (i := 8) (j := 8) (l := a ++ (b ++ (c ++ leB 8 g)))
    rw [e1] at h
    rw [show (16 : Nat) = 8 + 8 from rfl, ← h]
    exact List.drop_left' hn
  have e3 : (a ++ (b ++ (c ++ leB 8 g))).drop 24 = leB 8 g := by
    have h := List.drop_drop (i := 8) (j := 16) (l := a ++ (b ++ (c ++ leB 8 g)))
    rw [e2] at h
    rw [show (24 : Nat) = 16 + 8 from rfl, ← h]
    exact List.drop_left' hd
  exact ⟨List.take_left' hr, by rw [e1]; exact List.take_left' hn, by rw [e2]; exact List.take_left' hd, e3⟩
theorem metaB_of {x : List UInt8} (hx : x.length = 32) : metaB (leV (x.drop 24)) (leV (x.take 8)) (leV ((x.drop 8).take 8)) (leV ((x.drop 16).take 8)) = x := by
  have back : ∀ m : List UInt8, m.length = 8 → leB 8 (leV m) = m := fun m h => by have := leB_leV m; rwa [h] at this
  have step : ∀ k, (x.drop k).take 8 ++ x.drop (k + 8) = x.drop k := fun k => (cut_take x k 8).symm
  unfold metaB
  rw [back (x.take 8) (by rw [List.length_take]; omega), back ((x.drop 8).take 8) (sub_length (by omega)), back ((x.drop 16).take 8) (sub_length (by omega)), back (x.drop 24) (by rw [List.length_drop]; omega), step 16, step 8, List.take_append_drop]

/-- The numbers that stand in a page. -/
def fR (l : List UInt8) : Nat := leV ((fIn l).take 8)
def fN (l : List UInt8) : Nat := leV (((fIn l).drop 8).take 8)
def fD (l : List UInt8) : Nat := leV (((fIn l).drop 16).take 8)
def fG (l : List UInt8) : Nat := leV ((fIn l).drop 24)

/-- Is it a Meta's page? (It is a page.) -/
def MOk (l : List UInt8) (no : Int) : Prop := l[0]? = some 1 ∧ (fIn l).length = 32 ∧ ((fGen l % 2 : Nat) : Int) = no ∧ fG l = fGen l ∧ MRight (fGen l) (fR l) (fN l) (fD l)
/-- Open's error, or 0, and what it tells. -/
noncomputable def mE (l : List UInt8) (no : Int) : Nat := open Classical in if openE l no ≠ 0 then openE l no else if MOk l no then 0 else 11
noncomputable def mG (l : List UInt8) (no : Int) : Nat := if mE l no = 0 then fGen l else 0
noncomputable def mR (l : List UInt8) (no : Int) : Nat := if mE l no = 0 then fR l else 0
noncomputable def mN (l : List UInt8) (no : Int) : Nat := if mE l no = 0 then fN l else 0
noncomputable def mD (l : List UInt8) (no : Int) : Nat := if mE l no = 0 then fD l else 0

theorem mE_zero {l : List UInt8} {no : Int} : mE l no = 0 ↔ openE l no = 0 ∧ MOk l no := by
  unfold mE
  by_cases h1 : openE l no = 0 <;> by_cases h2 : MOk l no <;> simp [h1, h2]
theorem mE_bad {l : List UInt8} {no : Int} (h : openE l no ≠ 0) : mE l no = openE l no := by unfold mE; rw [if_pos h]
theorem mE_not {l : List UInt8} {no : Int} (h : openE l no = 0) (h2 : ¬ MOk l no) : mE l no = 11 := by unfold mE; rw [if_neg (by simpa using h), if_neg h2]
theorem m_none {l : List UInt8} {no : Int} (h : mE l no ≠ 0) : mG l no = 0 ∧ mR l no = 0 ∧ mN l no = 0 ∧ mD l no = 0 := by
  unfold mG mR mN mD
  simp [h]
theorem m_some {l : List UInt8} {no : Int} (h : mE l no = 0) : mG l no = fGen l ∧ mR l no = fR l ∧ mN l no = fN l ∧ mD l no = fD l := by
  unfold mG mR mN mD
  simp [h]
theorem m_gen {l : List UInt8} {no : Int} : mE l no = 0 ↔ mG l no ≠ 0 := by
  constructor
  · intro h
    rw [(m_some h).1]
    have := (mE_zero.1 h).2.2.2.2.2.b
    omega
  · intro h
    by_cases h1 : mE l no = 0
    · exact h1
    · exact absurd (m_none h1).1 h

/-- A page that is no other one's: it is that of what it tells. -/
theorem again_page {l : List UInt8} {no : Int} (h : openE l no = 0) : MOk l no ↔ MRight (fG l) (fR l) (fN l) (fD l) ∧ (fIn l).length = 32 ∧ mPage (fG l) (fR l) (fN l) (fD l) = l := by
  obtain ⟨hl0, h1, _, h3⟩ := open_again h
  obtain ⟨hl, _, r1, r2, r3, r4, r5, r6⟩ := openE_zero.1 h
  constructor
  · rintro ⟨a1, a2, a3, a4, a5⟩
    refine ⟨by rw [a4]; exact a5, a2, ?_⟩
    obtain ⟨_, a1'⟩ := List.getElem?_eq_some_iff.1 a1
    have e : no.toNat = fGen l % 2 := by omega
    rw [a1', e] at h1
    have h4 : metaB (fG l) (fR l) (fN l) (fD l) = fIn l := metaB_of a2
    unfold mPage
    rw [h4, a4]
    exact h1
  · rintro ⟨a1, a2, a3⟩
    have hb := a1.b
    have hp := page_fields (kind := 1) (no := fG l % 2) (gen := fG l) (l := metaB (fG l) (fR l) (fN l) (fD l)) (by rw [metaB_length]; omega) (by omega) (by omega)
    rw [show pageB 1 (fG l % 2) (fG l) (metaB (fG l) (fR l) (fN l) (fD l)) = l from a3] at hp
    obtain ⟨b1, b2, b3, b4, b5, _⟩ := hp
    refine ⟨b1, a2, ?_, b3.symm, by rw [b3]; exact a1⟩
    rw [b3]
    rw [b2] at r3
    exact r3

/-- What is sealed. -/
theorem page_own {g r n d : Nat} (h : MRight g r n d) : fGen (mPage g r n d) = g ∧ fG (mPage g r n d) = g ∧ fR (mPage g r n d) = r ∧ fN (mPage g r n d) = n ∧ fD (mPage g r n d) = d ∧ fIn (mPage g r n d) = metaB g r n d ∧ (mPage g r n d)[0]? = some 1 := by
  have hb := h.b
  obtain ⟨b1, b2, b3, b4, b5, _⟩ := page_fields (kind := 1) (no := g % 2) (gen := g) (l := metaB g r n d) (by rw [metaB_length]; omega) (by omega) (by omega)
  obtain ⟨p1, p2, p3, p4⟩ := metaB_parts g r n d
  have e : ∀ m : Nat, m < 18446744073709551616 → leV (leB 8 m) = m := fun m hm => by rw [leV_leB]; exact Nat.mod_eq_of_lt (by omega)
  unfold fG fR fN fD mPage
  rw [b5, p1, p2, p3, p4]
  exact ⟨b3, e _ (by omega), e _ (by omega), e _ (by omega), e _ (by omega), rfl, b1⟩
theorem page_open {g r n d : Nat} (h : MRight g r n d) (no : Int) : mE (mPage g r n d) no = if no = ((g % 2 : Nat) : Int) then 0 else 11 := by
  have hb := h.b
  have h1 := page_right (kind := 1) (no := g % 2) (gen := g) (l := metaB g r n d) (by rw [metaB_length]; omega) (by omega) (by omega) no
  obtain ⟨q1, q2, q3, q4, q5, q6, q7⟩ := page_own h
  by_cases hn : no = ((g % 2 : Nat) : Int)
  · rw [if_pos hn] at h1 ⊢
    refine mE_zero.2 ⟨h1, q7, by rw [q6, metaB_length], by rw [q1, hn], by rw [q1, q2], by rw [q1, q3, q4, q5]; exact h⟩
  · rw [if_neg hn] at h1 ⊢
    have h2 : openE (mPage g r n d) no = 11 := h1
    rw [mE_bad (by rw [h2]; decide), h2]
theorem page_is {g r n d : Nat} (h : MRight g r n d) {no : Int} (hn : no = ((g % 2 : Nat) : Int)) : mE (mPage g r n d) no = 0 ∧ mG (mPage g r n d) no = g ∧ mR (mPage g r n d) no = r ∧ mN (mPage g r n d) no = n ∧ mD (mPage g r n d) no = d := by
  have h1 := page_open h no
  rw [if_pos hn] at h1
  obtain ⟨s1, s2, s3, s4⟩ := m_some h1
  obtain ⟨q1, q2, q3, q4, q5, q6, q7⟩ := page_own h
  exact ⟨h1, by rw [s1, q1], by rw [s2, q3], by rw [s3, q4], by rw [s4, q5]⟩
theorem page_not {g r n d : Nat} (h : MRight g r n d) {no : Int} (hn : no ≠ ((g % 2 : Nat) : Int)) : mG (mPage g r n d) no = 0 ∧ mR (mPage g r n d) no = 0 ∧ mN (mPage g r n d) no = 0 ∧ mD (mPage g r n d) no = 0 := by
  have h1 := page_open h no
  rw [if_neg hn] at h1
  exact m_none (by rw [h1]; decide)
theorem nil_not (no : Int) : mG [] no = 0 ∧ mR [] no = 0 ∧ mN [] no = 0 ∧ mD [] no = 0 := by
  have h1 : openE [] no = 11 := by unfold openE; rw [if_pos (by decide)]
  exact m_none (by rw [mE_bad (by rw [h1]; decide), h1]; decide)

/-- Where a page is written in part. -/
def tornB (y u : List UInt8) (k : Nat) : List UInt8 := y.take k ++ u.drop k
theorem torn_length {y u : List UInt8} (hy : y.length = 512) (hu : u.length = 512) {k : Nat} (hk : k ≤ 512) : (tornB y u k).length = 512 := by
  simp only [tornB, List.length_append, List.length_take, List.length_drop]
  omega
theorem torn_drop {y u : List UInt8} (hy : y.length = 512) {k a : Nat} (hk : k ≤ a) (ha : k ≤ 512) : (tornB y u k).drop a = u.drop a := by
  unfold tornB
  rw [List.drop_append, List.length_take, Nat.min_eq_left (by omega), List.drop_eq_nil_of_le (by rw [List.length_take]; omega), List.nil_append, List.drop_drop]
  congr 1
  omega
theorem torn_take {y u : List UInt8} (hy : y.length = 512) {k a : Nat} (hk : a ≤ k) (ha : k ≤ 512) : (tornB y u k).take a = y.take a := by
  unfold tornB
  rw [List.take_append_of_le_length (by rw [List.length_take]; omega), List.take_take, Nat.min_eq_left hk]
theorem drop_take_of {l m : List UInt8} {a b c : Nat} (h : l.take c = m.take c) (hc : a + b ≤ c) : (l.drop a).take b = (m.drop a).take b := by
  have h1 : ∀ x : List UInt8, (x.drop a).take b = ((x.take c).drop a).take b := fun x => by
    rw [List.drop_take, List.take_take, Nat.min_eq_left (by omega)]
  rw [h1 l, h1 m, h]

/-- The Gen at the other end. -/
theorem tail_gen {l : List UInt8} {no : Int} (h : mE l no = 0) : fLen l = 32 ∧ leV ((l.drop 39).take 8) = fGen l ∧ fR l = leV ((l.drop 15).take 8) ∧ fN l = leV ((l.drop 23).take 8) ∧ fD l = leV ((l.drop 31).take 8) := by
  obtain ⟨h1, a1, a2, a3, a4, a5⟩ := mE_zero.1 h
  obtain ⟨hl, _, r1, r2, r3, r4, r5, r6⟩ := openE_zero.1 h1
  rw [fIn_length hl r5] at a2
  have e : ∀ k, k ≤ 24 → ((fIn l).drop k).take 8 = (l.drop (15 + k)).take 8 := fun k hk => by
    unfold fIn
    rw [a2, List.drop_take, List.drop_drop, List.take_take, Nat.min_eq_left (by omega)]
  have e24 : (fIn l).drop 24 = (l.drop 39).take 8 := by
    have := e 24 (by omega)
    rwa [List.take_of_length_le (by rw [List.length_drop, fIn_length hl r5]; omega)] at this
  refine ⟨a2, by rw [← e24]; exact a4, ?_, ?_, ?_⟩
  · have := e 0 (by omega)
    unfold fR
    rw [List.drop_zero] at this
    rw [this]
  · unfold fN
    rw [e 8 (by omega)]
  · unfold fD
    rw [e 16 (by omega)]

/-- What is found where a page is written in part: nothing, what was under it, or, where all of it is there, that. -/
theorem torn_gen {g r n d : Nat} (h : MRight g r n d) {u : List UInt8} (hu : u.length = 512) {x : Nat} (h5 : leV ((u.drop 5).take 8) = x) (h39 : leV ((u.drop 39).take 8) = x) {k : Nat} (hk : k ≤ 512) (no : Int) :
    mG (tornB (mPage g r n d) u k) no ≤ x ∨ tornB (mPage g r n d) u k = mPage g r n d := by
  have hy := mPage_length g r n d
  by_cases h0 : mE (tornB (mPage g r n d) u k) no = 0
  · obtain ⟨t1, t2, t3, t4, t5⟩ := tail_gen h0
    have hG := (m_some h0).1
    by_cases k5 : k ≤ 39
    · left
      rw [hG, ← t2, torn_drop hy k5 hk, h39]
      exact Nat.le_refl _
    · right
      obtain ⟨ho, hm⟩ := mE_zero.1 h0
      obtain ⟨_, _, e⟩ := (again_page ho).1 hm
      have hf : fG (tornB (mPage g r n d) u k) = fGen (tornB (mPage g r n d) u k) := hm.2.2.2.1
      obtain ⟨q1, q2, q3, q4, q5, q6, q7⟩ := page_own h
      have h0' : mE (mPage g r n d) ((g % 2 : Nat) : Int) = 0 := by rw [page_open h, if_pos rfl]
      obtain ⟨_, _, s3, s4, s5⟩ := tail_gen h0'
      have ht := torn_take (u := u) hy (k := k) (a := 40) (by omega) hk
      have e0 : fGen (tornB (mPage g r n d) u k) = g := by
        have h1 : fGen (tornB (mPage g r n d) u k) = fGen (mPage g r n d) := by
          unfold fGen
          rw [drop_take_of ht (by omega)]
        rw [h1, q1]
      have e1 : fR (tornB (mPage g r n d) u k) = r := by rw [t3, drop_take_of ht (by omega), ← s3, q3]
      have e2 : fN (tornB (mPage g r n d) u k) = n := by rw [t4, drop_take_of ht (by omega), ← s4, q4]
      have e3 : fD (tornB (mPage g r n d) u k) = d := by rw [t5, drop_take_of ht (by omega), ← s5, q5]
      rw [hf, e0, e1, e2, e3] at e
      exact e.symm
  · left
    rw [(m_none h0).1]
    omega
theorem zeros_gen : leV (((List.replicate 512 (0 : UInt8)).drop 5).take 8) = 0 ∧ leV (((List.replicate 512 (0 : UInt8)).drop 39).take 8) = 0 := by
  rw [List.drop_replicate, List.drop_replicate, List.take_replicate, List.take_replicate]
  exact ⟨rfl, rfl⟩
theorem under_gen {g r n d : Nat} (h : MRight g r n d) : leV (((mPage g r n d).drop 5).take 8) = g ∧ leV (((mPage g r n d).drop 39).take 8) = g := by
  have h0 : mE (mPage g r n d) ((g % 2 : Nat) : Int) = 0 := by rw [page_open h, if_pos rfl]
  obtain ⟨_, t2, _⟩ := tail_gen h0
  have q1 := (page_own h).1
  exact ⟨q1, by rw [t2, q1]⟩

/-- The newest one. -/
noncomputable def newG (a b : List UInt8) : Nat := if mG a 0 < mG b 1 then mG b 1 else mG a 0
noncomputable def newR (a b : List UInt8) : Nat := if mG a 0 < mG b 1 then mR b 1 else mR a 0
noncomputable def newN (a b : List UInt8) : Nat := if mG a 0 < mG b 1 then mN b 1 else mN a 0
noncomputable def newD (a b : List UInt8) : Nat := if mG a 0 < mG b 1 then mD b 1 else mD a 0

end Go.Proofs.YtngnmakeaniapaaGreatDoor

set_option linter.unusedVariables false
set_option maxRecDepth 100000
namespace Go.Proofs.YtngnmakeaniapaaGreatDoor
open Go.RowKit

/-- Block g is known whole: the bytes l. -/
def PSec (w : World) (g : Nat) (l : List UInt8) : Prop := w.heap[g]? = some (.cells (u8s l).toArray 5 (0, 0))

theorem PSec.lt {w : World} {g : Nat} {l : List UInt8} (h : PSec w g l) : g < w.heap.size := (Array.getElem?_eq_some_iff.1 h).1
theorem PSec.below {w w' : World} {g : Nat} {l : List UInt8} (h : PSec w g l) {B : Nat} (hB : g < B) (hb : Below B w w') : PSec w' g l := by
  unfold PSec
  rw [hb.block g hB]
  exact h
theorem PSec.bs {w : World} {g : Nat} {l : List UInt8} (h : PSec w g l) : Bs w (some ⟨g, 0, none⟩) l := Bs.of_block h rfl
/-- A part of it. -/
theorem PSec.part {w : World} {g : Nat} {l : List UInt8} (h : PSec w g l) (a n : Nat) : Bs w (some ⟨g, a, none⟩) ((l.drop a).take n) := by
  refine Bs.take ?_ n
  have h1 : ∀ i u, l[i]? = some u → w.cell? ⟨g, 0 + i, none⟩ = some (.int .u8 (u.toNat : Int)) := by
    intro i u hi
    rw [Joins.cell_of_block h, Nat.zero_add]
    simp [u8s, hi]
  have := Bs.drop h1 a
  rwa [Nat.zero_add] at this
theorem PSec.own {w : World} {B g : Nat} {l : List UInt8} (h : PSec w g l) (hB : B ≤ g) {n : Nat} (hn : n = l.length) (hm : l.length ≤ 140737488355328) : Own w B (.slice (some ⟨g, 0, none⟩) n n) l := by
  subst hn
  refine ⟨by simp [u8s], .inr ⟨g, l.length, (u8s l).toArray, rfl, hB, h, Nat.le_refl _, by simp only [maxLen]; omega, by simp [u8s], by rw [List.take_of_length_le (by simp [u8s])]⟩⟩

theorem pmadeCells_u8 (n : Nat) : madeCells #[Value.int .u8 0] n = (u8s (List.replicate n 0)).toArray := by
  apply Array.ext
  · simp [madeCells, u8s]
  · intro i h1 h2
    simp [madeCells, u8s, Nat.mod_one]

/-- make([]byte, 512) -/
theorem pmake_u8 {w : World} {ops : Array Oper} {rest : List Oper} {o : Oper} {a : Act} {Q : Exit → Act → World → Prop} (hg : o.guard = none) (l c : Operand) (hop : o.op = Op.makeSlice 41 l c)
    (hl : a.eval l = .int .i64 512) (hc : a.eval c = .int .i64 512)
    (hK : ∀ w', PSec w' w.heap.size (List.replicate 512 0) → Below w.heap.size w w' → w'.heap.size = w.heap.size + 1 → wpList Tryz.prog ops Q rest (a.put o.dst (.slice (some ⟨w.heap.size, 0, none⟩) 512 512)) w') :
    wpList Tryz.prog ops Q (o :: rest) a w := by
  obtain ⟨i, hi, hz0, hz1, hz2⟩ := info_parts info_u8
  refine wpList_make_row w hg l c _ hop 5 i (.int .u8 0) Tryz.underlying41 hi hz0 hz1 rfl .i64 .i64 512 hl hc (by rw [hz2]; decide) (by decide) ?_
  refine hK _ ?_ ((Below.refl _ _).alloc (Nat.le_refl _) _) (by simp)
  rw [pmadeCells_u8]
  exact heap_alloc_new w _

/-- Bytes laid over a part. -/
def splL (l : List UInt8) (o : Nat) (m : List UInt8) : List UInt8 := l.take o ++ m ++ l.drop (o + m.length)
theorem splL_length {l m : List UInt8} {o : Nat} (h : o + m.length ≤ l.length) : (splL l o m).length = l.length := by
  simp only [splL, List.length_append, List.length_take, List.length_drop]
  omega
theorem psplice_u8 (l m : List UInt8) (o : Nat) : splice (u8s l) o (u8s m) = u8s (splL l o m) := by
  simp [splice, u8s, splL]

/-- copy(own[o:o+n], bytes): the bytes lie elsewhere. -/
theorem pcopy_u8 {w w0 : World} {ops : Array Oper} {rest : List Oper} {o : Oper} {a : Act} {Q : Exit → Act → World → Prop} (hgd : o.guard = none) (d s : Operand)
    (ho : o.op = .call { callee := .builtin .copy, args := #[d, s], argTypes := #[41, 41] })
    {g off n c : Nat} {l : List UInt8} (hd : a.eval d = .slice (some ⟨g, off, none⟩) n c) (hg : PSec w g l) (hn : off + n ≤ l.length)
    {p : Option Addr} {k k' : Nat} {m : List UInt8} (hs : a.eval s = .slice p k k') (hm : Bs w p m) (hml : m.length = min k n) {B : Nat} (hb : Below B w0 w) (hB : B ≤ g)
    (h : ∀ w', PSec w' g (splL l off m) → Below B w0 w' → wpList Tryz.prog ops Q rest (a.put o.dst (goInt m.length)) w') : wpList Tryz.prog ops Q (o :: rest) a w := by
  obtain ⟨i, hi, hz0, hz1, hz2⟩ := info_parts info_u8
  refine wpList_copy_splice hgd d s _ _ ho 5 Tryz.underlying41 (by rw [hi]; simp [hz1]) _ _ _ _ _ _ hd hs g off (u8s l) 5 hg (u8s m) (by rw [u8s_length]; exact hml) ?_ (by rw [u8s_length, u8s_length]; omega) (u8s_oneCell m) B w0 hb hB ?_
  · intro h0
    rw [u8s_length] at h0
    obtain ⟨b, o, rfl, _, hc⟩ := hm.at h0
    refine ⟨rfl, _, rfl, fun j v hj => ?_⟩
    obtain ⟨u, hu, rfl⟩ := u8s_get hj
    rw [Addr.add_lit]
    obtain ⟨hj', rfl⟩ := List.getElem?_eq_some_iff.1 hu
    exact hc j hj'
  · intro w' h1 h2
    rw [u8s_length]
    refine h w' ?_ h2
    have h3 := h1.out
    rw [psplice_u8] at h3
    exact h3

end Go.Proofs.YtngnmakeaniapaaGreatDoor

set_option linter.unusedVariables false
set_option maxRecDepth 100000
namespace Go.Proofs.YtngnmakeaniapaaGreatDoor
open Go.RowKit

theorem leV_snoc {l : List UInt8} {j : Nat} (hj : j < l.length) : leV (l.take (j + 1)) = leV (l.take j) + 256 ^ j * l[j].toNat := by
  rw [List.take_add_one, List.getElem?_eq_getElem hj, leV_append, List.length_take, Nat.min_eq_left (by omega)]
  simp [leV]
theorem pow8 (j : Nat) : (256 : Nat) ^ j = 2 ^ (8 * j) := by rw [Nat.pow_mul]
theorem or_low {s d j : Nat} (hs : s < 256 ^ j) (hd : d < 256) (hj : j < 8) : bits .or .u64 (s : Int) (IntKind.u64.wrap ((d : Int) * 2 ^ (8 * j))) = ((s + 256 ^ j * d : Nat) : Int) := by
  have h0 : (256 : Nat) ^ j ≤ 256 ^ 7 := Nat.pow_le_pow_right (by decide) (by omega)
  have h1 : (256 : Nat) ^ 7 = 72057594037927936 := by decide
  have h2 : 256 ^ j * d ≤ 256 ^ 7 * 255 := Nat.mul_le_mul h0 (by omega)
  have h3 : ((d : Int) * 2 ^ (8 * j)) = ((256 ^ j * d : Nat) : Int) := by
    rw [pow8, Int.natCast_mul, Int.natCast_pow, Int.mul_comm]
    rfl
  have h4 := Nat.two_pow_add_eq_or_of_lt (i := 8 * j) (b := s) (by rw [← pow8]; exact hs) d
  rw [h3, IntKind.wrap_u64, Int.emod_eq_of_lt (by omega) (by omega), bits_or_u64_nat s (256 ^ j * d) (by omega) (by omega), Nat.or_comm, pow8, ← h4, Nat.add_comm]

set_option maxHeartbeats 800000 in
theorem get_any {w : World} {p : Option Addr} {l : List UInt8} (hl : Bs w p l) {n c : Nat} (hn : n = l.length) (h8 : n ≤ 8) :
    Calls Tryz.prog 171 #[.slice p n c] w fun e w' => e = .returned (.int .u64 (leV l : Nat)) ∧ w = w' := by
  have HN := Lib.hid hn
  have HL := Lib.hid hl
  clear hl hn
  go_enter Tryz.func171, Tryz.ntmps171
  go_wp2
  go_loop [3, 8] (fun s i => ∃ j : Nat, i = .int .i64 j ∧ j ≤ n ∧ s = .int .u64 (leV (l.take j) : Nat)) (fun _ i => n - (intOf i).toNat)
  case atStart => exact ⟨0, rfl, by omega, rfl⟩
  case round =>
    obtain ⟨j, rfl, hj, rfl⟩ := hrel
    by_cases hjn : j < n
    · have hjl : j < l.length := by have := HN.out; omega
      obtain ⟨b, o, rfl, _, hcells⟩ := HL.out.at (by omega)
      have hx := hcells j hjl
      have HR := Lib.hid (leV_snoc hjl)
      have hcl : l[j].toNat < 256 := l[j].toNat_lt
      have hlt := leV_lt (l.take j)
      rw [List.length_take, Nat.min_eq_left (by omega)] at hlt
      have HQ := Lib.hid (or_low hlt hcl (by omega))
      clear hcells hlt
      generalize leV (l.take j) = s at *
      generalize l[j].toNat = d at *
      go_wp2
      go_round
      case rel => exact ⟨j + 1, by go_num, by omega, by rw [HR.out, HQ.out]⟩
      case measure => simp [intOf]; omega
    · have HJ : Hid (j = l.length) := Lib.hid (by have := HN.out; omega)
      have HR : Hid (leV (l.take j) = leV l) := Lib.hid (by rw [HJ.out, List.take_length])
      generalize leV (l.take j) = s at *
      go_wp2
      go_ret
      refine ⟨ret_int ?_, rfl⟩
      rw [HR.out]

theorem leB_snoc (j x : Nat) : leB (j + 1) x = leB j x ++ [UInt8.ofNat (x / 256 ^ j)] := by
  induction j generalizing x with
  | zero => simp [leB]
  | succ j ih => rw [leB, ih, leB, List.cons_append, Nat.div_div_eq_div_mul, Nat.pow_succ, Nat.mul_comm 256]

theorem put_cells {x : Nat} (hx : x < 18446744073709551616) : #[Value.int .u8 ((x : Int) % 256), .int .u8 ((x : Int) / 256 % 256), .int .u8 ((x : Int) / 65536 % 256), .int .u8 ((x : Int) / 16777216 % 256), .int .u8 ((x : Int) / 4294967296 % 256), .int .u8 ((x : Int) / 1099511627776 % 256), .int .u8 ((x : Int) / 281474976710656 % 256), .int .u8 ((x : Int) / 72057594037927936)] = (u8s (leB 8 x)).toArray := by
  simp only [leB, u8s, List.map_cons, List.map_nil, u8_ofNat, Nat.div_div_eq_div_mul]
  congr 9
  all_goals congr 1
  all_goals first | omega | (congr 1; omega)

def PutPost (w : World) (g B : Nat) (l : List UInt8) (e : Ending) (w' : World) : Prop := e = .returned (.tuple #[]) ∧ PSec w' g l ∧ Below B w w'

set_option maxHeartbeats 800000 in
theorem put_any {w : World} {g o n c B : Nat} {l : List UInt8} (hS : PSec w g l) (hB : B ≤ g) (hn : o + n ≤ l.length) (hn8 : n ≤ 8) (hnc : n ≤ c) (hc : c ≤ 9223372036854775807) {x : Nat} (hx : x < 18446744073709551616) :
    Calls Tryz.prog 169 #[.slice (some ⟨g, o, none⟩) n c, .int .u64 (x : Int)] w (PutPost w g B (splL l o (leB n x))) := by
  have HS := Lib.hid hS
  have HN := Lib.hid hn
  clear hS hn
  have HC : Hid (#[Value.int .u8 ((x : Int) % 256), .int .u8 ((x : Int) / 256 % 256), .int .u8 ((x : Int) / 65536 % 256), .int .u8 ((x : Int) / 16777216 % 256), .int .u8 ((x : Int) / 4294967296 % 256), .int .u8 ((x : Int) / 1099511627776 % 256), .int .u8 ((x : Int) / 281474976710656 % 256), .int .u8 ((x : Int) / 72057594037927936)] = (u8s (leB 8 x)).toArray) := Lib.hid (put_cells hx)
  have HT : Hid ((leB 8 x).take n = leB n x) := Lib.hid (leB_take hn8)
  have HM : Hid ((leB n x).length = min 8 n) := Lib.hid (by rw [leB_length]; omega)
  go_enter Tryz.func169, Tryz.ntmps169
  go_wp2_with (refine pcopy_u8 rfl (.tmp 29) (.tmp 30) rfl rfl (HS.out.below HS.out.lt ((Below.refl _ _).alloc (Nat.le_refl _) _)) HN.out rfl (by rw [← HT.out]; exact (Bs.new _ _ _ _ rfl HC.out).take n) HM.out ((Below.refl _ _).alloc (Nat.le_trans hB (Nat.le_of_lt HS.out.lt)) _) hB ?_; intro w2 h2 hb2; have H2 := Lib.hid h2; have HB2 := Lib.hid hb2; clear h2 hb2)
  exact bodyPost_ret (v := .tuple #[]) (by simp [results, Tryz.results169, go_sem]) rfl ⟨rfl, H2.out, HB2.out⟩

end Go.Proofs.YtngnmakeaniapaaGreatDoor

