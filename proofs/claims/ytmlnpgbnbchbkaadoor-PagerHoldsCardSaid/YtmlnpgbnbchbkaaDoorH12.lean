/-
  A Meta's page (plain): what Seal tells, what Open asks, and what a page tells that is written in part.
  page.Sum, over the table of what four bits do, and the reference's Sum: contracts for the walks.
  A block of bytes that is known whole: make, copy into a part of it, a byte that is stored.
-/
import Derived.Test.YtmlnpgbnbchbkaaDoorH11
import Derived.Test.YtmlnpgbnbchbkaaDoorH01
import Derived.Laws.Rows
import Derived.Laws.BitsAllLaws
import Derived.Below
import Derived.Laws.CopyOwn
import Derived.Deep.OwnRows
set_option linter.unusedVariables false
set_option maxRecDepth 100000
namespace Go.Proofs.YtmlnpgbnbchbkaaDoor

/-- Is it right? -/
def MNext (n : Int) : Prop := 1 ≤ n ∧ n ≤ 1152921504606846976
def MRoot (n : Int) : Prop := n = 0 ∨ (2 ≤ n ∧ n < 4096)
def MRight (g r n d : Int) : Prop := MNext g ∧ MRoot r ∧ MNext n ∧ MNext d
instance (n : Int) : Decidable (MNext n) := inferInstanceAs (Decidable (_ ∧ _))
instance (n : Int) : Decidable (MRoot n) := inferInstanceAs (Decidable (_ ∨ _))
instance (g r n d : Int) : Decidable (MRight g r n d) := inferInstanceAs (Decidable (_ ∧ _))

theorem MRight.b {g r n d : Nat} (h : MRight g r n d) : 1 ≤ g ∧ g ≤ 1152921504606846976 ∧ (r = 0 ∨ (2 ≤ r ∧ r < 4096)) ∧ 1 ≤ n ∧ n ≤ 1152921504606846976 ∧ 1 ≤ d ∧ d ≤ 1152921504606846976 := by
  obtain ⟨⟨h1, h2⟩, h3, ⟨h4, h5⟩, h6, h7⟩ := h
  have h3' : (r : Int) = 0 ∨ (2 ≤ (r : Int) ∧ (r : Int) < 4096) := h3
  omega
theorem MRight.mk' {g r n d : Nat} (h : 1 ≤ g ∧ g ≤ 1152921504606846976 ∧ (r = 0 ∨ (2 ≤ r ∧ r < 4096)) ∧ 1 ≤ n ∧ n ≤ 1152921504606846976 ∧ 1 ≤ d ∧ d ≤ 1152921504606846976) : MRight g r n d := by
  unfold MRight MNext MRoot
  omega
/-- What is right has no sign. -/
theorem MRight.nat {g r n d : Int} (h : MRight g r n d) : ∃ g' r' n' d' : Nat, g = g' ∧ r = r' ∧ n = n' ∧ d = d' := by
  obtain ⟨⟨h1, h2⟩, h3, ⟨h4, h5⟩, h6, h7⟩ := h
  have h3' : r = 0 ∨ (2 ≤ r ∧ r < 4096) := h3
  exact ⟨g.toNat, r.toNat, n.toNat, d.toNat, by omega, by omega, by omega, by omega⟩

/-- What is within; its page. -/
def metaB (g r n d : Nat) : List UInt8 := leB 8 r ++ (leB 8 n ++ (leB 8 d ++ leB 8 g))
def mPage (g r n d : Nat) : List UInt8 := pageB 1 (g % 2) g (metaB g r n d)
theorem metaB_length (g r n d : Nat) : (metaB g r n d).length = 32 := by simp [metaB, leB_length]
theorem mPage_length (g r n d : Nat) : (mPage g r n d).length = 512 := pageB_length (by rw [metaB_length]; omega)

theorem metaB_parts (g r n d : Nat) : (metaB g r n d).take 8 = leB 8 r ∧ ((metaB g r n d).drop 8).take 8 = leB 8 n ∧ ((metaB g r n d).drop 16).take 8 = leB 8 d ∧ (metaB g r n d).drop 24 = leB 8 g := by
  have hr := leB_length 8 r
  have hn := leB_length 8 n
  have hd := leB_length 8 d
  unfold metaB
  generalize leB 8 r = a at *
  generalize leB 8 n = b at *
  generalize leB 8 d = c at *
  have e1 : (a ++ (b ++ (c ++ leB 8 g))).drop 8 = b ++ (c ++ leB 8 g) := List.drop_left' hr
  have e2 : (a ++ (b ++ (c ++ leB 8 g))).drop 16 = c ++ leB 8 g := by
    have h := List.drop_drop (i := 8) (j := 8) (l := a ++ (b ++ (c ++ leB 8 g)))
    rw [e1] at h
    rw [show (16 : Nat) = 8 + 8 from rfl, ← h]
    exact List.drop_left' hn
  have e3 : (a ++ (b ++ (c ++ leB 8 g))).drop 24 = leB 8 g := by
    have h := List.drop_drop (i := 8) (j := 16) (l := a ++ (b ++ (c ++ leB 8 g)))
    rw [e2] at h
    rw [show (24 : Nat) = 16 + 8 from rfl, ← h]
    exact List.drop_left' hd
  exact ⟨List.take_left' hr, by rw [e1]; exact List.take_left' hn, by rw [e2]; exact List.take_left' hd, e3⟩
theorem metaB_of {x : List UInt8} (hx : x.length = 32) : metaB (leV (x.drop 24)) (leV (x.take 8)) (leV ((x.drop 8).take 8)) (leV ((x.drop 16).take 8)) = x := by
  have back : ∀ m : List UInt8, m.length = 8 → leB 8 (leV m) = m := fun m h => by have := leB_leV m; rwa [h] at this
  have step : ∀ k, (x.drop k).take 8 ++ x.drop (k + 8) = x.drop k := fun k => (cut_take x k 8).symm
  unfold metaB
  rw [back (x.take 8) (by rw [List.length_take]; omega), back ((x.drop 8).take 8) (sub_length (by omega)), back ((x.drop 16).take 8) (sub_length (by omega)), back (x.drop 24) (by rw [List.length_drop]; omega), step 16, step 8, List.take_append_drop]

/-- The numbers that stand in a page. -/
def fR (l : List UInt8) : Nat := leV ((fIn l).take 8)
def fN (l : List UInt8) : Nat := leV (((fIn l).drop 8).take 8)
def fD (l : List UInt8) : Nat := leV (((fIn l).drop 16).take 8)
def fG (l : List UInt8) : Nat := leV ((fIn l).drop 24)

/-- Is it a Meta's page? (It is a page.) -/
def MOk (l : List UInt8) (no : Int) : Prop := l[0]? = some 1 ∧ (fIn l).length = 32 ∧ ((fGen l % 2 : Nat) : Int) = no ∧ fG l = fGen l ∧ MRight (fGen l) (fR l) (fN l) (fD l)
/-- Open's error, or 0, and what it tells. -/
noncomputable def mE (l : List UInt8) (no : Int) : Nat := open Classical in if openE l no ≠ 0 then openE l no else if MOk l no then 0 else 11
noncomputable def mG (l : List UInt8) (no : Int) : Nat := if mE l no = 0 then fGen l else 0
noncomputable def mR (l : List UInt8) (no : Int) : Nat := if mE l no = 0 then fR l else 0
noncomputable def mN (l : List UInt8) (no : Int) : Nat := if mE l no = 0 then fN l else 0
noncomputable def mD (l : List UInt8) (no : Int) : Nat := if mE l no = 0 then fD l else 0

theorem mE_zero {l : List UInt8} {no : Int} : mE l no = 0 ↔ openE l no = 0 ∧ MOk l no := by
  unfold mE
  by_cases h1 : openE l no = 0 <;> by_cases h2 : MOk l no <;> simp [h1, h2]
theorem mE_bad {l : List UInt8} {no : Int} (h : openE l no ≠ 0) : mE l no = openE l no := by unfold mE; rw [if_pos h]
theorem mE_not {l : List UInt8} {no : Int} (h : openE l no = 0) (h2 : ¬ MOk l no) : mE l no = 11 := by unfold mE; rw [if_neg (by simpa using h), if_neg h2]
theorem m_none {l : List UInt8} {no : Int} (h : mE l no ≠ 0) : mG l no = 0 ∧ mR l no = 0 ∧ mN l no = 0 ∧ mD l no = 0 := by
  unfold mG mR mN mD
  simp [h]
theorem m_some {l : List UInt8} {no : Int} (h : mE l no = 0) : mG l no = fGen l ∧ mR l no = fR l ∧ mN l no = fN l ∧ mD l no = fD l := by
  unfold mG mR mN mD
  simp [h]
theorem m_gen {l : List UInt8} {no : Int} : mE l no = 0 ↔ mG l no ≠ 0 := by
  constructor
  · intro h
    rw [(m_some h).1]
    have := (mE_zero.1 h).2.2.2.2.2.b
    omega
  · intro h
    by_cases h1 : mE l no = 0
    · exact h1
    · exact absurd (m_none h1).1 h

/-- A page that is no other one's: it is that of what it tells. -/
theorem again_page {l : List UInt8} {no : Int} (h : openE l no = 0) : MOk l no ↔ MRight (fG l) (fR l) (fN l) (fD l) ∧ (fIn l).length = 32 ∧ mPage (fG l) (fR l) (fN l) (fD l) = l := by
  obtain ⟨hl0, h1, _, h3⟩ := open_again h
  obtain ⟨hl, _, r1, r2, r3, r4, r5, r6⟩ := openE_zero.1 h
  constructor
  · rintro ⟨a1, a2, a3, a4, a5⟩
    refine ⟨by rw [a4]; exact a5, a2, ?_⟩
    obtain ⟨_, a1'⟩ := List.getElem?_eq_some_iff.1 a1
    have e : no.toNat = fGen l % 2 := by omega
    rw [a1', e] at h1
    have h4 : metaB (fG l) (fR l) (fN l) (fD l) = fIn l := metaB_of a2
    unfold mPage
    rw [h4, a4]
    exact h1
  · rintro ⟨a1, a2, a3⟩
    have hb := a1.b
    have hp := page_fields (kind := 1) (no := fG l % 2) (gen := fG l) (l := metaB (fG l) (fR l) (fN l) (fD l)) (by rw [metaB_length]; omega) (by omega) (by omega)
    rw [show pageB 1 (fG l % 2) (fG l) (metaB (fG l) (fR l) (fN l) (fD l)) = l from a3] at hp
    obtain ⟨b1, b2, b3, b4, b5, _⟩ := hp
    refine ⟨b1, a2, ?_, b3.symm, by rw [b3]; exact a1⟩
    rw [b3]
    rw [b2] at r3
    exact r3

/-- What is sealed. -/
theorem page_own {g r n d : Nat} (h : MRight g r n d) : fGen (mPage g r n d) = g ∧ fG (mPage g r n d) = g ∧ fR (mPage g r n d) = r ∧ fN (mPage g r n d) = n ∧ fD (mPage g r n d) = d ∧ fIn (mPage g r n d) = metaB g r n d ∧ (mPage g r n d)[0]? = some 1 := by
  have hb := h.b
  obtain ⟨b1, b2, b3, b4, b5, _⟩ := page_fields (kind := 1) (no := g % 2) (gen := g) (l := metaB g r n d) (by rw [metaB_length]; omega) (by omega) (by omega)
  obtain ⟨p1, p2, p3, p4⟩ := metaB_parts g r n d
  have e : ∀ m : Nat, m < 18446744073709551616 → leV (leB 8 m) = m := fun m hm => by rw [leV_leB]; exact Nat.mod_eq_of_lt (by omega)
  unfold fG fR fN fD mPage
  rw [b5, p1, p2, p3, p4]
  exact ⟨b3, e _ (by omega), e _ (by omega), e _ (by omega), e _ (by omega), rfl, b1⟩
theorem page_open {g r n d : Nat} (h : MRight g r n d) (no : Int) : mE (mPage g r n d) no = if no = ((g % 2 : Nat) : Int) then 0 else 11 := by
  have hb := h.b
  have h1 := page_right (kind := 1) (no := g % 2) (gen := g) (l := metaB g r n d) (by rw [metaB_length]; omega) (by omega) (by omega) no
  obtain ⟨q1, q2, q3, q4, q5, q6, q7⟩ := page_own h
  by_cases hn : no = ((g % 2 : Nat) : Int)
  · rw [if_pos hn] at h1 ⊢
    refine mE_zero.2 ⟨h1, q7, by rw [q6, metaB_length], by rw [q1, hn], by rw [q1, q2], by rw [q1, q3, q4, q5]; exact h⟩
  · rw [if_neg hn] at h1 ⊢
    have h2 : openE (mPage g r n d) no = 11 := h1
    rw [mE_bad (by rw [h2]; decide), h2]
theorem page_is {g r n d : Nat} (h : MRight g r n d) {no : Int} (hn : no = ((g % 2 : Nat) : Int)) : mE (mPage g r n d) no = 0 ∧ mG (mPage g r n d) no = g ∧ mR (mPage g r n d) no = r ∧ mN (mPage g r n d) no = n ∧ mD (mPage g r n d) no = d := by
  have h1 := page_open h no
  rw [if_pos hn] at h1
  obtain ⟨s1, s2, s3, s4⟩ := m_some h1
  obtain ⟨q1, q2, q3, q4, q5, q6, q7⟩ := page_own h
  exact ⟨h1, by rw [s1, q1], by rw [s2, q3], by rw [s3, q4], by rw [s4, q5]⟩
theorem page_not {g r n d : Nat} (h : MRight g r n d) {no : Int} (hn : no ≠ ((g % 2 : Nat) : Int)) : mG (mPage g r n d) no = 0 ∧ mR (mPage g r n d) no = 0 ∧ mN (mPage g r n d) no = 0 ∧ mD (mPage g r n d) no = 0 := by
  have h1 := page_open h no
  rw [if_neg hn] at h1
  exact m_none (by rw [h1]; decide)
theorem nil_not (no : Int) : mG [] no = 0 ∧ mR [] no = 0 ∧ mN [] no = 0 ∧ mD [] no = 0 := by
  have h1 : openE [] no = 11 := by unfold openE; rw [if_pos (by decide)]
  exact m_none (by rw [mE_bad (by rw [h1]; decide), h1]; decide)

/-- Where a page is written in part. -/
def tornB (y u : List UInt8) (k : Nat) : List UInt8 := y.take k ++ u.drop k
theorem torn_length {y u : List UInt8} (hy : y.length = 512) (hu : u.length = 512) {k : Nat} (hk : k ≤ 512) : (tornB y u k).length = 512 := by
  simp only [tornB, List.length_append, List.length_take, List.length_drop]
  omega
theorem torn_drop {y u : List UInt8} (hy : y.length = 512) {k a : Nat} (hk : k ≤ a) (ha : k ≤ 512) : (tornB y u k).drop a = u.drop a := by
  unfold tornB
  rw [List.drop_append, List.length_take, Nat.min_eq_left (by omega), List.drop_eq_nil_of_le (by rw [List.length_take]; omega), List.nil_append, List.drop_drop]
  congr 1
  omega
theorem torn_take {y u : List UInt8} (hy : y.length = 512) {k a : Nat} (hk : a ≤ k) (ha : k ≤ 512) : (tornB y u k).take a = y.take a := by
  unfold tornB
  rw [List.take_append_of_le_length (by rw [List.length_take]; omega), List.take_take, Nat.min_eq_left hk]
theorem drop_take_of {l m : List UInt8} {a b c : Nat} (h : l.take c = m.take c) (hc : a + b ≤ c) : (l.drop a).take b = (m.drop a).take b := by
  have h1 : ∀ x : List UInt8, (x.drop a).take b = ((x.take c).drop a).take b := fun x => by
    rw [List.drop_take, List.take_take, Nat.min_eq_left (by omega)]
  rw [h1 l, h1 m, h]

/-- The Gen at the other end. -/
theorem tail_gen {l : List UInt8} {no : Int} (h : mE l no = 0) : fLen l = 32 ∧ leV ((l.drop 39).take 8) = fGen l ∧ fR l = leV ((l.drop 15).take 8) ∧ fN l = leV ((l.drop 23).take 8) ∧ fD l = leV ((l.drop 31).take 8) := by
  obtain ⟨h1, a1, a2, a3, a4, a5⟩ := mE_zero.1 h
  obtain ⟨hl, _, r1, r2, r3, r4, r5, r6⟩ := openE_zero.1 h1
  rw [fIn_length hl r5] at a2
  have e : ∀ k, k ≤ 24 → ((fIn l).drop k).take 8 = (l.drop (15 + k)).take 8 := fun k hk => by
    unfold fIn
    rw [a2, List.drop_take, List.drop_drop, List.take_take, Nat.min_eq_left (by omega)]
  have e24 : (fIn l).drop 24 = (l.drop 39).take 8 := by
    have := e 24 (by omega)
    rwa [List.take_of_length_le (by rw [List.length_drop, fIn_length hl r5]; omega)] at this
  refine ⟨a2, by rw [← e24]; exact a4, ?_, ?_, ?_⟩
  · have := e 0 (by omega)
    unfold fR
    rw [List.drop_zero] at this
    rw [this]
  · unfold fN
    rw [e 8 (by omega)]
  · unfold fD
    rw [e 16 (by omega)]

/-- What is found where a page is written in part: nothing, what was under it, or, where all of it is there, that. -/
theorem torn_gen {g r n d : Nat} (h : MRight g r n d) {u : List UInt8} (hu : u.length = 512) {x : Nat} (h5 : leV ((u.drop 5).take 8) = x) (h39 : leV ((u.drop 39).take 8) = x) {k : Nat} (hk : k ≤ 512) (no : Int) :
    mG (tornB (mPage g r n d) u k) no ≤ x ∨ tornB (mPage g r n d) u k = mPage g r n d := by
  have hy := mPage_length g r n d
  by_cases h0 : mE (tornB (mPage g r n d) u k) no = 0
  · obtain ⟨t1, t2, t3, t4, t5⟩ := tail_gen h0
    have hG := (m_some h0).1
    by_cases k5 : k ≤ 39
    · left
      rw [hG, ← t2, torn_drop hy k5 hk, h39]
      exact Nat.le_refl _
    · right
      obtain ⟨ho, hm⟩ := mE_zero.1 h0
      obtain ⟨_, _, e⟩ := (again_page ho).1 hm
      have hf : fG (tornB (mPage g r n d) u k) = fGen (tornB (mPage g r n d) u k) := hm.2.2.2.1
      obtain ⟨q1, q2, q3, q4, q5, q6, q7⟩ := page_own h
      have h0' : mE (mPage g r n d) ((g % 2 : Nat) : Int) = 0 := by rw [page_open h, if_pos rfl]
      obtain ⟨_, _, s3, s4, s5⟩ := tail_gen h0'
      have ht := torn_take (u := u) hy (k := k) (a := 40) (by omega) hk
      have e0 : fGen (tornB (mPage g r n d) u k) = g := by
        have h1 : fGen (tornB (mPage g r n d) u k) = fGen (mPage g r n d) := by
          unfold fGen
          rw [drop_take_of ht (by omega)]
        rw [h1, q1]
      have e1 : fR (tornB (mPage g r n d) u k) = r := by rw [t3, drop_take_of ht (by omega), ← s3, q3]
      have e2 : fN (tornB (mPage g r n d) u k) = n := by rw [t4, drop_take_of ht (by omega), ← s4, q4]
      have e3 : fD (tornB (mPage g r n d) u k) = d := by rw [t5, drop_take_of ht (by omega), ← s5, q5]
      rw [hf, e0, e1, e2, e3] at e
      exact e.symm
  · left
    rw [(m_none h0).1]
    omega
theorem zeros_gen : leV (((List.replicate 512 (0 : UInt8)).drop 5).take 8) = 0 ∧ leV (((List.replicate 512 (0 : UInt8)).drop 39).take 8) = 0 := by
  rw [List.drop_replicate, List.drop_replicate, List.take_replicate, List.take_replicate]
  exact ⟨rfl, rfl⟩
theorem under_gen {g r n d : Nat} (h : MRight g r n d) : leV (((mPage g r n d).drop 5).take 8) = g ∧ leV (((mPage g r n d).drop 39).take 8) = g := by
  have h0 : mE (mPage g r n d) ((g % 2 : Nat) : Int) = 0 := by rw [page_open h, if_pos rfl]
  obtain ⟨_, t2, _⟩ := tail_gen h0
  have q1 := (page_own h).1
  exact ⟨q1, by rw [t2, q1]⟩

/-- The newest one. -/
noncomputable def newG (a b : List UInt8) : Nat := if mG a 0 < mG b 1 then mG b 1 else mG a 0
noncomputable def newR (a b : List UInt8) : Nat := if mG a 0 < mG b 1 then mR b 1 else mR a 0
noncomputable def newN (a b : List UInt8) : Nat := if mG a 0 < mG b 1 then mN b 1 else mN a 0
noncomputable def newD (a b : List UInt8) : Nat := if mG a 0 < mG b 1 then mD b 1 else mD a 0

end Go.Proofs.YtmlnpgbnbchbkaaDoor

set_option linter.unusedVariables false
set_option maxRecDepth 100000
namespace Go.Proofs.YtmlnpgbnbchbkaaDoor
open Go.RowKit

/-- The table's cells. -/
def turnC : Array Value := #[.int .u32 0, .int .u32 498536548, .int .u32 997073096, .int .u32 651767980, .int .u32 1994146192, .int .u32 1802195444, .int .u32 1303535960, .int .u32 1342533948, .int .u32 3988292384, .int .u32 4027552580, .int .u32 3604390888, .int .u32 3412177804, .int .u32 2607071920, .int .u32 2262029012, .int .u32 2685067896, .int .u32 3183342108]
/-- The table lies in its variable. -/
def Tab (w : World) : Prop := ∃ t fr, w.heap[0]? = some (.cells turnC t fr)
theorem Tab.lt {w : World} (h : Tab w) : 0 < w.heap.size := by
  obtain ⟨t, fr, h⟩ := h
  rcases Nat.lt_or_ge 0 w.heap.size with h1 | h1
  · exact h1
  · rw [Array.getElem?_eq_none h1] at h
    cases h
theorem Tab.below {w w' : World} (h : Tab w) {B : Nat} (hB : 0 < B) (hb : Below B w w') : Tab w' := by
  obtain ⟨t, fr, h⟩ := h
  exact ⟨t, fr, (hb.block 0 hB).trans h⟩
theorem turnC_at {j : Nat} (h : j < 16) : turnC[j]? = some (.int .u32 (crcI 4 j : Nat)) := by
  have h16 : ∀ j : Fin 16, (match turnC[j.val]? with | some (.int .u32 x) => decide (x = (crcI 4 j.val : Nat)) | _ => false) = true := by decide +kernel
  have := h16 ⟨j, h⟩
  simp only at this
  split at this
  · rename_i x hx
    rw [hx, of_decide_eq_true this]
  · cases this
theorem Tab.cell {w : World} (h : Tab w) {j : Nat} (hj : j < 16) : w.cell? ⟨0, j, none⟩ = some (.int .u32 (crcI 4 j : Nat)) := by
  obtain ⟨t, fr, h⟩ := h
  rw [cell_of_row w 0 j turnC t fr h]
  exact turnC_at hj

theorem xor32 {a b c : Nat} (ha : a < 4294967296) (hb : b < 4294967296) (h : a ^^^ b = c) : bits .xor .u32 (a : Int) (b : Int) = (c : Int) := by rw [u32_xor_nat a b ha hb, h]
theorem quo32 {a b c : Nat} (ha : a < 4294967296) (hb : b < 4294967296) (h : a / 16 ^^^ b = c) : bits .xor .u32 ((a : Int) / 16) (b : Int) = (c : Int) := by
  have h1 : (a : Int) / 16 = ((a / 16 : Nat) : Int) := by omega
  rw [h1, u32_xor_nat (a / 16) b (by omega) hb, h]
theorem pand15 {a : Nat} (ha : a < 4294967296) : bits .and .u32 (a : Int) 15 = ((a % 16 : Nat) : Int) := by
  have h := u32_and_nat a 15 ha (by omega)
  have h2 := Nat.and_two_pow_sub_one_eq_mod a 4
  have h3 : (2 : Nat) ^ 4 - 1 = 15 := by decide
  rw [h3] at h2
  rw [h2] at h
  exact h
theorem not32 {a : Nat} (ha : a < 4294967296) : bits .xor .u32 IntKind.u32.max (a : Int) = ((a ^^^ allOn : Nat) : Int) := by
  have h0 : IntKind.u32.max = ((allOn : Nat) : Int) := rfl
  rw [h0, u32_xor_nat allOn a (by decide) ha, Nat.xor_comm]
theorem crcI_eight (x : Nat) : crcI 8 x = crcI 4 (crcI 4 x) := crcI_add 4 4 x
theorem crcS_snoc (s : Nat) {l : List UInt8} {j : Nat} (hj : j < l.length) : crcS s (l.take (j + 1)) = crcI 8 (crcS s (l.take j) ^^^ l[j].toNat) := by
  rw [List.take_add_one, List.getElem?_eq_getElem hj, crcS_append]
  rfl

set_option maxHeartbeats 800000 in
theorem sum_any {w : World} (hT : Tab w) {p : Option Addr} {l : List UInt8} (hl : Bs w p l) {n c : Nat} (hn : n = l.length) (hc : n ≤ 9223372036854775807) :
    Calls Tryd.prog 78 #[.slice p n c] w fun e w' => e = .returned (.int .u32 (sumV l : Nat)) ∧ w = w' := by
  have HN := Lib.hid hn
  have HL := Lib.hid hl
  have HT := Lib.hid hT
  clear hl hn hT
  go_enter Tryd.func78, Tryd.ntmps78
  go_wp2
  go_loop [3, 8] (fun s i => ∃ j : Nat, i = .int .i64 j ∧ j ≤ n ∧ s = .int .u32 (crcS allOn (l.take j) : Nat)) (fun _ i => n - (intOf i).toNat)
  case atStart => exact ⟨0, rfl, by omega, rfl⟩
  case round =>
    obtain ⟨j, rfl, hj, rfl⟩ := hrel
    have hs := crcS_lt (s := allOn) (by decide) (l.take j)
    by_cases hjn : j < n
    · have hjl : j < l.length := by have := HN.out; omega
      obtain ⟨b, o, rfl, _, hcells⟩ := HL.out.at (by omega)
      have hx := hcells j hjl
      have HR := Lib.hid (crcS_snoc allOn hjl)
      have hcl : l[j].toNat < 256 := l[j].toNat_lt
      clear hcells
      generalize crcS allOn (l.take j) = s at *
      generalize l[j].toNat = d at *
      have h1 : s ^^^ d < 4294967296 := Nat.xor_lt_two_pow (n := 32) hs (by omega)
      have e1 := xor32 (b := d) hs (by omega) rfl
      generalize s ^^^ d = s1 at *
      have a1 := pand15 h1
      have t1 := HT.out.cell (j := s1 % 16) (by omega)
      have q1 := quo32 (b := crcI 4 (s1 % 16)) h1 (crcI_lt 4 (by omega)) (crcI_four s1).symm
      have h2 := crcI_lt 4 h1
      rw [crcI_eight] at HR
      generalize crcI 4 (s1 % 16) = x1 at *
      have hm1 : s1 % 16 < 16 := by omega
      generalize crcI 4 s1 = s2 at *
      have a2 := pand15 h2
      have t2 := HT.out.cell (j := s2 % 16) (by omega)
      have q2 := quo32 (b := crcI 4 (s2 % 16)) h2 (crcI_lt 4 (by omega)) (crcI_four s2).symm
      generalize crcI 4 (s2 % 16) = x2 at *
      have hm2 : s2 % 16 < 16 := by omega
      generalize crcI 4 s2 = s3 at *
      generalize s1 % 16 = j1 at *
      generalize s2 % 16 = j2 at *
      go_wp2
      go_round
      case rel => exact ⟨j + 1, by go_num, by omega, by rw [HR.out]⟩
      case measure => simp [intOf]; omega
    · have HJ : Hid (j = l.length) := Lib.hid (by have := HN.out; omega)
      have HR : Hid (crcS allOn (l.take j) = crcS allOn l) := Lib.hid (by rw [HJ.out, List.take_length])
      have e1 := not32 hs
      have HS : Hid (crcS allOn (l.take j) ^^^ allOn = sumV l) := Lib.hid (by rw [HR.out]; rfl)
      clear HR
      generalize crcS allOn (l.take j) = s at *
      generalize s ^^^ allOn = x at *
      go_wp2
      go_ret
      refine ⟨ret_int ?_, rfl⟩
      rw [HS.out]

end Go.Proofs.YtmlnpgbnbchbkaaDoor

set_option linter.unusedVariables false
set_option maxRecDepth 100000
namespace Go.Proofs.YtmlnpgbnbchbkaaDoor
open Go.RowKit

/-- Block g is known whole: the bytes l. -/
def PSec (w : World) (g : Nat) (l : List UInt8) : Prop := w.heap[g]? = some (.cells (u8s l).toArray 5 (0, 0))

theorem PSec.lt {w : World} {g : Nat} {l : List UInt8} (h : PSec w g l) : g < w.heap.size := (Array.getElem?_eq_some_iff.1 h).1
theorem PSec.below {w w' : World} {g : Nat} {l : List UInt8} (h : PSec w g l) {B : Nat} (hB : g < B) (hb : Below B w w') : PSec w' g l := by
  unfold PSec
  rw [hb.block g hB]
  exact h
theorem PSec.bs {w : World} {g : Nat} {l : List UInt8} (h : PSec w g l) : Bs w (some ⟨g, 0, none⟩) l := Bs.of_block h rfl
/-- A part of it. -/
theorem PSec.part {w : World} {g : Nat} {l : List UInt8} (h : PSec w g l) (a n : Nat) : Bs w (some ⟨g, a, none⟩) ((l.drop a).take n) := by
  refine Bs.take ?_ n
  have h1 : ∀ i u, l[i]? = some u → w.cell? ⟨g, 0 + i, none⟩ = some (.int .u8 (u.toNat : Int)) := by
    intro i u hi
    rw [Joins.cell_of_block h, Nat.zero_add]
    simp [u8s, hi]
  have := Bs.drop h1 a
  rwa [Nat.zero_add] at this
theorem PSec.own {w : World} {B g : Nat} {l : List UInt8} (h : PSec w g l) (hB : B ≤ g) {n : Nat} (hn : n = l.length) (hm : l.length ≤ 140737488355328) : Own w B (.slice (some ⟨g, 0, none⟩) n n) l := by
  subst hn
  refine ⟨by simp [u8s], .inr ⟨g, l.length, (u8s l).toArray, rfl, hB, h, Nat.le_refl _, by simp only [maxLen]; omega, by simp [u8s], by rw [List.take_of_length_le (by simp [u8s])]⟩⟩

theorem pmadeCells_u8 (n : Nat) : madeCells #[Value.int .u8 0] n = (u8s (List.replicate n 0)).toArray := by
  apply Array.ext
  · simp [madeCells, u8s]
  · intro i h1 h2
    simp [madeCells, u8s, Nat.mod_one]

/-- make([]byte, 512) -/
theorem pmake_u8 {w : World} {ops : Array Oper} {rest : List Oper} {o : Oper} {a : Act} {Q : Exit → Act → World → Prop} (hg : o.guard = none) (l c : Operand) (hop : o.op = Op.makeSlice 37 l c)
    (hl : a.eval l = .int .i64 512) (hc : a.eval c = .int .i64 512)
    (hK : ∀ w', PSec w' w.heap.size (List.replicate 512 0) → Below w.heap.size w w' → w'.heap.size = w.heap.size + 1 → wpList Tryd.prog ops Q rest (a.put o.dst (.slice (some ⟨w.heap.size, 0, none⟩) 512 512)) w') :
    wpList Tryd.prog ops Q (o :: rest) a w := by
  obtain ⟨i, hi, hz0, hz1, hz2⟩ := info_parts info_u8
  refine wpList_make_row w hg l c _ hop 5 i (.int .u8 0) Tryd.underlying37 hi hz0 hz1 rfl .i64 .i64 512 hl hc (by rw [hz2]; decide) (by decide) ?_
  refine hK _ ?_ ((Below.refl _ _).alloc (Nat.le_refl _) _) (by simp)
  rw [pmadeCells_u8]
  exact heap_alloc_new w _

/-- Bytes laid over a part. -/
def splL (l : List UInt8) (o : Nat) (m : List UInt8) : List UInt8 := l.take o ++ m ++ l.drop (o + m.length)
theorem splL_length {l m : List UInt8} {o : Nat} (h : o + m.length ≤ l.length) : (splL l o m).length = l.length := by
  simp only [splL, List.length_append, List.length_take, List.length_drop]
  omega
theorem psplice_u8 (l m : List UInt8) (o : Nat) : splice (u8s l) o (u8s m) = u8s (splL l o m) := by
  simp [splice, u8s, splL]

/-- copy(own[o:o+n], bytes): the bytes lie elsewhere. -/
theorem pcopy_u8 {w w0 : World} {ops : Array Oper} {rest : List Oper} {o : Oper} {a : Act} {Q : Exit → Act → World → Prop} (hgd : o.guard = none) (d s : Operand)
    (ho : o.op = .call { callee := .builtin .copy, args := #[d, s], argTypes := #[37, 37] })
    {g off n c : Nat} {l : List UInt8} (hd : a.eval d = .slice (some ⟨g, off, none⟩) n c) (hg : PSec w g l) (hn : off + n ≤ l.length)
    {p : Option Addr} {k k' : Nat} {m : List UInt8} (hs : a.eval s = .slice p k k') (hm : Bs w p m) (hml : m.length = min k n) {B : Nat} (hb : Below B w0 w) (hB : B ≤ g)
    (h : ∀ w', PSec w' g (splL l off m) → Below B w0 w' → wpList Tryd.prog ops Q rest (a.put o.dst (goInt m.length)) w') : wpList Tryd.prog ops Q (o :: rest) a w := by
  obtain ⟨i, hi, hz0, hz1, hz2⟩ := info_parts info_u8
  refine wpList_copy_splice hgd d s _ _ ho 5 Tryd.underlying37 (by rw [hi]; simp [hz1]) _ _ _ _ _ _ hd hs g off (u8s l) 5 hg (u8s m) (by rw [u8s_length]; exact hml) ?_ (by rw [u8s_length, u8s_length]; omega) (u8s_oneCell m) B w0 hb hB ?_
  · intro h0
    rw [u8s_length] at h0
    obtain ⟨b, o, rfl, _, hc⟩ := hm.at h0
    refine ⟨rfl, _, rfl, fun j v hj => ?_⟩
    obtain ⟨u, hu, rfl⟩ := u8s_get hj
    rw [Addr.add_lit]
    obtain ⟨hj', rfl⟩ := List.getElem?_eq_some_iff.1 hu
    exact hc j hj'
  · intro w' h1 h2
    rw [u8s_length]
    refine h w' ?_ h2
    have h3 := h1.out
    rw [psplice_u8] at h3
    exact h3

end Go.Proofs.YtmlnpgbnbchbkaaDoor

