/-
  A Meta's page (plain): what Seal tells, what Open asks, and what a page tells that is written in part.
-/
import Derived.Test.YtpmiakcngjihnaaDoorPgPage
set_option linter.unusedVariables false
set_option maxRecDepth 100000
namespace Go.Proofs.YtpmiakcngjihnaaDoor

/-- Is it right? -/
def MNext (n : Int) : Prop := 1 ≤ n ∧ n ≤ 1152921504606846976
def MRoot (n : Int) : Prop := n = 0 ∨ (2 ≤ n ∧ n < 4096)
def MRight (g r n d : Int) : Prop := MNext g ∧ MRoot r ∧ MNext n ∧ MNext d
instance (n : Int) : Decidable (MNext n) := inferInstanceAs (Decidable (_ ∧ _))
instance (n : Int) : Decidable (MRoot n) := inferInstanceAs (Decidable (_ ∨ _))
instance (g r n d : Int) : Decidable (MRight g r n d) := inferInstanceAs (Decidable (_ ∧ _))

theorem MRight.b {g r n d : Nat} (h : MRight g r n d) : 1 ≤ g ∧ g ≤ 1152921504606846976 ∧ (r = 0 ∨ (2 ≤ r ∧ r < 4096)) ∧ 1 ≤ n ∧ n ≤ 1152921504606846976 ∧ 1 ≤ d ∧ d ≤ 1152921504606846976 := by
  obtain ⟨⟨h1, h2⟩, h3, ⟨h4, h5⟩, h6, h7⟩ := h
  have h3' : (r : Int) = 0 ∨ (2 ≤ (r : Int) ∧ (r : Int) < 4096) := h3
  omega
theorem MRight.mk' {g r n d : Nat} (h : 1 ≤ g ∧ g ≤ 1152921504606846976 ∧ (r = 0 ∨ (2 ≤ r ∧ r < 4096)) ∧ 1 ≤ n ∧ n ≤ 1152921504606846976 ∧ 1 ≤ d ∧ d ≤ 1152921504606846976) : MRight g r n d := by
  unfold MRight MNext MRoot
  omega
/-- What is right has no sign. -/
theorem MRight.nat {g r n d : Int} (h : MRight g r n d) : ∃ g' r' n' d' : Nat, g = g' ∧ r = r' ∧ n = n' ∧ d = d' := by
  obtain ⟨⟨h1, h2⟩, h3, ⟨h4, h5⟩, h6, h7⟩ := h
  have h3' : r = 0 ∨ (2 ≤ r ∧ r < 4096) := h3
  exact ⟨g.toNat, r.toNat, n.toNat, d.toNat, by omega, by omega, by omega, by omega⟩

/-- What is within; its page. -/
def metaB (g r n d : Nat) : List UInt8 := leB 8 r ++ (leB 8 n ++ (leB 8 d ++ leB 8 g))
def mPage (g r n d : Nat) : List UInt8 := pageB 1 (g % 2) g (metaB g r n d)
theorem metaB_length (g r n d : Nat) : (metaB g r n d).length = 32 := by simp [metaB, leB_length]
theorem mPage_length (g r n d : Nat) : (mPage g r n d).length = 512 := pageB_length (by rw [metaB_length]; omega)

theorem metaB_parts (g r n d : Nat) : (metaB g r n d).take 8 = leB 8 r ∧ ((metaB g r n d).drop 8).take 8 = leB 8 n ∧ ((metaB g r n d).drop 16).take 8 = leB 8 d ∧ (metaB g r n d).drop 24 = leB 8 g := by
  have hr := leB_length 8 r
  have hn := leB_length 8 n
  have hd := leB_length 8 d
  unfold metaB
  generalize leB 8 r = a at *
  generalize leB 8 n = b at *
  generalize leB 8 d = c at *
  have e1 : (a ++ (b ++ (c ++ leB 8 g))).drop 8 = b ++ (c ++ leB 8 g) := List.drop_left' hr
  have e2 : (a ++ (b ++ (c ++ leB 8 g))).drop 16 = c ++ leB 8 g := by
    have h := List.drop_drop (i := 8) (j := 8) (l := a ++ (b ++ (c ++ leB 8 g)))
    rw [e1] at h
    rw [show (16 : Nat) = 8 + 8 from rfl, ← h]
    exact List.drop_left' hn
  have e3 : (a ++ (b ++ (c ++ leB 8 g))).drop 24 = leB 8 g := by
    have h := List.drop_drop (i := 8) (j := 16) (l := a ++ (b ++ (c ++ leB 8 g)))
    rw [e2] at h
    rw [show (24 : Nat) = 16 + 8 from rfl, ← h]
    exact List.drop_left' hd
  exact ⟨List.take_left' hr, by rw [e1]; exact List.take_left' hn, by rw [e2]; exact List.take_left' hd, e3⟩
theorem metaB_of {x : List UInt8} (hx : x.length = 32) : metaB (leV (x.drop 24)) (leV (x.take 8)) (leV ((x.drop 8).take 8)) (leV ((x.drop 16).take 8)) = x := by
  have back : ∀ m : List UInt8, m.length = 8 → leB 8 (leV m) = m := fun m h => by have := leB_leV m; rwa [h] at this
  have step : ∀ k, (x.drop k).take 8 ++ x.drop (k + 8) = x.drop k := fun k => (cut_take x k 8).symm
  unfold metaB
  rw [back (x.take 8) (by rw [List.length_take]; omega), back ((x.drop 8).take 8) (sub_length (by omega)), back ((x.drop 16).take 8) (sub_length (by omega)), back (x.drop 24) (by rw [List.length_drop]; omega), step 16, step 8, List.take_append_drop]

/-- The numbers that stand in a page. -/
def fR (l : List UInt8) : Nat := leV ((fIn l).take 8)
def fN (l : List UInt8) : Nat := leV (((fIn l).drop 8).take 8)
def fD (l : List UInt8) : Nat := leV (((fIn l).drop 16).take 8)
def fG (l : List UInt8) : Nat := leV ((fIn l).drop 24)

/-- Is it a Meta's page? (It is a page.) -/
def MOk (l : List UInt8) (no : Int) : Prop := l[0]? = some 1 ∧ (fIn l).length = 32 ∧ ((fGen l % 2 : Nat) : Int) = no ∧ fG l = fGen l ∧ MRight (fGen l) (fR l) (fN l) (fD l)
/-- Open's error, or 0, and what it tells. -/
noncomputable def mE (l : List UInt8) (no : Int) : Nat := open Classical in if openE l no ≠ 0 then openE l no else if MOk l no then 0 else 11
noncomputable def mG (l : List UInt8) (no : Int) : Nat := if mE l no = 0 then fGen l else 0
noncomputable def mR (l : List UInt8) (no : Int) : Nat := if mE l no = 0 then fR l else 0
noncomputable def mN (l : List UInt8) (no : Int) : Nat := if mE l no = 0 then fN l else 0
noncomputable def mD (l : List UInt8) (no : Int) : Nat := if mE l no = 0 then fD l else 0

theorem mE_zero {l : List UInt8} {no : Int} : mE l no = 0 ↔ openE l no = 0 ∧ MOk l no := by
  unfold mE
  by_cases h1 : openE l no = 0 <;> by_cases h2 : MOk l no <;> simp [h1, h2]
theorem mE_bad {l : List UInt8} {no : Int} (h : openE l no ≠ 0) : mE l no = openE l no := by unfold mE; rw [if_pos h]
theorem mE_not {l : List UInt8} {no : Int} (h : openE l no = 0) (h2 : ¬ MOk l no) : mE l no = 11 := by unfold mE; rw [if_neg (by simpa using h), if_neg h2]
theorem m_none {l : List UInt8} {no : Int} (h : mE l no ≠ 0) : mG l no = 0 ∧ mR l no = 0 ∧ mN l no = 0 ∧ mD l no = 0 := by
  unfold mG mR mN mD
  simp [h]
theorem m_some {l : List UInt8} {no : Int} (h : mE l no = 0) : mG l no = fGen l ∧ mR l no = fR l ∧ mN l no = fN l ∧ mD l no = fD l := by
  unfold mG mR mN mD
  simp [h]
theorem m_gen {l : List UInt8} {no : Int} : mE l no = 0 ↔ mG l no ≠ 0 := by
  constructor
  · intro h
    rw [(m_some h).1]
    have := (mE_zero.1 h).2.2.2.2.2.b
    omega
  · intro h
    by_cases h1 : mE l no = 0
    · exact h1
    · exact absurd (m_none h1).1 h

/-- A page that is no other one's: it is that of what it tells. -/
theorem again_page {l : List UInt8} {no : Int} (h : openE l no = 0) : MOk l no ↔ MRight (fG l) (fR l) (fN l) (fD l) ∧ (fIn l).length = 32 ∧ mPage (fG l) (fR l) (fN l) (fD l) = l := by
  obtain ⟨hl0, h1, _, h3⟩ := open_again h
  obtain ⟨hl, _, r1, r2, r3, r4, r5, r6⟩ := openE_zero.1 h
  constructor
  · rintro ⟨a1, a2, a3, a4, a5⟩
    refine ⟨by rw [a4]; exact a5, a2, ?_⟩
    obtain ⟨_, a1'⟩ := List.getElem?_eq_some_iff.1 a1
    have e : no.toNat = fGen l % 2 := by omega
    rw [a1', e] at h1
    have h4 : metaB (fG l) (fR l) (fN l) (fD l) = fIn l := metaB_of a2
    unfold mPage
    rw [h4, a4]
    exact h1
  · rintro ⟨a1, a2, a3⟩
    have hb := a1.b
    have hp := page_fields (kind := 1) (no := fG l % 2) (gen := fG l) (l := metaB (fG l) (fR l) (fN l) (fD l)) (by rw [metaB_length]; omega) (by omega) (by omega)
    rw [show pageB 1 (fG l % 2) (fG l) (metaB (fG l) (fR l) (fN l) (fD l)) = l from a3] at hp
    obtain ⟨b1, b2, b3, b4, b5, _⟩ := hp
    refine ⟨b1, a2, ?_, b3.symm, by rw [b3]; exact a1⟩
    rw [b3]
    rw [b2] at r3
    exact r3

/-- What is sealed. -/
theorem page_own {g r n d : Nat} (h : MRight g r n d) : fGen (mPage g r n d) = g ∧ fG (mPage g r n d) = g ∧ fR (mPage g r n d) = r ∧ fN (mPage g r n d) = n ∧ fD (mPage g r n d) = d ∧ fIn (mPage g r n d) = metaB g r n d ∧ (mPage g r n d)[0]? = some 1 := by
  have hb := h.b
  obtain ⟨b1, b2, b3, b4, b5, _⟩ := page_fields (kind := 1) (no := g % 2) (gen := g) (l := metaB g r n d) (by rw [metaB_length]; omega) (by omega) (by omega)
  obtain ⟨p1, p2, p3, p4⟩ := metaB_parts g r n d
  have e : ∀ m : Nat, m < 18446744073709551616 → leV (leB 8 m) = m := fun m hm => by rw [leV_leB]; exact Nat.mod_eq_of_lt (by omega)
  unfold fG fR fN fD mPage
  rw [b5, p1, p2, p3, p4]
  exact ⟨b3, e _ (by omega), e _ (by omega), e _ (by omega), e _ (by omega), rfl, b1⟩
theorem page_open {g r n d : Nat} (h : MRight g r n d) (no : Int) : mE (mPage g r n d) no = if no = ((g % 2 : Nat) : Int) then 0 else 11 := by
  have hb := h.b
  have h1 := page_right (kind := 1) (no := g % 2) (gen := g) (l := metaB g r n d) (by rw [metaB_length]; omega) (by omega) (by omega) no
  obtain ⟨q1, q2, q3, q4, q5, q6, q7⟩ := page_own h
  by_cases hn : no = ((g % 2 : Nat) : Int)
  · rw [if_pos hn] at h1 ⊢
    refine mE_zero.2 ⟨h1, q7, by rw [q6, metaB_length], by rw [q1, hn], by rw [q1, q2], by rw [q1, q3, q4, q5]; exact h⟩
  · rw [if_neg hn] at h1 ⊢
    have h2 : openE (mPage g r n d) no = 11 := h1
    rw [mE_bad (by rw [h2]; decide), h2]
theorem page_is {g r n d : Nat} (h : MRight g r n d) {no : Int} (hn : no = ((g % 2 : Nat) : Int)) : mE (mPage g r n d) no = 0 ∧ mG (mPage g r n d) no = g ∧ mR (mPage g r n d) no = r ∧ mN (mPage g r n d) no = n ∧ mD (mPage g r n d) no = d := by
  have h1 := page_open h no
  rw [if_pos hn] at h1
  obtain ⟨s1, s2, s3, s4⟩ := m_some h1
  obtain ⟨q1, q2, q3, q4, q5, q6, q7⟩ := page_own h
  exact ⟨h1, by rw [s1, q1], by rw [s2, q3], by rw [s3, q4], by rw [s4, q5]⟩
theorem page_not {g r n d : Nat} (h : MRight g r n d) {no : Int} (hn : no ≠ ((g % 2 : Nat) : Int)) : mG (mPage g r n d) no = 0 ∧ mR (mPage g r n d) no = 0 ∧ mN (mPage g r n d) no = 0 ∧ mD (mPage g r n d) no = 0 := by
  have h1 := page_open h no
  rw [if_neg hn] at h1
  exact m_none (by rw [h1]; decide)
theorem nil_not (no : Int) : mG [] no = 0 ∧ mR [] no = 0 ∧ mN [] no = 0 ∧ mD [] no = 0 := by
  have h1 : openE [] no = 11 := by unfold openE; rw [if_pos (by decide)]
  exact m_none (by rw [mE_bad (by rw [h1]; decide), h1]; decide)

/-- Where a page is written in part. -/
def tornB (y u : List UInt8) (k : Nat) : List UInt8 := y.take k ++ u.drop k
theorem torn_length {y u : List UInt8} (hy : y.length = 512) (hu : u.length = 512) {k : Nat} (hk : k ≤ 512) : (tornB y u k).length = 512 := by
  simp only [tornB, List.length_append, List.length_take, List.length_drop]
  omega
theorem torn_drop {y u : List UInt8} (hy : y.length = 512) {k a : Nat} (hk : k ≤ a) (ha : k ≤ 512) : (tornB y u k).drop a = u.drop a := by
  unfold tornB
  rw [List.drop_append, List.length_take, Nat.min_eq_left (by omega), List.drop_eq_nil_of_le (by rw [List.length_take]; omega), List.nil_append, List.drop_drop]
  congr 1
  omega
theorem torn_take {y u : List UInt8} (hy : y.length = 512) {k a : Nat} (hk : a ≤ k) (ha : k ≤ 512) : (tornB y u k).take a = y.take a := by
  unfold tornB
  rw [List.take_append_of_le_length (by rw [List.length_take]; omega), List.take_take, Nat.min_eq_left hk]
theorem drop_take_of {l m : List UInt8} {a b c : Nat} (h : l.take c = m.take c) (hc : a + b ≤ c) : (l.drop a).take b = (m.drop a).take b := by
  have h1 : ∀ x : List UInt8, (x.drop a).take b = ((x.take c).drop a).take b := fun x => by
    rw [List.drop_take, List.take_take, Nat.min_eq_left (by omega)]
  rw [h1 l, h1 m, h]

/-- The Gen at the other end. -/
theorem tail_gen {l : List UInt8} {no : Int} (h : mE l no = 0) : fLen l = 32 ∧ leV ((l.drop 39).take 8) = fGen l ∧ fR l = leV ((l.drop 15).take 8) ∧ fN l = leV ((l.drop 23).take 8) ∧ fD l = leV ((l.drop 31).take 8) := by
  obtain ⟨h1, a1, a2, a3, a4, a5⟩ := mE_zero.1 h
  obtain ⟨hl, _, r1, r2, r3, r4, r5, r6⟩ := openE_zero.1 h1
  rw [fIn_length hl r5] at a2
  have e : ∀ k, k ≤ 24 → ((fIn l).drop k).take 8 = (l.drop (15 + k)).take 8 := fun k hk => by
    unfold fIn
    rw [a2, List.drop_take, List.drop_drop, List.take_take, Nat.min_eq_left (by omega)]
  have e24 : (fIn l).drop 24 = (l.drop 39).take 8 := by
    have := e 24 (by omega)
    rwa [List.take_of_length_le (by rw [List.length_drop, fIn_length hl r5]; omega)] at this
  refine ⟨a2, by rw [← e24]; exact a4, ?_, ?_, ?_⟩
  · have := e 0 (by omega)
    unfold fR
    rw [List.drop_zero] at this
    rw [this]
  · unfold fN
    rw [e 8 (by omega)]
  · unfold fD
    rw [e 16 (by omega)]

/-- What is found where a page is written in part: nothing, what was under it, or, where all of it is there, that. -/
theorem torn_gen {g r n d : Nat} (h : MRight g r n d) {u : List UInt8} (hu : u.length = 512) {x : Nat} (h5 : leV ((u.drop 5).take 8) = x) (h39 : leV ((u.drop 39).take 8) = x) {k : Nat} (hk : k ≤ 512) (no : Int) :
    mG (tornB (mPage g r n d) u k) no ≤ x ∨ tornB (mPage g r n d) u k = mPage g r n d := by
  have hy := mPage_length g r n d
  by_cases h0 : mE (tornB (mPage g r n d) u k) no = 0
  · obtain ⟨t1, t2, t3, t4, t5⟩ := tail_gen h0
    have hG := (m_some h0).1
    by_cases k5 : k ≤ 39
    · left
      rw [hG, ← t2, torn_drop hy k5 hk, h39]
      exact Nat.le_refl _
    · right
      obtain ⟨ho, hm⟩ := mE_zero.1 h0
      obtain ⟨_, _, e⟩ := (again_page ho).1 hm
      have hf : fG (tornB (mPage g r n d) u k) = fGen (tornB (mPage g r n d) u k) := hm.2.2.2.1
      obtain ⟨q1, q2, q3, q4, q5, q6, q7⟩ := page_own h
      have h0' : mE (mPage g r n d) ((g % 2 : Nat) : Int) = 0 := by rw [page_open h, if_pos rfl]
      obtain ⟨_, _, s3, s4, s5⟩ := tail_gen h0'
      have ht := torn_take (u := u) hy (k := k) (a := 40) (by omega) hk
      have e0 : fGen (tornB (mPage g r n d) u k) = g := by
        have h1 : fGen (tornB (mPage g r n d) u k) = fGen (mPage g r n d) := by
          unfold fGen
          rw [drop_take_of ht (by omega)]
        rw [h1, q1]
      have e1 : fR (tornB (mPage g r n d) u k) = r := by rw [t3, drop_take_of ht (by omega), ← s3, q3]
      have e2 : fN (tornB (mPage g r n d) u k) = n := by rw [t4, drop_take_of ht (by omega), ← s4, q4]
      have e3 : fD (tornB (mPage g r n d) u k) = d := by rw [t5, drop_take_of ht (by omega), ← s5, q5]
      rw [hf, e0, e1, e2, e3] at e
      exact e.symm
  · left
    rw [(m_none h0).1]
    omega
theorem zeros_gen : leV (((List.replicate 512 (0 : UInt8)).drop 5).take 8) = 0 ∧ leV (((List.replicate 512 (0 : UInt8)).drop 39).take 8) = 0 := by
  rw [List.drop_replicate, List.drop_replicate, List.take_replicate, List.take_replicate]
  exact ⟨rfl, rfl⟩
theorem under_gen {g r n d : Nat} (h : MRight g r n d) : leV (((mPage g r n d).drop 5).take 8) = g ∧ leV (((mPage g r n d).drop 39).take 8) = g := by
  have h0 : mE (mPage g r n d) ((g % 2 : Nat) : Int) = 0 := by rw [page_open h, if_pos rfl]
  obtain ⟨_, t2, _⟩ := tail_gen h0
  have q1 := (page_own h).1
  exact ⟨q1, by rw [t2, q1]⟩

/-- The newest one. -/
noncomputable def newG (a b : List UInt8) : Nat := if mG a 0 < mG b 1 then mG b 1 else mG a 0
noncomputable def newR (a b : List UInt8) : Nat := if mG a 0 < mG b 1 then mR b 1 else mR a 0
noncomputable def newN (a b : List UInt8) : Nat := if mG a 0 < mG b 1 then mN b 1 else mN a 0
noncomputable def newD (a b : List UInt8) : Nat := if mG a 0 < mG b 1 then mD b 1 else mD a 0

end Go.Proofs.YtpmiakcngjihnaaDoor
