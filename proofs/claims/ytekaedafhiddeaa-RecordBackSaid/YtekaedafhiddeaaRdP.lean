/-
  Records that are read: what the reader's calls tell and leave; plain facts.
-/
import Derived.Test.YtekaedafhiddeaaRSpec
import Derived.Test.YtekaedafhiddeaaKPut
set_option linter.unusedVariables false
set_option maxRecDepth 100000
namespace Go.Proofs.Ytekaedafhiddeaa
open Go.RowKit

abbrev RS := List UInt8 × Bool
/-- A text, a number, a value, how many. -/
def txtS (s : RS) : ByteArray × RS := if s.2 = true then (str0, s) else if (rdT s.1).1 = 0 then (⟨(rdT s.1).2.1.toArray⟩, (s.1.drop (rdT s.1).2.2, false)) else (str0, (s.1, true))
def rdJ (l : List UInt8) : Int × Int × Nat := if l.length < 8 then (10, 0, 0) else (0, outKey (num (l.take 8)), 8)
def intS (s : RS) : Int × RS := if s.2 = true then (0, s) else if (rdJ s.1).1 = 0 then ((rdJ s.1).2.1, (s.1.drop (rdJ s.1).2.2, false)) else (0, (s.1, true))
noncomputable def valS (s : RS) : (At × List At) × RS := if s.2 = true then ((at0, []), s) else if (rdV s.1).1 = 0 then (((rdV s.1).2.1, (rdV s.1).2.2.1), (s.1.drop (rdV s.1).2.2.2, false)) else ((at0, []), (s.1, true))
def cntS (most : Nat) (s : RS) : Nat × RS :=
  match s with
  | (c :: r, false) => if c.toNat ≤ most then (c.toNat, (r, false)) else (0, (c :: r, true))
  | (r, _) => (0, (r, true))
def labsS : Nat → RS → List ByteArray × RS
  | 0, s => ([], s)
  | n + 1, s => ((txtS s).1 :: (labsS n (txtS s).2).1, (labsS n (txtS s).2).2)
noncomputable def propsS : Nat → RS → List Pc × RS
  | 0, s => ([], s)
  | n + 1, s => (⟨(txtS s).1, (valS (txtS s).2).1.1, (valS (txtS s).2).1.2⟩ :: (propsS n (valS (txtS s).2).2).1, (propsS n (valS (txtS s).2).2).2)
noncomputable def recS (s : RS) : List Pc × RS := propsS (cntS 16 s).1 (cntS 16 s).2
noncomputable def nodeS (s : RS) : (List ByteArray × List Pc) × RS :=
  (((labsS (cntS 8 s).1 (cntS 8 s).2).1, (recS (labsS (cntS 8 s).1 (cntS 8 s).2).2).1), (recS (labsS (cntS 8 s).1 (cntS 8 s).2).2).2)
noncomputable def edgeS (s : RS) : (ByteArray × Int × Int × List Pc) × RS :=
  (((txtS s).1, (intS (txtS s).2).1, (intS (intS (txtS s).2).2).1, (recS (intS (intS (txtS s).2).2).2).1), (recS (intS (intS (txtS s).2).2).2).2)

/-- Once wrong, always wrong; what is read is what stood there. -/
theorem txtS_sound {s : RS} {x : ByteArray} {s' : RS} (h : txtS s = (x, s')) (hw : s'.2 = false) : s.2 = false ∧ s.1 = txt x.data.toList ++ s'.1 := by
  unfold txtS at h
  by_cases h1 : s.2 = true
  · rw [if_pos h1] at h
    simp only [Prod.mk.injEq] at h
    rw [← h.2, h1] at hw
    cases hw
  · rw [if_neg h1] at h
    by_cases h2 : (rdT s.1).1 = 0
    · rw [if_pos h2] at h
      simp only [Prod.mk.injEq] at h
      obtain ⟨rfl, rfl⟩ := h
      rcases rdT_sound s.1 with ⟨g, _⟩ | ⟨_, _, _, g⟩
      · exact absurd h2 g
      · refine ⟨by simpa using h1, ?_⟩
        show s.1 = txt (rdT s.1).2.1 ++ _
        rw [g, List.take_append_drop]
    · rw [if_neg h2] at h
      simp only [Prod.mk.injEq] at h
      rw [← h.2] at hw
      cases hw
theorem txtS_back (x : ByteArray) (more : List UInt8) : txtS (txt x.data.toList ++ more, false) = (x, (more, false)) := by
  unfold txtS
  rw [if_neg (by simp), rdT_txt, if_pos rfl]
  show (_, List.drop (txt x.data.toList).length (txt x.data.toList ++ more), _) = _
  rw [List.drop_left]
theorem intS_sound {s : RS} {x : Int} {s' : RS} (h : intS s = (x, s')) (hw : s'.2 = false) : s.2 = false ∧ s.1 = be8 (inKey x) ++ s'.1 := by
  unfold intS rdJ at h
  by_cases h1 : s.2 = true
  · rw [if_pos h1] at h
    simp only [Prod.mk.injEq] at h
    rw [← h.2, h1] at hw
    cases hw
  · rw [if_neg h1] at h
    by_cases h2 : s.1.length < 8
    · rw [if_pos h2, if_neg (by decide)] at h
      simp only [Prod.mk.injEq] at h
      rw [← h.2] at hw
      cases hw
    · rw [if_neg h2, if_pos rfl] at h
      simp only [Prod.mk.injEq] at h
      obtain ⟨rfl, rfl⟩ := h
      refine ⟨by simpa using h1, ?_⟩
      rw [inKey_outKey (num_lt8 (by rw [List.length_take]; omega)), be8_num (by rw [List.length_take]; omega), List.take_append_drop]
theorem intS_back {x : Int} (h1 : -9223372036854775808 ≤ x) (h2 : x ≤ 9223372036854775807) (more : List UInt8) : intS (be8 (inKey x) ++ more, false) = (x, (more, false)) := by
  have e : rdJ (be8 (inKey x) ++ more) = (0, x, 8) := by
    unfold rdJ
    rw [if_neg (by rw [List.length_append, be8_length]; omega)]
    have e1 : (be8 (inKey x) ++ more).take 8 = be8 (inKey x) := by rw [← be8_length (inKey x)]; exact List.take_left
    rw [e1, num_be8 (inKey_lt h2), outKey_inKey h1]
  unfold intS
  rw [if_neg (by simp), e, if_pos rfl]
  show (x, List.drop 8 (be8 (inKey x) ++ more), _) = _
  have e1 : (be8 (inKey x) ++ more).drop 8 = more := by rw [← be8_length (inKey x)]; exact List.drop_left
  rw [e1]
theorem valS_sound {s : RS} {x : At × List At} {s' : RS} (h : valS s = (x, s')) (hw : s'.2 = false) : s.2 = false ∧ s.1 = putK x.1 x.2 ++ s'.1 ∧ x.1.Ok ∧ (∀ y ∈ x.2, y.Ok) ∧ validV x.1 x.2 = true := by
  unfold valS at h
  by_cases h1 : s.2 = true
  · rw [if_pos h1] at h
    simp only [Prod.mk.injEq] at h
    rw [← h.2, h1] at hw
    cases hw
  · rw [if_neg h1] at h
    by_cases h2 : (rdV s.1).1 = 0
    · rw [if_pos h2] at h
      simp only [Prod.mk.injEq] at h
      obtain ⟨rfl, rfl⟩ := h
      obtain ⟨g1, g2, g3, _, _, g4⟩ := rdV_ok s.1 h2
      refine ⟨by simpa using h1, ?_, g1, g2, g3⟩
      unfold putK
      rw [if_pos g3, g4, List.take_append_drop]
    · rw [if_neg h2] at h
      simp only [Prod.mk.injEq] at h
      rw [← h.2] at hw
      cases hw
theorem valS_back {a : At} {l : List At} (ha : a.Ok) (hl : ∀ x ∈ l, x.Ok) (va : validV a l = true) (more : List UInt8) : valS (putK a l ++ more, false) = ((a, l), (more, false)) := by
  unfold valS putK
  rw [if_neg (by simp), if_pos va, rdV_back ha hl va, if_pos rfl]
  show (_, List.drop (valK a l).length (valK a l ++ more), _) = _
  rw [List.drop_left]
theorem cntS_sound {most : Nat} (hm : most ≤ 255) {s : RS} {n : Nat} {s' : RS} (h : cntS most s = (n, s')) (hw : s'.2 = false) : s.2 = false ∧ s.1 = UInt8.ofNat n :: s'.1 ∧ n ≤ most := by
  obtain ⟨l, b⟩ := s
  match l, b with
  | c :: r, false =>
    unfold cntS at h
    dsimp only at h
    by_cases hc : c.toNat ≤ most
    · rw [if_pos hc] at h
      simp only [Prod.mk.injEq] at h
      obtain ⟨rfl, rfl⟩ := h
      exact ⟨rfl, by rw [UInt8.ofNat_toNat], hc⟩
    · rw [if_neg hc] at h
      simp only [Prod.mk.injEq] at h
      rw [← h.2] at hw
      cases hw
  | [], false =>
    simp only [cntS, Prod.mk.injEq] at h
    rw [← h.2] at hw
    cases hw
  | [], true =>
    simp only [cntS, Prod.mk.injEq] at h
    rw [← h.2] at hw
    cases hw
  | c :: r, true =>
    simp only [cntS, Prod.mk.injEq] at h
    rw [← h.2] at hw
    cases hw
theorem cntS_back {most n : Nat} (hm : most ≤ 255) (hn : n ≤ most) (more : List UInt8) : cntS most (UInt8.ofNat n :: more, false) = (n, (more, false)) := by
  have h : (UInt8.ofNat n).toNat = n := by rw [UInt8.toNat_ofNat']; omega
  unfold cntS
  dsimp only
  rw [h, if_pos hn]
theorem labsS_sound : ∀ {n : Nat} {s : RS} {x : List ByteArray} {s' : RS}, labsS n s = (x, s') → s'.2 = false → s.2 = false ∧ s.1 = labsK x ++ s'.1 ∧ x.length = n
  | 0, s, x, s', h, hw => by
    simp only [labsS, Prod.mk.injEq] at h
    obtain ⟨rfl, rfl⟩ := h
    exact ⟨hw, rfl, rfl⟩
  | n + 1, s, x, s', h, hw => by
    simp only [labsS, Prod.mk.injEq] at h
    obtain ⟨rfl, rfl⟩ := h
    obtain ⟨g1, g2, g3⟩ := labsS_sound (n := n) (s := (txtS s).2) (x := (labsS n (txtS s).2).1) (s' := (labsS n (txtS s).2).2) rfl hw
    obtain ⟨g4, g5⟩ := txtS_sound (s := s) (x := (txtS s).1) (s' := (txtS s).2) rfl g1
    refine ⟨g4, ?_, by rw [List.length_cons, g3]⟩
    rw [g5, g2]
    simp only [labsK, List.append_assoc]
theorem labsS_back : ∀ (x : List ByteArray) (more : List UInt8), labsS x.length (labsK x ++ more, false) = (x, (more, false))
  | [], more => rfl
  | t :: x, more => by
    have e : txtS (labsK (t :: x) ++ more, false) = (t, (labsK x ++ more, false)) := by
      simp only [labsK, List.append_assoc]
      exact txtS_back t _
    simp only [labsS, List.length_cons, e, labsS_back x more]
/-- A property whose value is one. -/
def GoodP (p : Pc) : Prop := p.a.Ok ∧ (∀ y ∈ p.l, y.Ok) ∧ validV p.a p.l = true
theorem propsS_sound : ∀ {n : Nat} {s : RS} {x : List Pc} {s' : RS}, propsS n s = (x, s') → s'.2 = false → s.2 = false ∧ s.1 = propsK x ++ s'.1 ∧ x.length = n ∧ ∀ p ∈ x, GoodP p
  | 0, s, x, s', h, hw => by
    simp only [propsS, Prod.mk.injEq] at h
    obtain ⟨rfl, rfl⟩ := h
    exact ⟨hw, rfl, rfl, by simp⟩
  | n + 1, s, x, s', h, hw => by
    simp only [propsS, Prod.mk.injEq] at h
    obtain ⟨rfl, rfl⟩ := h
    obtain ⟨g1, g2, g3, g0⟩ := propsS_sound (n := n) (s := (valS (txtS s).2).2) (x := (propsS n (valS (txtS s).2).2).1) (s' := (propsS n (valS (txtS s).2).2).2) rfl hw
    obtain ⟨g4, g5, g6, g7, g8⟩ := valS_sound (s := (txtS s).2) (x := (valS (txtS s).2).1) (s' := (valS (txtS s).2).2) rfl g1
    obtain ⟨g9, g10⟩ := txtS_sound (s := s) (x := (txtS s).1) (s' := (txtS s).2) rfl g4
    refine ⟨g9, ?_, by rw [List.length_cons, g3], fun p hp => ?_⟩
    · rw [g10, g5, g2]
      simp only [propsK, List.append_assoc]
    · rcases List.mem_cons.1 hp with rfl | h
      · exact ⟨g6, g7, g8⟩
      · exact g0 p h
theorem propsS_back : ∀ (x : List Pc) (more : List UInt8), (∀ p ∈ x, GoodP p) → propsS x.length (propsK x ++ more, false) = (x, (more, false))
  | [], more, _ => rfl
  | p :: x, more, h => by
    have hp := h p (by simp)
    have e : txtS (propsK (p :: x) ++ more, false) = (p.n, (putK p.a p.l ++ (propsK x ++ more), false)) := by
      simp only [propsK, List.append_assoc]
      exact txtS_back p.n _
    have e2 := valS_back hp.1 hp.2.1 hp.2.2 (propsK x ++ more)
    simp only [propsS, List.length_cons, e, e2, propsS_back x more fun q hq => h q (by simp [hq])]
theorem recS_sound {s : RS} {x : List Pc} {s' : RS} (h : recS s = (x, s')) (hw : s'.2 = false) : s.2 = false ∧ s.1 = recK x ++ s'.1 ∧ x.length ≤ 16 ∧ ∀ p ∈ x, GoodP p := by
  obtain ⟨g1, g2, g3, g4⟩ := propsS_sound h hw
  obtain ⟨g5, g6, g7⟩ := cntS_sound (most := 16) (by decide) (s := s) (n := (cntS 16 s).1) (s' := (cntS 16 s).2) rfl g1
  refine ⟨g5, ?_, by omega, g4⟩
  rw [g6, g2, ← g3]
  rfl
theorem recS_back (x : List Pc) (h16 : x.length ≤ 16) (h : ∀ p ∈ x, GoodP p) (more : List UInt8) : recS (recK x ++ more, false) = (x, (more, false)) := by
  have e : cntS 16 (recK x ++ more, false) = (x.length, (propsK x ++ more, false)) := cntS_back (by decide) h16 _
  unfold recS
  rw [e]
  exact propsS_back x more h
theorem nodeS_sound {s : RS} {x : List ByteArray × List Pc} {s' : RS} (h : nodeS s = (x, s')) (hw : s'.2 = false) : s.2 = false ∧ s.1 = nodeK x.1 x.2 ++ s'.1 ∧ x.1.length ≤ 8 ∧ x.2.length ≤ 16 ∧ ∀ p ∈ x.2, GoodP p := by
  unfold nodeS at h
  simp only [Prod.mk.injEq] at h
  obtain ⟨rfl, rfl⟩ := h
  obtain ⟨g1, g2, g3, g4⟩ := recS_sound (s := (labsS (cntS 8 s).1 (cntS 8 s).2).2) (x := (recS (labsS (cntS 8 s).1 (cntS 8 s).2).2).1) (s' := (recS (labsS (cntS 8 s).1 (cntS 8 s).2).2).2) rfl hw
  obtain ⟨g5, g6, g7⟩ := labsS_sound (n := (cntS 8 s).1) (s := (cntS 8 s).2) (x := (labsS (cntS 8 s).1 (cntS 8 s).2).1) (s' := (labsS (cntS 8 s).1 (cntS 8 s).2).2) rfl g1
  obtain ⟨g8, g9, g10⟩ := cntS_sound (most := 8) (by decide) (s := s) (n := (cntS 8 s).1) (s' := (cntS 8 s).2) rfl g5
  refine ⟨g8, ?_, by dsimp only; omega, g3, g4⟩
  rw [g9, g6, g2]
  unfold nodeK
  dsimp only
  rw [g7]
  simp
theorem nodeS_back (ls : List ByteArray) (x : List Pc) (h8 : ls.length ≤ 8) (h16 : x.length ≤ 16) (h : ∀ p ∈ x, GoodP p) (more : List UInt8) : nodeS (nodeK ls x ++ more, false) = ((ls, x), (more, false)) := by
  have e : cntS 8 (nodeK ls x ++ more, false) = (ls.length, (labsK ls ++ (recK x ++ more), false)) := by
    unfold nodeK
    rw [List.cons_append, List.append_assoc]
    exact cntS_back (by decide) h8 _
  unfold nodeS
  simp only [e, labsS_back, recS_back x h16 h more]
theorem edgeS_sound {s : RS} {x : ByteArray × Int × Int × List Pc} {s' : RS} (h : edgeS s = (x, s')) (hw : s'.2 = false) : s.2 = false ∧ s.1 = edgeK x.2.1 x.2.2.1 x.1 x.2.2.2 ++ s'.1 ∧ x.2.2.2.length ≤ 16 ∧ ∀ p ∈ x.2.2.2, GoodP p := by
  unfold edgeS at h
  simp only [Prod.mk.injEq] at h
  obtain ⟨rfl, rfl⟩ := h
  obtain ⟨g1, g2, g3, g4⟩ := recS_sound (s := (intS (intS (txtS s).2).2).2) (x := (recS (intS (intS (txtS s).2).2).2).1) (s' := (recS (intS (intS (txtS s).2).2).2).2) rfl hw
  obtain ⟨g5, g6⟩ := intS_sound (s := (intS (txtS s).2).2) (x := (intS (intS (txtS s).2).2).1) (s' := (intS (intS (txtS s).2).2).2) rfl g1
  obtain ⟨g7, g8⟩ := intS_sound (s := (txtS s).2) (x := (intS (txtS s).2).1) (s' := (intS (txtS s).2).2) rfl g5
  obtain ⟨g9, g10⟩ := txtS_sound (s := s) (x := (txtS s).1) (s' := (txtS s).2) rfl g7
  refine ⟨g9, ?_, g3, g4⟩
  rw [g10, g8, g6, g2]
  unfold edgeK
  simp
theorem edgeS_back (t : ByteArray) (fr to : Int) (x : List Pc) (f1 : -9223372036854775808 ≤ fr) (f2 : fr ≤ 9223372036854775807) (t1 : -9223372036854775808 ≤ to) (t2 : to ≤ 9223372036854775807) (h16 : x.length ≤ 16) (h : ∀ p ∈ x, GoodP p) (more : List UInt8) :
    edgeS (edgeK fr to t x ++ more, false) = ((t, fr, to, x), (more, false)) := by
  have e : txtS (edgeK fr to t x ++ more, false) = (t, (be8 (inKey fr) ++ (be8 (inKey to) ++ (recK x ++ more)), false)) := by
    unfold edgeK
    rw [List.append_assoc, List.append_assoc, List.append_assoc]
    exact txtS_back t _
  unfold edgeS
  simp only [e, intS_back f1 f2, intS_back t1 t2, recS_back x h16 h more]

end Go.Proofs.Ytekaedafhiddeaa
