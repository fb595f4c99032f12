/-
  The reference's Read: what an entry more makes of what stands at the loop's head. Plain, but for two's contract.
-/
import Derived.Test.YtigmibmebockhaaNdRefRead
set_option linter.unusedVariables false
set_option linter.unusedSimpArgs false
set_option maxRecDepth 100000
namespace Go.Proofs.Ytigmibmebockhaa
open Go.RowKit

/-- What two does to what is left. -/
def TW (l : List UInt8) (bad : Bool) (v : Nat) (l' : List UInt8) (bad' : Bool) : Prop :=
  (bad = false ∧ 2 ≤ l.length ∧ v = leN (l.take 2) ∧ bad' = false ∧ l' = l.drop 2) ∨ ((bad = true ∨ l.length < 2) ∧ bad' = true ∧ l' = l)
theorem TW.len {l l' : List UInt8} {bad bad' : Bool} {v : Nat} (h : TW l bad v l' bad') : l'.length ≤ l.length := by
  rcases h with ⟨_, _, _, _, rfl⟩ | ⟨_, _, rfl⟩
  · rw [List.length_drop]; omega
  · exact Nat.le_refl _
theorem TW.sum {l l' : List UInt8} {bad bad' : Bool} {v : Nat} (h : TW l bad v l' bad') (hb : bad' = false) : bad = false := by
  rcases h with ⟨h1, _⟩ | ⟨_, h, _⟩
  · exact h1
  · rw [hb] at h; cases h
theorem TW.app {i : Nat} {r l' : List UInt8} {bad' : Bool} {v : Nat} (h : TW (two i ++ r) false v l' bad') (hi : i < 65536) : v = i ∧ l' = r ∧ bad' = false := by
  rcases h with ⟨_, _, h1, h2, h3⟩ | ⟨h | h, _⟩
  · exact ⟨h1.trans (leN_two' i r hi), h3, h2⟩
  · cases h
  · simp [two] at h; omega
def TwoPost2 (w : World) (g : Nat) (l : List UInt8) (bad : Bool) (e : Ending) (w' : World) : Prop :=
  ∃ (v : Nat) (l' : List UInt8) (bad' : Bool), e = .returned (.int .i64 (v : Int)) ∧ v ≤ 65535 ∧ w.grownBy w' (some g) ∧ TW l bad v l' bad' ∧ RsR w' g l' bad'
theorem two2_any {w : World} {g : Nat} {l : List UInt8} {bad : Bool} (h : RsR w g l bad) (hl : l.length ≤ 100000) :
    Calls Try.prog 28 #[.pointer (some ⟨g, 0, none⟩)] w (TwoPost2 w g l bad) := by
  refine (rtake2_any h hl).mono ?_
  rintro e w' ⟨v, rfl, h1, h2, ⟨h3, h4, h5, h6⟩ | ⟨h3, h4⟩⟩
  · exact ⟨v, _, _, rfl, h1, h2, .inl ⟨h3, h4, h5, rfl, rfl⟩, h6⟩
  · exact ⟨v, _, _, rfl, h1, h2, .inr ⟨h3, rfl, rfl⟩, h4⟩

/-- What reading a value does. -/
def VT (l : List UInt8) (bad : Bool) (v : VlS) (l' : List UInt8) (bad' : Bool) : Prop :=
  ∃ (y : UInt8) (l6 : List UInt8) (b6 : Bool), TK 1 l bad [y] l6 b6 ∧
    ((y.toNat = 255 ∧ ∃ (g p : Nat) (l7 : List UInt8) (b7 : Bool), TW l6 b6 g l7 b7 ∧ TW l7 b7 p l' bad' ∧ v = ⟨[], g, p⟩) ∨ (y.toNat ≠ 255 ∧ ∃ t, TK y.toNat l6 b6 t l' bad' ∧ v = ⟨t, 0, 0⟩))
theorem VT.len {l l' : List UInt8} {bad bad' : Bool} {v : VlS} (h : VT l bad v l' bad') : l'.length ≤ l.length := by
  obtain ⟨y, l6, b6, h1, ⟨_, g, p, l7, b7, h2, h3, _⟩ | ⟨_, t, h2, _⟩⟩ := h
  · exact Nat.le_trans h3.len (Nat.le_trans h2.len h1.len)
  · exact Nat.le_trans h2.len h1.len
theorem VT.sum {l l' : List UInt8} {bad bad' : Bool} {v : VlS} (h : VT l bad v l' bad') (hb : bad' = false) : bad = false ∧ v.l.length + l'.length ≤ l.length := by
  obtain ⟨y, l6, b6, h1, ⟨_, g, p, l7, b7, h2, h3, rfl⟩ | ⟨_, t, h2, rfl⟩⟩ := h
  · have h4 := h3.sum hb
    have h5 := h2.sum h4
    have h6 := h1.sum h5
    have h7 := h2.len
    have h8 := h3.len
    refine ⟨h6.1, ?_⟩
    have := h6.2
    simp only [List.length_nil]
    omega
  · have h3 := h2.sum hb
    have h4 := h1.sum h3.1
    refine ⟨h4.1, ?_⟩
    have h5 := h4.2
    have h6 := h3.2
    dsimp only
    omega
theorem VT.app {v v0 : VlS} {r l' : List UInt8} {bad' : Bool} (h : VT (valB v0 ++ r) false v l' bad') (h0 : v0.Right) : v = v0 ∧ l' = r ∧ bad' = false := by
  obtain ⟨y, l6, b6, h1, h2⟩ := h
  obtain ⟨t0, g0, p0⟩ := v0
  unfold VlS.Right at h0
  dsimp only at h0
  rcases h0 with ⟨rfl, rfl, h64⟩ | ⟨⟨p1, p2⟩, g1, g2, rfl⟩
  · have e : valB ⟨t0, 0, 0⟩ = txtB t0 := by unfold valB; rw [if_pos rfl]
    rw [e] at h1
    obtain ⟨e1, e2, e3⟩ := TK.app (a := [UInt8.ofNat t0.length]) (r := t0 ++ r) (by simpa [txtB] using h1) rfl
    cases e1
    subst e2 e3
    have hy : (UInt8.ofNat t0.length).toNat = t0.length := byte_nat (by omega)
    rcases h2 with ⟨h2, _⟩ | ⟨_, t, h2, rfl⟩
    · omega
    · obtain ⟨rfl, rfl, e4⟩ := TK.app h2 hy.symm
      exact ⟨rfl, rfl, e4⟩
  · have e : valB ⟨[], g0, p0⟩ = 255 :: (two g0.toNat ++ two p0.toNat) := by unfold valB; rw [if_neg (by dsimp only; omega)]
    rw [e] at h1
    obtain ⟨e1, e2, e3⟩ := TK.app (a := [255]) (r := two g0.toNat ++ (two p0.toNat ++ r)) (by simpa using h1) rfl
    cases e1
    subst e2 e3
    rcases h2 with ⟨_, g, p, l7, b7, h2, h3, rfl⟩ | ⟨h2, _⟩
    · obtain ⟨rfl, rfl, rfl⟩ := h2.app (by omega)
      obtain ⟨rfl, rfl, rfl⟩ := h3.app (by omega)
      refine ⟨?_, rfl, rfl⟩
      simp only [VlS.mk.injEq, true_and]
      omega
    · exact absurd rfl h2

theorem lens_one {α : Type} {f : α → List UInt8} (l : List α) (a : α) : lens f (l ++ [a]) = lens f l + (f a).length := by
  rw [lens_append]
  simp [lens]

/-- An entry of a leaf more. -/
theorem RI.stepL {b l l2 l5 l' t : List UInt8} {m j : Nat} {n n3 : Nd} {x : UInt8} {b4 b5 bad' : Bool} {y : Vl} {q : Option Addr} {c : Nat}
    (h : RI 2 b true m j n l false) (hj : j < m) (h1 : TK 1 l false [x] l2 b4) (h2 : TK x.toNat l2 b4 t l5 b5) (h3 : VT l5 b5 y.s l' bad')
    (e0 : n3.leaf = n.leaf) (e1 : n3.ks = n.ks ++ [⟨q, c, t⟩]) (e2 : n3.vs = n.vs ++ [y]) (e3 : n3.is = n.is) : RI 2 b true m (j + 1) n3 l' bad' := by
  refine ⟨e0.trans h.leaf, hj, ?_, ?_, ?_, fun hb => ?_, ?_, fun s hs => ?_⟩
  · rw [e1, List.length_append]; have := h.kl; simp; omega
  · rw [e2, List.length_append]; have := h.vl; simp; omega
  · rw [e3]; have := h.il; omega
  · obtain ⟨g1, g2⟩ := h3.sum hb
    obtain ⟨g3, g4⟩ := h2.sum g1
    obtain ⟨_, g5⟩ := h1.sum g3
    have g6 := h.sum rfl
    have g7 : y.s.l = y.l := rfl
    rw [g7] at g2
    rw [e1, e2, lens_one, lens_one]
    dsimp only
    omega
  · exact Nat.le_trans h3.len (Nat.le_trans h2.len (Nat.le_trans h1.len h.len))
  · obtain ⟨_, hm, hf⟩ := h.all s hs
    have hl : s.leaf = true := by
      rcases (readS_kind hs).1 with ⟨_, h⟩ | ⟨h, _⟩
      · exact h
      · cases h
    obtain ⟨k, v, hk, hv, hle, hn⟩ := hf.leaf hs.2.1 hl (by omega)
    obtain ⟨rfl, rfl, rfl⟩ := TK.text h1 h2 (by omega) hle rfl
    obtain ⟨hvv, rfl, rfl⟩ := h3.app hv
    refine ⟨rfl, hm, hn n3.s ?_ ?_ ?_⟩
    · simp [Nd.s, e1]
    · simp [Nd.s, e2, hvv]
    · simp [Nd.s, e3]

/-- The first kid of a branch. -/
theorem RI.branch0 {b l1 l2 : List UInt8} {x : UInt8} {b1 b2 : Bool} {v : Nat} (h : TK 1 b false [x] l1 b1) (h2 : TW l1 b1 v l2 b2) {n : Nd} (hn : n.leaf = false) (hk : n.ks = []) (hvs : n.vs = []) (hi : n.is = [(v : Int)]) : RI 3 b false x.toNat 0 n l2 b2 := by
  refine ⟨hn, Nat.zero_le _, by rw [hk]; exact Nat.le_refl _, by rw [hvs]; exact Nat.le_refl _, by rw [hi]; exact Nat.le_refl _, fun hb => ?_, Nat.le_trans h2.len h.len, fun s hs => ?_⟩
  · have g1 := h2.sum hb
    have g2 := (h.sum g1).2
    have g3 := h2.len
    rw [hk, hvs]
    simp [lens] at g2 ⊢
    omega
  · have hr := hs.2.1
    have hp := hs.2.2
    have hl : s.leaf = false := by
      rcases (readS_kind hs).1 with ⟨h, _⟩ | ⟨_, h⟩
      · cases h
      · exact h
    obtain ⟨i, hi0, hi1, hi2, hi3⟩ := kid_first hr hl
    rw [put_restS, hl, if_neg (by simp), hi1] at hp
    rw [← hp] at h
    obtain ⟨e1, e2, e3⟩ := h.app rfl
    cases e1
    rw [e2, e3] at h2
    obtain ⟨rfl, e4, e5⟩ := h2.app (by omega)
    obtain ⟨_, hvs0, _⟩ := hr.branch hl
    refine ⟨e5, by rw [UInt8.toNat_ofNat']; have := hr.many; omega, by simp [Nd.s, hk], by simp [Nd.s, hvs], ?_, e4⟩
    have h0 : s.is.take (0 + 1) = [i] := by
      rw [take_more hi0]
      simp
    simp only [Nd.s, hi]
    rw [h0]
    congr 1
    omega

/-- An entry of a branch more. -/
theorem RI.stepB {b l l2 l5 l' t : List UInt8} {m j : Nat} {n n3 : Nd} {x : UInt8} {b4 b5 bad' : Bool} {v : Nat} {q : Option Addr} {c : Nat}
    (h : RI 3 b false m j n l false) (hj : j < m) (h1 : TK 1 l false [x] l2 b4) (h2 : TK x.toNat l2 b4 t l5 b5) (h3 : TW l5 b5 v l' bad')
    (e0 : n3.leaf = n.leaf) (e1 : n3.ks = n.ks ++ [⟨q, c, t⟩]) (e2 : n3.vs = n.vs) (e3 : n3.is = n.is ++ [(v : Int)]) : RI 3 b false m (j + 1) n3 l' bad' := by
  refine ⟨e0.trans h.leaf, hj, ?_, ?_, ?_, fun hb => ?_, ?_, fun s hs => ?_⟩
  · rw [e1, List.length_append]; have := h.kl; simp; omega
  · rw [e2]; have := h.vl; omega
  · rw [e3, List.length_append]; have := h.il; simp; omega
  · have g1 := h3.sum hb
    obtain ⟨g3, g4⟩ := h2.sum g1
    obtain ⟨_, g5⟩ := h1.sum g3
    have g6 := h.sum rfl
    have g7 := h3.len
    rw [e1, e2, lens_one]
    dsimp only
    omega
  · exact Nat.le_trans h3.len (Nat.le_trans h2.len (Nat.le_trans h1.len h.len))
  · obtain ⟨_, hm, hf⟩ := h.all s hs
    have hl : s.leaf = false := by
      rcases (readS_kind hs).1 with ⟨h, _⟩ | ⟨_, h⟩
      · cases h
      · exact h
    obtain ⟨k, i, hk, ⟨hi1, hi2⟩, hle, hn⟩ := hf.branch hs.2.1 hl (by omega)
    obtain ⟨rfl, rfl, rfl⟩ := TK.text h1 h2 (by omega) hle rfl
    obtain ⟨rfl, rfl, rfl⟩ := h3.app (by omega)
    refine ⟨rfl, hm, hn n3.s ?_ ?_ ?_⟩
    · simp [Nd.s, e1]
    · simp [Nd.s, e2]
    · simp only [Nd.s, e3]
      congr 2
      omega

/-- Behind the loop: too little was there, or all is read. -/
theorem RI.bad {k m j : Nat} {b l : List UInt8} {lf : Bool} {n : Nd} (h : RI k b lf m j n l true) : ∀ s, ¬ readS k b s := fun s hs => by
  have := (h.all s hs).1
  cases this
theorem RI.done {k m j : Nat} {b l : List UInt8} {lf bad : Bool} {n : Nd} (h : RI k b lf m j n l bad) (hj : ¬ j < m) (hk : (k = 2 ∧ lf = true) ∨ (k = 3 ∧ lf = false)) : ∀ s, readS k b s → n.s = s ∧ l = [] := fun s hs => by
  obtain ⟨_, hm, hf⟩ := h.all s hs
  refine hf.end hs.2.1 (by omega) ?_
  show n.leaf = s.leaf
  rw [h.leaf]
  rcases hk with ⟨rfl, rfl⟩ | ⟨rfl, rfl⟩
  · rcases (readS_kind hs).1 with ⟨_, h⟩ | ⟨h, _⟩
    · exact h.symm
    · cases h
  · rcases (readS_kind hs).1 with ⟨h, _⟩ | ⟨_, h⟩
    · cases h
    · exact h.symm
theorem RI.count {k m j : Nat} {b l : List UInt8} {lf : Bool} {n : Nd} (h : RI k b lf m j n l false) (hb : b.length ≤ 600) (hm : m ≤ 255) : n.s.count ≤ 3000 := by
  have h1 := h.kl
  have h2 := h.vl
  have h3 := h.il
  have h4 := h.jm
  have h5 := h.sum rfl
  have e1 : lens id n.s.ks = lens Kb.l n.ks := by
    simp only [Nd.s]
    induction n.ks with
    | nil => rfl
    | cons a t ih => simp only [List.map_cons, lens, ih, id]
  have e2 : lens VlS.l n.s.vs = lens Vl.l n.vs := by
    simp only [Nd.s]
    induction n.vs with
    | nil => rfl
    | cons a t ih => simp only [List.map_cons, lens, ih]; rfl
  unfold NdS.count
  rw [e1, e2]
  simp only [Nd.s, List.length_map]
  omega

theorem StR.rc {w0 w : World} {R g A C : Nat} {n : Nd} {l : List UInt8} {bad : Bool} (h : StR w0 w R g A C n l bad) :
    (w.cell? ⟨R, 0, none⟩ = some (.bool false) ∧ w.cell? ⟨R, 1, none⟩ = some (.slice none 0 0) ∧ w.cell? ⟨R, 2, none⟩ = some (.slice none 0 0) ∧ w.cell? ⟨R, 3, none⟩ = some (.slice none 0 0)) ∧ (w.frozen? ⟨R, 0, none⟩ = false ∧ w.frozen? ⟨R, 1, none⟩ = false ∧ w.frozen? ⟨R, 2, none⟩ = false ∧ w.frozen? ⟨R, 3, none⟩ = false) ∧ R < w.heap.size :=
  ⟨⟨Joins.cell_of_block h.res 0, Joins.cell_of_block h.res 1, Joins.cell_of_block h.res 2, Joins.cell_of_block h.res 3⟩, ⟨Joins.unfrozen_of_block h.res 0, Joins.unfrozen_of_block h.res 1, Joins.unfrozen_of_block h.res 2, Joins.unfrozen_of_block h.res 3⟩, h.rlt⟩
/-- What a right node's values have. -/
theorem val_zero_of {n : Nd} (h : n.s.Right) : ∀ x ∈ n.vs, x.p = 0 → x.g = 0 := fun x hx hp => by
  cases hl : n.leaf
  · obtain ⟨_, hv, _⟩ := h.branch hl
    have hm : x.s ∈ n.s.vs := List.mem_map_of_mem hx
    rw [hv] at hm
    cases hm
  · obtain ⟨_, _, hv⟩ := h.leaf hl
    have hr := hv x.s (List.mem_map_of_mem hx)
    rcases hr with ⟨_, h1, _⟩ | ⟨⟨h1, _⟩, _⟩
    · exact h1
    · have e : x.s.p = x.p := rfl
      rw [e, hp] at h1
      omega
theorem kind_of {n : Nd} {k : Nat} {lf : Bool} (h : n.leaf = lf) (hk : (k = 2 ∧ lf = true) ∨ (k = 3 ∧ lf = false)) : n.s.kind = k := by
  have e : n.s.leaf = n.leaf := rfl
  unfold NdS.kind
  rw [e, h]
  rcases hk with ⟨rfl, rfl⟩ | ⟨rfl, rfl⟩ <;> rfl

end Go.Proofs.Ytigmibmebockhaa
