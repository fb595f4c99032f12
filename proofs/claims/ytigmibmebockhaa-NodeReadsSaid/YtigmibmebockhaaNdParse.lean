/-
  What is put is read, whatever stands behind (plain).
-/
import Derived.Test.YtigmibmebockhaaNdRead
set_option linter.unusedVariables false
set_option linter.unusedSimpArgs false
set_option maxRecDepth 100000
namespace Go.Proofs.Ytigmibmebockhaa
open Go.RowKit

theorem byte_nat {n : Nat} (h : n < 256) : (UInt8.ofNat n).toNat = n := by rw [UInt8.toNat_ofNat']; omega
theorem leN_txt (k y : List UInt8) (h : k.length < 256) : leN ((txtB k ++ y).take 1) = k.length := by
  simp only [txtB, List.cons_append, List.take_succ_cons, List.take_zero, leN, byte_nat h]
  omega
theorem textR_put (k y : List UInt8) (h : k.length < 256) : textR (txtB k ++ y) = (k, y) := by
  unfold textR
  rw [leN_txt k y h]
  simp [txtB]
theorem leN_two' (n : Nat) (y : List UInt8) (h : n < 65536) : leN ((two n ++ y).take 2) = n := by
  have h1 : (UInt8.ofNat n).toNat = n % 256 := by rw [UInt8.toNat_ofNat']
  have h2 : (UInt8.ofNat (n / 256)).toNat = n / 256 := byte_nat (by omega)
  simp only [two, List.cons_append, List.take_succ_cons, List.take_zero, leN, h1, h2]
  omega
theorem drop_two (n : Nat) (y : List UInt8) : (two n ++ y).drop 2 = y := rfl
theorem valR_put (v : VlS) (y : List UInt8) (h : v.Right) : valR (valB v ++ y) = (v, y) := by
  obtain ⟨l, g, p⟩ := v
  unfold VlS.Right at h
  dsimp only at h
  rcases h with ⟨rfl, rfl, h64⟩ | ⟨⟨p1, p2⟩, g1, g2, rfl⟩
  · have e : valB ⟨l, 0, 0⟩ = txtB l := by unfold valB; rw [if_pos rfl]
    rw [e]
    unfold valR
    rw [leN_txt l y (by omega), if_neg (by omega)]
    simp [txtB]
  · have e : valB ⟨[], g, p⟩ = 255 :: (two g.toNat ++ two p.toNat) := by unfold valB; rw [if_neg (by dsimp only; omega)]
    rw [e]
    have e1 : leN ((255 :: (two g.toNat ++ two p.toNat) ++ y).take 1) = 255 := rfl
    unfold valR
    rw [e1, if_pos rfl]
    have e2 : (255 :: (two g.toNat ++ two p.toNat) ++ y).drop 1 = two g.toNat ++ (two p.toNat ++ y) := by simp
    rw [e2, leN_two' _ _ (by omega), drop_two, leN_two' _ _ (by omega), drop_two]
    simp only [Prod.mk.injEq, VlS.mk.injEq, true_and, and_true]
    omega
theorem rdL_put (x : List UInt8) : ∀ (ks : List (List UInt8)) (vs : List VlS), vs.length = ks.length → (∀ k ∈ ks, k.length ≤ 72) → (∀ v ∈ vs, v.Right) → (rdL ks.length (entsL ks vs ++ x)).map Prod.fst = ks ∧ (rdL ks.length (entsL ks vs ++ x)).map Prod.snd = vs
  | [], [], _, _, _ => ⟨rfl, rfl⟩
  | k :: ks, v :: vs, h, hk, hv => by
    obtain ⟨h1, h2⟩ := rdL_put x ks vs (by simpa using h) (fun a ha => hk a (List.mem_cons_of_mem _ ha)) (fun a ha => hv a (List.mem_cons_of_mem _ ha))
    have hk72 := hk k List.mem_cons_self
    have e : entsL (k :: ks) (v :: vs) ++ x = txtB k ++ (valB v ++ (entsL ks vs ++ x)) := by simp [entsL]
    rw [e, List.length_cons, rdL, if_neg (by simp [txtB]), textR_put _ _ (by omega), valR_put _ _ (hv v List.mem_cons_self)]
    simp [h1, h2]
  | [], _ :: _, h, _, _ => by simp at h
  | _ :: _, [], h, _, _ => by simp at h
theorem rdB_put (x : List UInt8) : ∀ (ks : List (List UInt8)) (is : List Int), is.length = ks.length → (∀ k ∈ ks, k.length ≤ 72) → (∀ i ∈ is, PageOk i) → (rdB ks.length (entsB ks is ++ x)).map Prod.fst = ks ∧ (rdB ks.length (entsB ks is ++ x)).map Prod.snd = is
  | [], [], _, _, _ => ⟨rfl, rfl⟩
  | k :: ks, i :: is, h, hk, hv => by
    obtain ⟨h1, h2⟩ := rdB_put x ks is (by simpa using h) (fun a ha => hk a (List.mem_cons_of_mem _ ha)) (fun a ha => hv a (List.mem_cons_of_mem _ ha))
    have hk72 := hk k List.mem_cons_self
    obtain ⟨i1, i2⟩ := hv i List.mem_cons_self
    have e : entsB (k :: ks) (i :: is) ++ x = txtB k ++ (two i.toNat ++ (entsB ks is ++ x)) := by simp [entsB]
    rw [e, List.length_cons, rdB, if_neg (by simp [txtB]), textR_put _ _ (by omega)]
    dsimp only
    have e3 : num2 (two i.toNat ++ (entsB ks is ++ x)) = i := by unfold num2; rw [leN_two' _ _ (by omega)]; omega
    rw [drop_two, e3]
    simp [h1, h2]
  | [], _ :: _, h, _, _ => by simp at h
  | _ :: _, [], h, _, _ => by simp at h

theorem put_head (n : NdS) (h : n.Right) (x : List UInt8) : leN ((n.put ++ x).take 1) = n.ks.length := by
  have := h.many
  unfold NdS.put
  simp only [List.cons_append, List.take_succ_cons, List.take_zero, leN, byte_nat (show n.ks.length < 256 by omega)]
  omega
theorem rise_len {n : NdS} (h : n.Right) : ∀ k ∈ n.ks, k.length ≤ 72 := fun k hk => by
  obtain ⟨i, hi, rfl⟩ := List.mem_iff_getElem.1 hk
  exact (h.rise i _ (List.getElem?_eq_getElem hi)).1
theorem leafS_put {n : NdS} (h : n.Right) (hl : n.leaf = true) (x : List UInt8) : leafS (n.put ++ x) = n := by
  obtain ⟨h1, h2, h3⟩ := h.leaf hl
  have hd : (n.put ++ x).drop 1 = entsL n.ks n.vs ++ x := by
    unfold NdS.put
    rw [hl, if_pos rfl]
    rfl
  obtain ⟨e1, e2⟩ := rdL_put x n.ks n.vs h1 (rise_len h) h3
  unfold leafS
  rw [put_head n h, hd, e1, e2]
  obtain ⟨lf, ks, vs, is⟩ := n
  dsimp only at hl h2
  rw [hl, h2]
theorem branchS_put {n : NdS} (h : n.Right) (hl : n.leaf = false) (x : List UInt8) : branchS (n.put ++ x) = n := by
  obtain ⟨h1, h2, h3⟩ := h.branch hl
  obtain ⟨i, is, hi⟩ : ∃ i is, n.is = i :: is := by
    cases hn : n.is with
    | nil => rw [hn] at h1; simp at h1
    | cons a l => exact ⟨a, l, rfl⟩
  have hpi := h3 i (by rw [hi]; exact List.mem_cons_self)
  obtain ⟨p1, p2⟩ := hpi
  have hd : (n.put ++ x).drop 1 = two i.toNat ++ (entsB n.ks is ++ x) := by
    unfold NdS.put
    rw [hl, if_neg (by simp), hi]
    simp
  obtain ⟨e1, e2⟩ := rdB_put x n.ks is (by rw [hi] at h1; simpa using h1) (rise_len h) (fun j hj => h3 j (by rw [hi]; exact List.mem_cons_of_mem _ hj))
  unfold branchS
  rw [put_head n h, hd, drop_two, e1, e2]
  have e3 : num2 (two i.toNat ++ (entsB n.ks is ++ x)) = i := by unfold num2; rw [leN_two' _ _ (by omega)]; omega
  rw [e3]
  obtain ⟨lf, ks, vs, is'⟩ := n
  dsimp only at hl h2 hi
  rw [hl, h2, hi]

def NdS.kind (n : NdS) : Nat := if n.leaf then 2 else 3
/-- A right node's bytes are read as it. -/
theorem readS_put {n : NdS} (h : n.Right) : readS n.kind n.put n := by
  refine ⟨?_, h, rfl⟩
  have hl := h.length
  have hs := h.size
  unfold preS NdS.kind
  rw [if_neg (by omega)]
  cases hlf : n.leaf
  · have := branchS_put h hlf []
    rw [List.append_nil] at this
    simp [this]
  · have := leafS_put h hlf []
    rw [List.append_nil] at this
    simp [this]
/-- And no other node has these bytes with something behind. -/
theorem readS_less {n s : NdS} (h : n.Right) {b x : List UInt8} (hb : b ++ x = n.put) (hx : x ≠ []) : ¬ readS n.kind b s := by
  rintro ⟨h1, h2, h3⟩
  have hsn : s = n := by
    unfold preS NdS.kind at h1
    split at h1
    · cases h1
    · cases hlf : n.leaf
      · rw [hlf] at h1
        simp only [Bool.false_eq_true, if_false, show ¬ (3 : Nat) = 2 by decide, if_true, Option.some.injEq] at h1
        have hsl : s.leaf = false := by rw [← h1]; rfl
        have e1 := branchS_put h2 hsl x
        rw [h3, hb] at e1
        have e2 := branchS_put h hlf []
        rw [List.append_nil] at e2
        exact e1.symm.trans e2
      · rw [hlf] at h1
        simp only [if_true, Option.some.injEq] at h1
        have hsl : s.leaf = true := by rw [← h1]; rfl
        have e1 := leafS_put h2 hsl x
        rw [h3, hb] at e1
        have e2 := leafS_put h hlf []
        rw [List.append_nil] at e2
        exact e1.symm.trans e2
  rw [hsn] at h3
  have h4 := congrArg List.length hb
  rw [← h3, List.length_append] at h4
  exact hx (List.eq_nil_of_length_eq_zero (by omega))
theorem readS_one {k : Nat} {b : List UInt8} {s t : NdS} (h : readS k b s) (h' : readS k b t) : s = t := by
  have := h.1.symm.trans h'.1
  exact Option.some.inj this
theorem readS_four {b : List UInt8} {s : NdS} : ¬ readS 4 b s := by
  rintro ⟨h1, _⟩
  unfold preS at h1
  split at h1
  · cases h1
  · simp at h1

end Go.Proofs.Ytigmibmebockhaa
