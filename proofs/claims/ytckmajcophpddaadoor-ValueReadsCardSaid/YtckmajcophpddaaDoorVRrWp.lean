/-
  A number's digits, digit by digit (plain): what wholeR says, by the run of digits that stands ahead.
-/
import Derived.Test.YtckmajcophpddaaDoorVBkP
set_option linter.unusedVariables false
set_option linter.unusedSimpArgs false
set_option maxRecDepth 100000
namespace Go.Proofs.YtckmajcophpddaaDoor
open Go.RowKit

def vD (acc : Nat) (p : List UInt8) : Nat := p.foldl (fun u c => u * 10 + (c.toNat - 48)) acc
theorem vD_snoc (a : Nat) (p : List UInt8) (c : UInt8) : vD a (p ++ [c]) = vD a p * 10 + (c.toNat - 48) := by
  unfold vD
  rw [List.foldl_append]
  rfl
theorem vD_app : ∀ (q : List UInt8) (a : Nat), a ≤ vD a q
  | [], a => Nat.le_refl _
  | c :: q, a => by
    show a ≤ vD (a * 10 + (c.toNat - 48)) q
    have h := vD_app q (a * 10 + (c.toNat - 48))
    omega
theorem vD_le (a : Nat) (p q : List UInt8) : vD a p ≤ vD a (p ++ q) := by
  have h := vD_app q (vD a p)
  unfold vD at h ⊢
  rw [List.foldl_append]
  exact h
theorem vD_decD : ∀ (u : Nat), vD 0 (Lib.decDigits u) = u := by
  intro u
  induction u using Nat.strongRecOn with
  | _ u ih =>
    by_cases h : u < 10
    · rw [decD_small h]
      show 0 * 10 + ((UInt8.ofNat (48 + u)).toNat - 48) = u
      rw [dig_of h]
      omega
    · rw [decD_big h, vD_snoc, ih (u / 10) (by omega), dig_of (Nat.mod_lt u (by decide))]
      omega
theorem vD_pos {c : UInt8} (p : List UInt8) (hd : isDig c) (h : c ≠ 48) : 1 ≤ vD 0 (c :: p) := by
  have h1 := vD_le 0 [c] p
  have h2 : vD 0 [c] = c.toNat - 48 := by show 0 * 10 + (c.toNat - 48) = _; omega
  have h3 : c.toNat ≠ 48 := fun e => h (UInt8.toNat_inj.1 e)
  unfold isDig at hd
  have h4 : [c] ++ p = c :: p := rfl
  rw [h4] at h1
  omega
theorem dig_back {c : UInt8} (h : isDig c) : UInt8.ofNat (48 + (c.toNat - 48)) = c := by
  unfold isDig at h
  apply UInt8.toNat_inj.1
  rw [UInt8.toNat_ofNat']
  omega
theorem decD_vD_rev : ∀ (e : List UInt8), (∀ x ∈ e, isDig x) → e ≠ [] → (∀ r, e.reverse = 48 :: r → r = []) → Lib.decDigits (vD 0 e.reverse) = e.reverse
  | [], _, h, _ => absurd rfl h
  | [c], hd, _, _ => by
    have hc := hd c (by simp)
    have hv : vD 0 [c].reverse = c.toNat - 48 := by show 0 * 10 + (c.toNat - 48) = _; omega
    have hc2 := hc
    unfold isDig at hc2
    rw [hv, decD_small (by omega), dig_back hc]
    rfl
  | c :: b :: e, hd, _, hz => by
    have hc := hd c (by simp)
    have hdd : ∀ x ∈ b :: e, isDig x := fun x hx => hd x (by simp at hx ⊢; right; exact hx)
    have hrev : (c :: b :: e).reverse = (b :: e).reverse ++ [c] := by simp
    have hne : (b :: e).reverse ≠ [] := by simp
    have hz2 : ∀ r, (b :: e).reverse = 48 :: r → False := by
      intro r hr
      have := hz (r ++ [c]) (by rw [hrev, hr]; rfl)
      simp at this
    have ih := decD_vD_rev (b :: e) hdd (by simp) (fun r hr => (hz2 r hr).elim)
    obtain ⟨x, r, hx⟩ : ∃ x r, (b :: e).reverse = x :: r := by
      rcases hq : (b :: e).reverse with _ | ⟨x, r⟩
      · exact absurd hq hne
      · exact ⟨x, r, rfl⟩
    have hx48 : x ≠ 48 := by rintro rfl; exact hz2 r hx
    have hxd : isDig x := hdd x (List.mem_reverse.1 (by rw [hx]; simp))
    have hpos := vD_pos r hxd hx48
    rw [hrev, vD_snoc]
    have hc2 := hc
    unfold isDig at hc2
    rw [← hx] at hpos
    have e1 : (vD 0 (b :: e).reverse * 10 + (c.toNat - 48)) / 10 = vD 0 (b :: e).reverse := by omega
    have e2 : (vD 0 (b :: e).reverse * 10 + (c.toNat - 48)) % 10 = c.toNat - 48 := by omega
    rw [decD_big (by omega), e1, e2, ih, dig_back hc]
theorem decD_vD {d : List UInt8} (hd : ∀ x ∈ d, isDig x) (hne : d ≠ []) (hz : ∀ r, d = 48 :: r → r = []) : Lib.decDigits (vD 0 d) = d := by
  have h := decD_vD_rev d.reverse (fun x hx => hd x (List.mem_reverse.1 hx)) (by simpa using hne) (by rw [List.reverse_reverse]; exact hz)
  rw [List.reverse_reverse] at h
  exact h

theorem noDig_drop (l : List UInt8) : NoDig (Lib.trimLeftS l digs) := by
  intro c r h
  unfold Lib.trimLeftS at h
  induction l with
  | nil => simp at h
  | cons x l ih =>
    rw [List.dropWhile_cons] at h
    split at h
    · exact ih h
    · rename_i hx
      cases h
      exact fun hc => hx ((digs_iff _).2 hc)
theorem wholeR_noDig {l m : List UInt8} {v : Int} (h : wholeR l = .ok (v, m)) : NoDig m := by
  unfold wholeR at h
  split at h
  · split at h
    · cases h
      unfold wholeN
      have hs : Lib.trimLeftS (Lib.trimPrefix l [45]) digs <:+ l := by
        refine List.IsSuffix.trans (List.dropWhile_suffix _) ?_
        cases hp : Lib.hasPrefix l [45]
        · rw [bk_trim_no hp]
          exact List.suffix_refl _
        · exact ⟨[45], (pre_split hp).symm⟩
      rw [← List.suffix_iff_eq_drop.1 hs]
      exact noDig_drop _
    · cases h
  · cases h
theorem wholeR_or (l : List UInt8) : wholeR l = .error 11 ∨ ∃ v m, wholeR l = .ok (v, m) := by
  unfold wholeR
  split
  · split
    · exact .inr ⟨_, _, rfl⟩
    · exact .inl rfl
  · exact .inl rfl
/-- What is read as a whole number: its digits, and what stands behind them. -/
theorem wholeR_form2 {l m : List UInt8} {v : Int} (h : wholeR l = .ok (v, m)) :
    Lib.trimPrefix l [45] = Lib.decDigits v.natAbs ++ m ∧ NoDig m ∧ (Lib.hasPrefix l [45] = true ↔ v < 0) ∧ -9223372036854775808 ≤ v ∧ v ≤ 9223372036854775807 := by
  obtain ⟨hl, h1, h2⟩ := wholeR_back h
  refine ⟨?_, wholeR_noDig h, ?_, h1, h2⟩
  · rw [hl]
    unfold Lib.itoa
    by_cases hn : v < 0
    · rw [if_pos hn]
      exact bk_trim [45] (Lib.decDigits v.natAbs ++ m)
    · rw [if_neg hn]
      have e : v.toNat = v.natAbs := by omega
      rw [e]
      refine bk_trim_no ?_
      rcases hd : Lib.decDigits v.natAbs with _ | ⟨c, r⟩
      · exact absurd hd (decD_ne _)
      · have hc : isDig c := decD_digs v.natAbs c (by rw [hd]; simp)
        refine bk_pre_ne _ _ ?_
        rintro rfl
        unfold isDig at hc
        revert hc
        decide
  · rw [hl]
    unfold Lib.itoa
    by_cases hn : v < 0
    · rw [if_pos hn]
      exact ⟨fun _ => hn, fun _ => bk_pre [45] _⟩
    · rw [if_neg hn]
      refine ⟨fun hp => ?_, fun h => absurd h hn⟩
      rcases hd : Lib.decDigits v.toNat with _ | ⟨c, r⟩
      · exact absurd hd (decD_ne _)
      · have hc : isDig c := decD_digs v.toNat c (by rw [hd]; simp)
        rw [hd] at hp
        have : Lib.hasPrefix (c :: r ++ m) [45] = false := by
          refine bk_pre_ne _ _ ?_
          rintro rfl
          unfold isDig at hc
          revert hc
          decide
        rw [this] at hp
        cases hp
theorem run_of {p q d m : List UInt8} (h : p ++ q = d ++ m) (hp : ∀ x ∈ p, isDig x) (hm : NoDig m) : ∃ t, d = p ++ t ∧ q = t ++ m := by
  rcases List.append_eq_append_iff.1 h with ⟨a, h1, h2⟩ | ⟨c, h1, h2⟩
  · exact ⟨a, h1, h2⟩
  · rcases c with _ | ⟨x, c⟩
    · exact ⟨[], by simpa using h1.symm, by simpa using h2.symm⟩
    · exact absurd (hp x (by rw [h1]; simp)) (hm x _ h2)
theorem run_all {p q d m : List UInt8} (h : p ++ q = d ++ m) (hp : ∀ x ∈ p, isDig x) (hd : ∀ x ∈ d, isDig x) (hm : NoDig m) (hq : NoDig q) : d = p ∧ q = m := by
  obtain ⟨t, h1, h2⟩ := run_of h hp hm
  rcases t with _ | ⟨x, t⟩
  · exact ⟨by simpa using h1, by simpa using h2⟩
  · exact absurd (hd x (by rw [h1]; simp)) (hq x _ h2)
theorem rw_big {l p q : List UInt8} (hr : Lib.trimPrefix l [45] = p ++ q) (hp : ∀ x ∈ p, isDig x) (hu : 9223372036854775808 < vD 0 p) : wholeR l = .error 11 := by
  rcases wholeR_or l with h | ⟨v, m, h⟩
  · exact h
  · obtain ⟨h1, h2, h3, h4, h5⟩ := wholeR_form2 h
    obtain ⟨t, ht, _⟩ := run_of (hr.symm.trans h1) hp h2
    have := vD_le 0 p t
    rw [← ht, vD_decD] at this
    omega
theorem rw_none {l q : List UInt8} (hr : Lib.trimPrefix l [45] = q) (hq : NoDig q) : wholeR l = .error 11 := by
  rcases wholeR_or l with h | ⟨v, m, h⟩
  · exact h
  · obtain ⟨h1, h2, h3, h4, h5⟩ := wholeR_form2 h
    obtain ⟨t, _⟩ := run_all (p := []) (show [] ++ q = _ from hr.symm.trans h1) (by simp) (decD_digs _) h2 hq
    exact absurd t (decD_ne _)
theorem rw_zero {l p q : List UInt8} (hr : Lib.trimPrefix l [45] = 48 :: p ++ q) (hp : ∀ x ∈ 48 :: p, isDig x) (hq : NoDig q) (hz : p ≠ [] ∨ Lib.hasPrefix l [45] = true) : wholeR l = .error 11 := by
  rcases wholeR_or l with h | ⟨v, m, h⟩
  · exact h
  · obtain ⟨h1, h2, h3, h4, h5⟩ := wholeR_form2 h
    obtain ⟨t, _⟩ := run_all (hr.symm.trans h1) hp (decD_digs _) h2 hq
    obtain ⟨e1, e2⟩ := decD_zero_first _ _ t
    rcases hz with hz | hz
    · exact absurd e2 hz
    · have := h3.1 hz
      omega
theorem rw_top {l p q : List UInt8} (hr : Lib.trimPrefix l [45] = p ++ q) (hp : ∀ x ∈ p, isDig x) (hq : NoDig q) (hs : Lib.hasPrefix l [45] = false) (hu : 9223372036854775808 ≤ vD 0 p) : wholeR l = .error 11 := by
  rcases wholeR_or l with h | ⟨v, m, h⟩
  · exact h
  · obtain ⟨h1, h2, h3, h4, h5⟩ := wholeR_form2 h
    obtain ⟨t, _⟩ := run_all (hr.symm.trans h1) hp (decD_digs _) h2 hq
    rw [← t, vD_decD] at hu
    have : ¬ v < 0 := fun e => by rw [h3.2 e] at hs; cases hs
    omega
theorem rw_neg {l p q : List UInt8} (hr : Lib.trimPrefix l [45] = p ++ q) (hp : ∀ x ∈ p, isDig x) (hq : NoDig q) (hs : Lib.hasPrefix l [45] = true) (hne : p ≠ []) (hz : ∀ r, p ≠ 48 :: r) (hu : vD 0 p ≤ 9223372036854775808) :
    wholeR l = .ok (-(vD 0 p : Int), q) ∧ 1 ≤ vD 0 p := by
  have h1 : 1 ≤ vD 0 p := by
    rcases p with _ | ⟨c, p⟩
    · exact absurd rfl hne
    · exact vD_pos p (hp c (by simp)) fun e => hz p (by rw [e])
  refine ⟨?_, h1⟩
  have hd := decD_vD hp hne fun r h => absurd h (hz r)
  have hi : Lib.itoa (-(vD 0 p : Int)) = 45 :: p := by
    unfold Lib.itoa
    rw [if_pos (by omega), show (-(vD 0 p : Int)).natAbs = vD 0 p by omega, hd]
  have hl : l = Lib.itoa (-(vD 0 p : Int)) ++ q := by rw [hi, pre_split hs, hr]; rfl
  rw [hl]
  exact wholeR_put (by omega) (by omega) hq
theorem rw_pos {l p q : List UInt8} (hr : Lib.trimPrefix l [45] = p ++ q) (hp : ∀ x ∈ p, isDig x) (hq : NoDig q) (hs : Lib.hasPrefix l [45] = false) (hne : p ≠ []) (hz : ∀ r, p = 48 :: r → r = []) (hu : vD 0 p < 9223372036854775808) :
    wholeR l = .ok ((vD 0 p : Int), q) := by
  have hd := decD_vD hp hne hz
  have hi : Lib.itoa (vD 0 p : Int) = p := by
    unfold Lib.itoa
    rw [if_neg (by omega), show ((vD 0 p : Nat) : Int).toNat = vD 0 p by omega, hd]
  have hl : l = Lib.itoa (vD 0 p : Int) ++ q := by rw [hi, ← hr, bk_trim_no hs]
  rw [hl]
  exact wholeR_put (by omega) (by omega) hq

end Go.Proofs.YtckmajcophpddaaDoor
