/-
  What Print tells is read as it was (plain): of a byte, a text, a float, a number, a value; whatever stands behind that is no digit.
-/
import Derived.Test.YtckmajcophpddaaDoorVRdB
set_option linter.unusedVariables false
set_option linter.unusedSimpArgs false
set_option maxRecDepth 100000
namespace Go.Proofs.YtckmajcophpddaaDoor
open Go.RowKit

theorem bk_pre_ne {a b : UInt8} (l p : List UInt8) (h : a ≠ b) : Lib.hasPrefix (a :: l) (b :: p) = false := by
  unfold Lib.hasPrefix
  have e : (b == a) = false := by rw [beq_eq_false_iff_ne]; exact fun e => h e.symm
  simp [List.isPrefixOf, e]
theorem bk_pre (p m : List UInt8) : Lib.hasPrefix (p ++ m) p = true := List.isPrefixOf_iff_prefix.2 (List.prefix_append p m)
theorem bk_trim (p m : List UInt8) : Lib.trimPrefix (p ++ m) p = m := by
  unfold Lib.trimPrefix
  rw [if_pos (bk_pre p m), List.drop_left]
theorem bk_trim_no {l p : List UInt8} (h : Lib.hasPrefix l p = false) : Lib.trimPrefix l p = l := by
  unfold Lib.trimPrefix
  rw [h]
  rfl
theorem bk_code_all : ∀ n : Fin 256, codeC (UInt8.ofNat n.val) = true → codeOk hexE[n.val / 16]! hexE[n.val % 16]! = true ∧ UInt8.ofNat (codeN hexE[n.val / 16]! hexE[n.val % 16]!) = UInt8.ofNat n.val := by decide +kernel
theorem bk_code {c : UInt8} (h : codeC c = true) : codeOk hexE[c.toNat / 16]! hexE[c.toNat % 16]! = true ∧ UInt8.ofNat (codeN hexE[c.toNat / 16]! hexE[c.toNat % 16]!) = c := by
  have h1 := bk_code_all ⟨c.toNat, c.toNat_lt⟩
  simp only [UInt8.ofNat_toNat] at h1
  exact h1 h
theorem bk_mark_all : ∀ n : Fin 256, (markC (UInt8.ofNat n.val) = true → UInt8.ofNat n.val ≠ 120) ∧ (markC (UInt8.ofNat n.val) = false → UInt8.ofNat n.val ≠ 92 ∧ UInt8.ofNat n.val ≠ 34) := by decide +kernel
theorem bk_mark (c : UInt8) : (markC c = true → c ≠ 120) ∧ (markC c = false → c ≠ 92 ∧ c ≠ 34) := by
  have h1 := bk_mark_all ⟨c.toNat, c.toNat_lt⟩
  simpa only [UInt8.ofNat_toNat] using h1

theorem charR_put (c : UInt8) (m : List UInt8) : charR (escC c ++ m) = .ok (c, m) := by
  unfold escC
  cases hc : codeC c
  · rw [if_neg (by decide)]
    cases hk : markC c
    · rw [if_neg (by decide)]
      obtain ⟨n1, n2⟩ := (bk_mark c).2 hk
      have e1 : Lib.hasPrefix (c :: m) [92, 120] = false := bk_pre_ne _ _ n1
      have e2 : Lib.hasPrefix (c :: m) [92] = false := bk_pre_ne _ _ n1
      show charR (c :: m) = _
      unfold charR
      rw [e1, e2, bk_trim_no e2, plainR_cons, hc, hk]
      rfl
    · rw [if_pos rfl]
      have n1 := (bk_mark c).1 hk
      have e1 : Lib.hasPrefix (92 :: c :: m) [92, 120] = false := by
        unfold Lib.hasPrefix
        have e : ((120 : UInt8) == c) = false := by rw [beq_eq_false_iff_ne]; exact fun e => n1 e.symm
        simp [List.isPrefixOf, e]
      have e2 : Lib.hasPrefix (92 :: c :: m) [92] = true := bk_pre [92] (c :: m)
      have e3 : Lib.trimPrefix (92 :: c :: m) [92] = c :: m := bk_trim [92] (c :: m)
      show charR (92 :: c :: m) = _
      unfold charR
      rw [e1, e2, e3]
      show plainR true (c :: m) = _
      rw [plainR_cons, hc, hk]
      rfl
  · rw [if_pos rfl]
    obtain ⟨h1, h2⟩ := bk_code hc
    show charR ([92, 120] ++ (hexE[c.toNat / 16]! :: hexE[c.toNat % 16]! :: m)) = _
    unfold charR
    rw [bk_pre, bk_trim, if_pos rfl, codeR_two, if_pos h1, h2]

theorem escC_first (c : UInt8) (m : List UInt8) : Lib.hasPrefix (escC c ++ m) [34] = false := by
  unfold escC
  split
  · exact bk_pre_ne _ _ (by decide)
  · split
    · exact bk_pre_ne _ _ (by decide)
    · rename_i _ hk
      exact bk_pre_ne _ _ ((bk_mark c).2 (by simpa using hk)).2

theorem textR_put (m : List UInt8) : ∀ (d acc : List UInt8) (k : Nat), d.length ≤ k → textR k acc (escS d ++ [34] ++ m) = .ok (acc ++ d, m)
  | [], acc, k, _ => by
    have h : Lib.hasPrefix ([34] ++ m) [34] = true := bk_pre [34] m
    show textR k acc ([34] ++ m) = _
    rw [textR_end _ _ _ h, bk_trim, List.append_nil]
  | c :: d, acc, 0, h => by simp at h
  | c :: d, acc, k + 1, h => by
    have e : escS (c :: d) ++ [34] ++ m = escC c ++ (escS d ++ [34] ++ m) := by simp [escS]
    rw [e, textR_next _ _ _ (escC_first c _) (charR_put c _), textR_put m d (acc ++ [c]) k (by simpa using h)]
    simp

theorem hexK_digs (k c : Nat) : ∀ x ∈ hexK k c, digV x.toNat < 16 := by
  intro x hx
  obtain ⟨i, hi⟩ := List.mem_iff_getElem?.1 hx
  have hl : i < k := by
    have := (List.getElem?_eq_some_iff.1 hi).1
    rwa [hexK_length] at this
  rw [hexK_at k c i hl] at hi
  rw [← Option.some.inj hi, digV_dgt (Nat.mod_lt _ (by decide))]
  exact Nat.mod_lt _ (by decide)

theorem floatR_put {f : Nat} (m : List UInt8) (hf : f < 18446744073709551616) (hc : canonB f = f) : floatR (hexK 16 f ++ m) = .ok (f, m) := by
  have hl := hexK_length 16 f
  have e1 : (hexK 16 f ++ m).take 16 = hexK 16 f := by rw [List.take_append_of_le_length (by omega), List.take_of_length_le (by omega)]
  have e2 : (hexK 16 f ++ m).drop 16 = m := by rw [List.drop_append_of_le_length (by omega), List.drop_of_length_le (by omega), List.nil_append]
  have h16 : (16 : Nat) ^ 16 = 18446744073709551616 := by decide
  have e3 : hexN (hexK 16 f) = f := hexN_hexK 16 f (by rw [h16]; exact hf)
  have e4 : parB (hexK 16 f) = (f, 0) := by
    unfold parB
    rw [if_pos ⟨hl, hexK_digs 16 f, by rw [e3]; exact hc⟩, e3]
  unfold floatR
  rw [e1, e2, e4]
  rfl

/-- Digits. -/
def isDig (c : UInt8) : Prop := 48 ≤ c.toNat ∧ c.toNat ≤ 57
theorem dig_of {d : Nat} (h : d < 10) : (UInt8.ofNat (48 + d)).toNat = 48 + d := by rw [UInt8.toNat_ofNat']; omega
theorem decD_digs : ∀ (u : Nat), ∀ x ∈ Lib.decDigits u, isDig x := by
  intro u
  induction u using Nat.strongRecOn with
  | _ u ih =>
    intro x hx
    by_cases h : u < 10
    · rw [decD_small h] at hx
      rw [List.mem_singleton.1 hx]
      unfold isDig
      rw [dig_of h]
      omega
    · rw [decD_big h] at hx
      rcases List.mem_append.1 hx with hx | hx
      · exact ih _ (by omega) x hx
      · rw [List.mem_singleton.1 hx]
        unfold isDig
        rw [dig_of (Nat.mod_lt _ (by decide))]
        omega
theorem decD_ne (u : Nat) : Lib.decDigits u ≠ [] := by
  by_cases h : u < 10
  · rw [decD_small h]; simp
  · rw [decD_big h]; simp
theorem parse_app : ∀ (l r : List UInt8) (acc v : Nat), Lib.parseUint10 acc l = .ok v → Lib.parseUint10 acc (l ++ r) = Lib.parseUint10 v r
  | [], r, acc, v, h => by
    simp only [Lib.parseUint10] at h
    cases h
    rfl
  | c :: l, r, acc, v, h => by
    simp only [Lib.parseUint10, List.cons_append] at h ⊢
    split at h
    · rename_i hc
      rw [if_pos hc]
      split at h
      · cases h
      · rename_i h1
        rw [if_neg h1]
        split at h
        · cases h
        · rename_i h2
          rw [if_neg h2]
          exact parse_app l r _ v h
    · cases h
theorem parse_decD : ∀ (u : Nat), u < 18446744073709551616 → Lib.parseUint10 0 (Lib.decDigits u) = .ok u := by
  intro u
  induction u using Nat.strongRecOn with
  | _ u ih =>
    intro hu
    by_cases h : u < 10
    · rw [decD_small h]
      simp only [Lib.parseUint10, dig_of h]
      rw [if_pos (by omega), if_neg (by omega), if_neg (by omega)]
      congr 1
      omega
    · rw [decD_big h, parse_app _ _ _ _ (ih (u / 10) (by omega) (by omega))]
      simp only [Lib.parseUint10, dig_of (Nat.mod_lt u (by decide : 0 < 10))]
      rw [if_pos (by omega), if_neg (by omega), if_neg (by omega)]
      congr 1
      omega
theorem mag_decD {u : Nat} (h : u < 18446744073709551616) : Lib.parseMag (Lib.decDigits u) = .ok u := by
  unfold Lib.parseMag
  rw [if_neg (decD_ne u)]
  exact parse_decD u h
theorem atoi_itoa {n : Int} (h1 : -9223372036854775808 ≤ n) (h2 : n ≤ 9223372036854775807) : Lib.atoiAll (Lib.itoa n) = .ok n := by
  unfold Lib.itoa
  by_cases hn : n < 0
  · rw [if_pos hn, Lib.atoiAll_minus, mag_decD (by omega)]
    unfold Lib.signed
    simp only
    rw [if_neg (by omega)]
    congr 1
    omega
  · rw [if_neg hn]
    rcases hd : Lib.decDigits n.toNat with _ | ⟨c, r⟩
    · exact absurd hd (decD_ne _)
    · have hc : isDig c := decD_digs n.toNat c (by rw [hd]; simp)
      unfold isDig at hc
      rw [Lib.atoiAll_plain c r (by omega) (by omega), ← hd, mag_decD (by omega)]
      unfold Lib.signless
      simp only
      rw [if_neg (by omega)]
      congr 1
      omega

/-- What stands behind begins with no digit. -/
def NoDig (m : List UInt8) : Prop := ∀ c r, m = c :: r → ¬ isDig c
theorem digs_has : ∀ n : Fin 256, (digs.contains (UInt8.ofNat n.val) = true ↔ 48 ≤ n.val ∧ n.val ≤ 57) := by decide +kernel
theorem digs_iff (c : UInt8) : digs.contains c = true ↔ isDig c := by
  have h := digs_has ⟨c.toNat, c.toNat_lt⟩
  unfold isDig
  simpa only [UInt8.ofNat_toNat] using h
theorem trim_digs {l m : List UInt8} (hl : ∀ x ∈ l, isDig x) (hm : NoDig m) : Lib.trimLeftS (l ++ m) digs = m := by
  unfold Lib.trimLeftS
  induction l with
  | nil =>
    rcases m with _ | ⟨c, r⟩
    · rfl
    · have h : digs.contains c = false := by
        cases hc : digs.contains c
        · rfl
        · exact absurd ((digs_iff c).1 hc) (hm c r rfl)
      show List.dropWhile _ (c :: r) = _
      rw [List.dropWhile_cons, if_neg (by rw [h]; decide)]
  | cons c l ih =>
    have h : digs.contains c = true := (digs_iff c).2 (hl c (by simp))
    rw [List.cons_append, List.dropWhile_cons, if_pos h]
    exact ih fun x hx => hl x (by simp [hx])
theorem wholeN_put {n : Int} {m : List UInt8} (hm : NoDig m) : wholeN (Lib.itoa n ++ m) = (Lib.itoa n).length := by
  unfold wholeN Lib.itoa
  by_cases hn : n < 0
  · rw [if_pos hn]
    have e : Lib.trimPrefix (45 :: Lib.decDigits n.natAbs ++ m) [45] = Lib.decDigits n.natAbs ++ m := bk_trim [45] (Lib.decDigits n.natAbs ++ m)
    rw [e, trim_digs (decD_digs _) hm]
    simp
    omega
  · rw [if_neg hn]
    rcases hd : Lib.decDigits n.toNat with _ | ⟨c, r⟩
    · exact absurd hd (decD_ne _)
    · have hc : isDig c := decD_digs n.toNat c (by rw [hd]; simp)
      have h45 : c ≠ 45 := by
        rintro rfl
        unfold isDig at hc
        revert hc
        decide
      have e : Lib.trimPrefix ((c :: r) ++ m) [45] = (c :: r) ++ m := bk_trim_no (bk_pre_ne _ _ h45)
      rw [e, ← hd, trim_digs (decD_digs _) hm]
      simp
theorem wholeR_put {n : Int} {m : List UInt8} (h1 : -9223372036854775808 ≤ n) (h2 : n ≤ 9223372036854775807) (hm : NoDig m) : wholeR (Lib.itoa n ++ m) = .ok (n, m) := by
  have e := wholeN_put (n := n) hm
  have e1 : (Lib.itoa n ++ m).take (wholeN (Lib.itoa n ++ m)) = Lib.itoa n := by rw [e, List.take_append_of_le_length (Nat.le_refl _), List.take_of_length_le (Nat.le_refl _)]
  have e2 : (Lib.itoa n ++ m).drop (wholeN (Lib.itoa n ++ m)) = m := by rw [e, List.drop_left]
  have e3 : Lib.atoiAll ((Lib.itoa n ++ m).take (wholeN (Lib.itoa n ++ m))) = .ok n := by rw [e1]; exact atoi_itoa h1 h2
  rw [wholeR_ok e3, e1, if_pos rfl, e2]

/-- What may stand behind an atom. -/
def Behind (a : At) (m : List UInt8) : Prop := a.k = 2 → NoDig m ∧ (a.n = 0 → ∀ r, m ≠ 102 :: r)

theorem itoa_first {n : Int} (m : List UInt8) (b : UInt8) (p : List UInt8) (hb : ¬ isDig b) (h45 : b ≠ 45) : Lib.hasPrefix (Lib.itoa n ++ m) (b :: p) = false := by
  unfold Lib.itoa
  by_cases hn : n < 0
  · rw [if_pos hn]
    exact bk_pre_ne _ _ (Ne.symm h45)
  · rw [if_neg hn]
    rcases hd : Lib.decDigits n.toNat with _ | ⟨c, r⟩
    · exact absurd hd (decD_ne _)
    · have hc : isDig c := decD_digs n.toNat c (by rw [hd]; simp)
      exact bk_pre_ne _ _ fun e => hb (e ▸ hc)
theorem decD_zero_first : ∀ (u : Nat) (r : List UInt8), Lib.decDigits u = 48 :: r → u = 0 ∧ r = [] := by
  intro u
  induction u using Nat.strongRecOn with
  | _ u ih =>
    intro r h
    by_cases h10 : u < 10
    · rw [decD_small h10] at h
      obtain ⟨h1, h2⟩ := List.cons.inj h
      have := congrArg UInt8.toNat h1
      rw [dig_of h10] at this
      have e : (48 : UInt8).toNat = 48 := rfl
      exact ⟨by omega, h2.symm⟩
    · rw [decD_big h10] at h
      rcases hd : Lib.decDigits (u / 10) with _ | ⟨c, r'⟩
      · exact absurd hd (decD_ne _)
      · rw [hd, List.cons_append] at h
        obtain ⟨rfl, _⟩ := List.cons.inj h
        have := (ih (u / 10) (by omega) r' hd).1
        omega
theorem itoa_zerof {n : Int} {m : List UInt8} (h : n = 0 → ∀ r, m ≠ 102 :: r) : Lib.hasPrefix (Lib.itoa n ++ m) [48, 102] = false := by
  unfold Lib.itoa
  by_cases hn : n < 0
  · rw [if_pos hn]
    exact bk_pre_ne _ _ (by decide)
  · rw [if_neg hn]
    rcases hd : Lib.decDigits n.toNat with _ | ⟨c, r⟩
    · exact absurd hd (decD_ne _)
    · by_cases hc : c = 48
      · subst hc
        obtain ⟨h0, rfl⟩ := decD_zero_first _ _ hd
        have hn0 : n = 0 := by omega
        rcases m with _ | ⟨d, m⟩
        · rfl
        · have hd2 : d ≠ 102 := fun e => h hn0 m (by rw [e])
          unfold Lib.hasPrefix
          have e : ((102 : UInt8) == d) = false := by rw [beq_eq_false_iff_ne]; exact fun e => hd2 e.symm
          simp [List.isPrefixOf, e]
      · exact bk_pre_ne _ _ hc

theorem empty_of {s : ByteArray} (h : s.toList.isEmpty = true) : s = ⟨#[]⟩ := by
  rw [ByteArray.toList_eq] at h
  apply ByteArray.ext
  apply Array.ext'
  simpa using h

/-- AN ATOM THAT IS VALID IS READ AS IT WAS. -/
theorem atomR_put {a : At} (hv : a.valid = true) (hok : a.Ok) {m : List UInt8} (hm : Behind a m) : atomR (prAt a ++ m) = .ok (a, m) := by
  obtain ⟨k, n, f, s⟩ := a
  have hv' : validA k n f s = true := hv
  have n1 : -9223372036854775808 ≤ n := hok.n1
  have n2 : n ≤ 9223372036854775807 := hok.n2
  have f1 : f < 18446744073709551616 := hok.f1
  have hcase : k = 0 ∨ k = 1 ∨ k = 2 ∨ k = 3 ∨ k = 4 ∨ k = 5 := by
    by_cases h0 : k = 0; · exact .inl h0
    by_cases h1 : k = 1; · exact .inr (.inl h1)
    by_cases h2 : k = 2; · exact .inr (.inr (.inl h2))
    by_cases h3 : k = 3; · exact .inr (.inr (.inr (.inl h3)))
    by_cases h4 : k = 4; · exact .inr (.inr (.inr (.inr (.inl h4))))
    by_cases h5 : k = 5; · exact .inr (.inr (.inr (.inr (.inr h5))))
    rw [validA_no2 n f s h0 h1 h2 h3 h4 h5] at hv'
    cases hv'
  rcases hcase with rfl | rfl | rfl | rfl | rfl | rfl
  · have h : (n == 0 && (f : Int) == 0 && s.toList.isEmpty) = true := hv'
    simp only [Bool.and_eq_true, beq_iff_eq] at h
    obtain ⟨⟨rfl, h2⟩, h3⟩ := h
    obtain rfl : f = 0 := by omega
    obtain rfl := empty_of h3
    show atomR ([110, 117, 108, 108] ++ m) = _
    unfold atomR
    rw [bk_pre, bk_trim, if_pos rfl]
  · have h : ((n == 0 || n == 1) && (f : Int) == 0 && s.toList.isEmpty) = true := hv'
    simp only [Bool.and_eq_true, Bool.or_eq_true, beq_iff_eq] at h
    obtain ⟨⟨h1, h2⟩, h3⟩ := h
    obtain rfl : f = 0 := by omega
    obtain rfl := empty_of h3
    rcases h1 with rfl | rfl
    · show atomR ([102, 97, 108, 115, 101] ++ m) = _
      unfold atomR
      rw [show Lib.hasPrefix ([102, 97, 108, 115, 101] ++ m) [110, 117, 108, 108] = false from bk_pre_ne _ _ (by decide), if_neg (by decide), bk_pre, bk_trim, if_pos rfl]
    · show atomR ([116, 114, 117, 101] ++ m) = _
      unfold atomR
      rw [show Lib.hasPrefix ([116, 114, 117, 101] ++ m) [110, 117, 108, 108] = false from bk_pre_ne _ _ (by decide), if_neg (by decide), show Lib.hasPrefix ([116, 114, 117, 101] ++ m) [102, 97, 108, 115, 101] = false from bk_pre_ne _ _ (by decide), if_neg (by decide), bk_pre, bk_trim, if_pos rfl]
  · have h : ((f : Int) == 0 && s.toList.isEmpty) = true := hv'
    simp only [Bool.and_eq_true, beq_iff_eq] at h
    obtain ⟨h2, h3⟩ := h
    obtain rfl : f = 0 := by omega
    obtain rfl := empty_of h3
    obtain ⟨hd, hz⟩ := hm rfl
    show atomR (Lib.itoa n ++ m) = _
    unfold atomR
    rw [itoa_first m 110 _ (by unfold isDig; decide) (by decide), if_neg (by decide), itoa_first m 102 _ (by unfold isDig; decide) (by decide), if_neg (by decide), itoa_first m 116 _ (by unfold isDig; decide) (by decide), if_neg (by decide),
      itoa_zerof hz, if_neg (by decide), itoa_first m 34 _ (by unfold isDig; decide) (by decide), if_neg (by decide), itoa_first m 120 _ (by unfold isDig; decide) (by decide), if_neg (by decide), wholeR_put n1 n2 hd]
    rfl
  · have h : (n == 0 && canonT f && s.toList.isEmpty) = true := hv'
    simp only [Bool.and_eq_true, beq_iff_eq] at h
    obtain ⟨⟨rfl, h2⟩, h3⟩ := h
    obtain rfl := empty_of h3
    have hc : canonB f = f := by
      have h4 : ((canonB f : Nat) : Int) = (f : Int) := by simpa [canonT] using h2
      omega
    have e : prAt ⟨3, 0, f, ⟨#[]⟩⟩ ++ m = [48, 102] ++ (hexK 16 f ++ m) := by simp [prAt, prA, hexS, hc]
    rw [e]
    unfold atomR
    rw [show Lib.hasPrefix ([48, 102] ++ (hexK 16 f ++ m)) [110, 117, 108, 108] = false from bk_pre_ne _ _ (by decide), if_neg (by decide), show Lib.hasPrefix ([48, 102] ++ (hexK 16 f ++ m)) [102, 97, 108, 115, 101] = false from bk_pre_ne _ _ (by decide), if_neg (by decide),
      show Lib.hasPrefix ([48, 102] ++ (hexK 16 f ++ m)) [116, 114, 117, 101] = false from bk_pre_ne _ _ (by decide), if_neg (by decide), bk_pre, bk_trim, if_pos rfl, floatR_put m f1 hc]
    rfl
  · have h : (n == 0 && (f : Int) == 0 && decide (s.size ≤ 256)) = true := hv'
    simp only [Bool.and_eq_true, beq_iff_eq, decide_eq_true_eq] at h
    obtain ⟨⟨rfl, h2⟩, h3⟩ := h
    obtain rfl : f = 0 := by omega
    have e : prAt ⟨4, 0, 0, s⟩ ++ m = [34] ++ (escS s.data.toList ++ [34] ++ m) := by simp [prAt, prA]
    rw [e]
    unfold atomR
    rw [show Lib.hasPrefix ([34] ++ (escS s.data.toList ++ [34] ++ m)) [110, 117, 108, 108] = false from bk_pre_ne _ _ (by decide), if_neg (by decide), show Lib.hasPrefix ([34] ++ (escS s.data.toList ++ [34] ++ m)) [102, 97, 108, 115, 101] = false from bk_pre_ne _ _ (by decide), if_neg (by decide),
      show Lib.hasPrefix ([34] ++ (escS s.data.toList ++ [34] ++ m)) [116, 114, 117, 101] = false from bk_pre_ne _ _ (by decide), if_neg (by decide), show Lib.hasPrefix ([34] ++ (escS s.data.toList ++ [34] ++ m)) [48, 102] = false from bk_pre_ne _ _ (by decide), if_neg (by decide),
      bk_pre, bk_trim, if_pos rfl, textR_put m _ [] 256 h3]
    rfl
  · have h : (n == 0 && (f : Int) == 0 && decide (s.size ≤ 256)) = true := hv'
    simp only [Bool.and_eq_true, beq_iff_eq, decide_eq_true_eq] at h
    obtain ⟨⟨rfl, h2⟩, h3⟩ := h
    obtain rfl : f = 0 := by omega
    have e : prAt ⟨5, 0, 0, s⟩ ++ m = [120, 34] ++ (escS s.data.toList ++ [34] ++ m) := by simp [prAt, prA]
    rw [e]
    unfold atomR
    rw [show Lib.hasPrefix ([120, 34] ++ (escS s.data.toList ++ [34] ++ m)) [110, 117, 108, 108] = false from bk_pre_ne _ _ (by decide), if_neg (by decide), show Lib.hasPrefix ([120, 34] ++ (escS s.data.toList ++ [34] ++ m)) [102, 97, 108, 115, 101] = false from bk_pre_ne _ _ (by decide), if_neg (by decide),
      show Lib.hasPrefix ([120, 34] ++ (escS s.data.toList ++ [34] ++ m)) [116, 114, 117, 101] = false from bk_pre_ne _ _ (by decide), if_neg (by decide), show Lib.hasPrefix ([120, 34] ++ (escS s.data.toList ++ [34] ++ m)) [48, 102] = false from bk_pre_ne _ _ (by decide), if_neg (by decide),
      show Lib.hasPrefix ([120, 34] ++ (escS s.data.toList ++ [34] ++ m)) [34] = false from bk_pre_ne _ _ (by decide), if_neg (by decide), bk_pre, bk_trim, if_pos rfl, textR_put m _ [] 256 h3]
    rfl

theorem behind_sep (a : At) (b : UInt8) (m : List UInt8) (hb : b = 44 ∨ b = 93) : Behind a (b :: m) := by
  intro _
  refine ⟨fun c r h => ?_, fun _ r h => ?_⟩
  · obtain ⟨rfl, _⟩ := List.cons.inj h
    unfold isDig
    rcases hb with rfl | rfl <;> decide
  · obtain ⟨h1, _⟩ := List.cons.inj h
    rcases hb with rfl | rfl <;> exact absurd h1 (by decide)

theorem listR_put (m : List UInt8) : ∀ (d : List At) (acc : List At) (k : Nat), d ≠ [] → d.length ≤ k → (∀ a ∈ d, a.valid = true ∧ a.Ok) → listR k acc (Lib.join (d.map prAt) [44, 32] ++ [93] ++ m) = .ok (acc ++ d, m)
  | [], _, _, h, _, _ => absurd rfl h
  | [a], acc, 0, _, h, _ => by simp at h
  | [a], acc, k + 1, _, _, hv => by
    obtain ⟨h1, h2⟩ := hv a (by simp)
    have e : Lib.join ([a].map prAt) [44, 32] ++ [93] ++ m = prAt a ++ ([93] ++ m) := by simp [Lib.join_one]
    have hh : listR (k + 1) acc (prAt a ++ ([93] ++ m)) = .ok (acc ++ [a], Lib.trimPrefix ([93] ++ m) [93]) := listR_end k acc (atomR_put h1 h2 (behind_sep a 93 m (.inr rfl))) (bk_pre [93] m)
    rw [e, hh, bk_trim]
  | a :: b :: d, acc, 0, _, h, _ => by simp at h
  | a :: b :: d, acc, k + 1, _, h, hv => by
    obtain ⟨h1, h2⟩ := hv a (by simp)
    have e : Lib.join ((a :: b :: d).map prAt) [44, 32] ++ [93] ++ m = prAt a ++ ([44, 32] ++ (Lib.join ((b :: d).map prAt) [44, 32] ++ [93] ++ m)) := by
      simp only [List.map_cons, join_more]
      simp [List.append_assoc]
    have hh : listR (k + 1) acc (prAt a ++ ([44, 32] ++ (Lib.join ((b :: d).map prAt) [44, 32] ++ [93] ++ m))) = listR k (acc ++ [a]) (Lib.trimPrefix ([44, 32] ++ (Lib.join ((b :: d).map prAt) [44, 32] ++ [93] ++ m)) [44, 32]) :=
      listR_next k acc (atomR_put h1 h2 (behind_sep a 44 _ (.inl rfl))) (bk_pre_ne _ _ (by decide)) (bk_pre [44, 32] _)
    rw [e, hh, bk_trim, listR_put m (b :: d) (acc ++ [a]) k (by simp) (by simpa using h) fun x hx => hv x (by simp at hx ⊢; right; exact hx)]
    simp

theorem prAt_first {a : At} (hv : a.valid = true) (hok : a.Ok) (m : List UInt8) : Lib.hasPrefix (prAt a ++ m) [91] = false ∧ Lib.hasPrefix (prAt a ++ m) [93] = false := by
  have key : ∀ b : UInt8, b = 91 ∨ b = 93 → Lib.hasPrefix (prAt a ++ m) [b] = false := by
    intro b hb
    obtain ⟨k, n, f, s⟩ := a
    have hn : ¬ isDig b ∧ b ≠ 45 ∧ (110 : UInt8) ≠ b ∧ (102 : UInt8) ≠ b ∧ (116 : UInt8) ≠ b ∧ (48 : UInt8) ≠ b ∧ (120 : UInt8) ≠ b ∧ (34 : UInt8) ≠ b := by
      unfold isDig
      rcases hb with rfl | rfl <;> decide
    obtain ⟨b1, b2, b3, b4, b5, b6, b7, b8⟩ := hn
    show Lib.hasPrefix (prA k n f s ++ m) [b] = false
    unfold prA
    split
    · exact bk_pre_ne _ _ b3
    split
    · split
      · exact bk_pre_ne _ _ b4
      · exact bk_pre_ne _ _ b5
    split
    · exact itoa_first m b [] b1 b2
    split
    · exact bk_pre_ne _ _ b6
    split
    · exact bk_pre_ne _ _ b7
    · exact bk_pre_ne _ _ b8
  exact ⟨key 91 (.inl rfl), key 93 (.inr rfl)⟩

/-- WHAT PRINT TELLS OF A VALUE IS READ AS IT WAS. -/
theorem valueR_put {a : At} {l : List At} (hv : validV a l = true) (hok : a.Ok) (hl : ∀ x ∈ l, x.Ok) {m : List UInt8} (hm : a.k ≠ 6 → Behind a m) : valueR (prV a l ++ m) = .ok ((a, l), m) := by
  by_cases h6 : a.k = 6
  · obtain ⟨h16, hall⟩ := valid_of_list hv h6
    have ha : a = ⟨6, 0, 0, ⟨#[]⟩⟩ := by
      have h := hv
      unfold validV at h
      rw [if_pos h6] at h
      simp only [Bool.and_eq_true] at h
      have h0 : (a.n == 0 && (a.f : Int) == 0 && a.s.toList.isEmpty) = true := h.1
      simp only [Bool.and_eq_true, beq_iff_eq] at h0
      obtain ⟨⟨e1, e2⟩, e3⟩ := h0
      obtain ⟨k, n, f, s⟩ := a
      obtain rfl : k = 6 := h6
      obtain rfl : n = 0 := e1
      obtain rfl : f = 0 := by have : (f : Int) = 0 := e2; omega
      obtain rfl := empty_of e3
      rfl
    have e : prV a l ++ m = [91] ++ (prL l ++ [93] ++ m) := by
      unfold prV
      rw [if_pos hv, if_pos h6]
      simp [List.append_assoc]
    rw [e]
    unfold valueR
    rw [bk_pre, bk_trim, if_pos rfl]
    have hls : listsR (prL l ++ [93] ++ m) = .ok (l, m) := by
      unfold listsR prL
      rcases l with _ | ⟨b, d⟩
      · have h : Lib.hasPrefix ([93] ++ m) [93] = true := bk_pre [93] m
        show (if Lib.hasPrefix ([93] ++ m) [93] = true then _ else _) = _
        rw [if_pos h]
        show Except.ok ([], Lib.trimPrefix ([93] ++ m) [93]) = _
        rw [bk_trim]
      · have hb := hall b (by simp)
        have hbo := hl b (by simp)
        have hfirst : Lib.hasPrefix (Lib.join ((b :: d).map prAt) [44, 32] ++ [93] ++ m) [93] = false := by
          rw [List.map_cons, Lib.join_cons, List.append_assoc, List.append_assoc]
          exact (prAt_first hb hbo _).2
        rw [if_neg (by rw [hfirst]; decide), listR_put m (b :: d) [] 16 (by simp) (by omega) fun x hx => ⟨hall x hx, hl x hx⟩]
        rfl
    rw [hls, ha]
    rfl
  · have hav := valid_of_one hv h6
    have hln : l = [] := by
      have h := hv
      unfold validV at h
      rw [if_neg h6] at h
      simp only [Bool.and_eq_true, beq_iff_eq] at h
      exact List.eq_nil_of_length_eq_zero (by omega)
    subst hln
    have e : prV a [] ++ m = prAt a ++ m := by
      unfold prV
      rw [if_pos hv, if_neg h6]
    rw [e]
    unfold valueR
    rw [(prAt_first hav hok m).1, if_neg (by decide), atomR_put hav hok (hm h6)]
    rfl

end Go.Proofs.YtckmajcophpddaaDoor
