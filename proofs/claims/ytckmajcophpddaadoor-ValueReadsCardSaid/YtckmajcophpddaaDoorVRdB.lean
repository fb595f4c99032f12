/-
  What Read reads is what Print tells (plain): of a byte, a text, a float, a number.
-/
import Derived.Test.YtckmajcophpddaaDoorVRdV
import Derived.Test.YtckmajcophpddaaDoorVPrV
set_option linter.unusedVariables false
set_option linter.unusedSimpArgs false
set_option maxRecDepth 100000
namespace Go.Proofs.YtckmajcophpddaaDoor
open Go.RowKit

theorem pre_split {l p : List UInt8} (h : Lib.hasPrefix l p = true) : l = p ++ Lib.trimPrefix l p := by
  have h1 := h
  unfold Lib.hasPrefix at h
  obtain ⟨t, ht⟩ := List.isPrefixOf_iff_prefix.1 h
  unfold Lib.trimPrefix
  rw [if_pos h1, ← ht, List.drop_left]
theorem idx_back_all : ∀ n : Fin 256, 0 ≤ Lib.indexByte hexE (UInt8.ofNat n.val) → hexE[(Lib.indexByte hexE (UInt8.ofNat n.val)).toNat]! = UInt8.ofNat n.val := by decide +kernel
theorem idx_back {x : UInt8} (h : 0 ≤ Lib.indexByte hexE x) : hexE[(Lib.indexByte hexE x).toNat]! = x := by
  have h1 := idx_back_all ⟨x.toNat, x.toNat_lt⟩
  simp only [UInt8.ofNat_toNat] at h1
  exact h1 h
theorem codeR_back {l m : List UInt8} {c : UInt8} (h : codeR l = .ok (c, m)) : l = [hexE[c.toNat / 16]!, hexE[c.toNat % 16]!] ++ m ∧ codeC c = true := by
  rcases l with _ | ⟨x, _ | ⟨y, k⟩⟩
  · cases h
  · cases h
  · rw [codeR_two] at h
    split at h
    · rename_i ho
      cases h
      unfold codeOk at ho
      simp only [Bool.and_eq_true, decide_eq_true_eq] at ho
      obtain ⟨⟨h1, h2⟩, h3⟩ := ho
      have e1 := idx_le x
      have e2 := idx_le y
      have hn : (UInt8.ofNat (codeN x y)).toNat = (Lib.indexByte hexE x).toNat * 16 + (Lib.indexByte hexE y).toNat := by
        rw [UInt8.toNat_ofNat']
        unfold codeN
        omega
      refine ⟨?_, h3⟩
      rw [hn, show ((Lib.indexByte hexE x).toNat * 16 + (Lib.indexByte hexE y).toNat) / 16 = (Lib.indexByte hexE x).toNat by omega, show ((Lib.indexByte hexE x).toNat * 16 + (Lib.indexByte hexE y).toNat) % 16 = (Lib.indexByte hexE y).toNat by omega, idx_back h1, idx_back h2]
      rfl
    · cases h
theorem charR_back {l m : List UInt8} {c : UInt8} (h : charR l = .ok (c, m)) : l = escC c ++ m := by
  unfold charR at h
  split at h
  · rename_i hp
    obtain ⟨h1, h2⟩ := codeR_back h
    rw [pre_split hp, h1]
    unfold escC
    rw [if_pos h2]
    rfl
  · have hs : Lib.hasPrefix l [92] = false → Lib.trimPrefix l [92] = l := fun e => by unfold Lib.trimPrefix; rw [e]; rfl
    rcases ht : Lib.trimPrefix l [92] with _ | ⟨d, k⟩
    · rw [ht] at h; cases h
    · rw [ht, plainR_cons] at h
      split at h
      · cases h
      · rename_i ho
        cases h
        simp only [Bool.or_eq_true, not_or, Bool.not_eq_true] at ho
        obtain ⟨h1, h2⟩ := ho
        unfold escC
        rw [if_neg (by rw [h1]; decide)]
        cases hq : Lib.hasPrefix l [92]
        · rw [hq] at h2
          have h3 : markC c = false := by simpa using h2
          rw [if_neg (by rw [h3]; decide), ← hs hq, ht]
          rfl
        · rw [hq] at h2
          have h3 : markC c = true := by simpa using h2
          rw [if_pos h3, pre_split hq, ht]
          rfl
theorem textR_back : ∀ (k : Nat) (acc l : List UInt8) {s m : List UInt8}, acc.length + k = 256 → textR k acc l = .ok (s, m) → s.length ≤ 256 ∧ ∃ d, s = acc ++ d ∧ l = escS d ++ [34] ++ m
  | k, acc, l, s, m, hk, h => by
    cases hp : Lib.hasPrefix l [34]
    · rcases hc : charR l with x | ⟨c, n⟩
      · rw [textR_bad _ _ _ hp hc] at h; cases h
      · rcases k with _ | k
        · rw [textR_big _ _ hp hc] at h; cases h
        · rw [textR_next _ _ _ hp hc] at h
          obtain ⟨h1, d, rfl, h2⟩ := textR_back k (acc ++ [c]) n (by simp; omega) h
          refine ⟨h1, c :: d, by simp, ?_⟩
          rw [charR_back hc, h2]
          simp [escS]
    · rw [textR_end _ _ _ hp] at h
      cases h
      exact ⟨by omega, [], by simp, by simpa [escS] using pre_split hp⟩
theorem wholeR_back {l m : List UInt8} {v : Int} (h : wholeR l = .ok (v, m)) : l = Lib.itoa v ++ m ∧ -9223372036854775808 ≤ v ∧ v ≤ 9223372036854775807 := by
  unfold wholeR at h
  split at h
  · rename_i u hu
    split at h
    · rename_i he
      cases h
      exact ⟨by rw [he]; exact (List.take_append_drop _ _).symm, atoiAll_fits hu⟩
    · cases h
  · cases h

theorem floatR_back {l m : List UInt8} {f : Nat} (h : floatR l = .ok (f, m)) : l = hexK 16 f ++ m ∧ canonB f = f ∧ f < 18446744073709551616 := by
  unfold floatR at h
  split at h
  · rename_i h0
    cases h
    unfold parB at h0 ⊢
    split at h0
    · rename_i hc
      obtain ⟨h1, h2, h3⟩ := hc
      rw [if_pos ⟨h1, h2, h3⟩]
      refine ⟨?_, h3, hexN_lt16 h2 (by omega)⟩
      show l = hexK 16 (hexN (l.take 16)) ++ l.drop 16
      rw [hexK_hexN 16 _ h1 h2]
      exact (List.take_append_drop _ _).symm
    · cases h0
  · cases h

theorem at_ok {k n : Int} {f : Nat} {s : ByteArray} (h0 : 0 ≤ k) (h6 : k ≤ 6) (n1 : -9223372036854775808 ≤ n) (n2 : n ≤ 9223372036854775807) (hf : f < 18446744073709551616) (hs : s.size ≤ 256) : At.Ok ⟨k, n, f, s⟩ :=
  ⟨by show _ ≤ k; omega, by show k ≤ _; omega, n1, n2, hf, by show s.size ≤ _; omega⟩
/-- What is read of an atom is Valid, and tells itself so. -/
theorem atomR_back {l m : List UInt8} {a : At} (h : atomR l = .ok (a, m)) : l = prAt a ++ m ∧ a.valid = true ∧ a.k ≠ 6 ∧ a.Ok := by
  unfold atomR at h
  split at h
  · rename_i hp; cases h
    exact ⟨pre_split hp, by simp [At.valid, validA, ByteArray.toList_eq], by decide, at_ok (by decide) (by decide) (by decide) (by decide) (by decide) (by decide)⟩
  split at h
  · rename_i hp; cases h
    exact ⟨pre_split hp, by simp [At.valid, validA, ByteArray.toList_eq], by decide, at_ok (by decide) (by decide) (by decide) (by decide) (by decide) (by decide)⟩
  split at h
  · rename_i hp; cases h
    exact ⟨pre_split hp, by simp [At.valid, validA, ByteArray.toList_eq], by decide, at_ok (by decide) (by decide) (by decide) (by decide) (by decide) (by decide)⟩
  split at h
  · rename_i hp
    rcases hc : floatR (Lib.trimPrefix l [48, 102]) with x | ⟨f, n⟩
    · rw [hc] at h; cases h
    · rw [hc] at h
      cases h
      obtain ⟨h1, h2, h3⟩ := floatR_back hc
      refine ⟨?_, ?_, (by show (3 : Int) ≠ 6; decide), at_ok (by decide) (by decide) (by decide) (by decide) h3 (by decide)⟩
      · rw [pre_split hp, h1]
        simp [prAt, prA, hexS, h2]
      · simp [At.valid, validA, canonT, h2, ByteArray.toList_eq]
  split at h
  · rename_i hp
    rcases hc : textR 256 [] (Lib.trimPrefix l [34]) with x | ⟨u, n⟩
    · rw [hc] at h; cases h
    · rw [hc] at h
      cases h
      obtain ⟨h1, d, h0, h2⟩ := textR_back 256 [] _ rfl hc
      obtain rfl : u = d := by simpa using h0
      refine ⟨?_, ?_, (by show (4 : Int) ≠ 6; decide), at_ok (by decide) (by decide) (by decide) (by decide) (by decide) (by rw [ba_size]; exact h1)⟩
      · rw [pre_split hp, h2]
        simp [prAt, prA]
      · simp [At.valid, validA, ba_size, h1]
  split at h
  · rename_i hp
    rcases hc : textR 256 [] (Lib.trimPrefix l [120, 34]) with x | ⟨u, n⟩
    · rw [hc] at h; cases h
    · rw [hc] at h
      cases h
      obtain ⟨h1, d, h0, h2⟩ := textR_back 256 [] _ rfl hc
      obtain rfl : u = d := by simpa using h0
      refine ⟨?_, ?_, (by show (5 : Int) ≠ 6; decide), at_ok (by decide) (by decide) (by decide) (by decide) (by decide) (by rw [ba_size]; exact h1)⟩
      · rw [pre_split hp, h2]
        simp [prAt, prA]
      · simp [At.valid, validA, ba_size, h1]
  · rcases hc : wholeR l with x | ⟨v, n⟩
    · rw [hc] at h; cases h
    · rw [hc] at h
      cases h
      obtain ⟨h1, h2, h3⟩ := wholeR_back hc
      refine ⟨?_, ?_, (by show (2 : Int) ≠ 6; decide), at_ok (by decide) (by decide) h2 h3 (by decide) (by decide)⟩
      · simpa [prAt, prA] using h1
      · simp [At.valid, validA, ByteArray.toList_eq]

theorem join_more (x y : List UInt8) (r : List (List UInt8)) (sep : List UInt8) : Lib.join (x :: y :: r) sep = x ++ sep ++ Lib.join (y :: r) sep := by
  rw [Lib.join_cons, Lib.join_cons]
  simp [Lib.joinTail, List.append_assoc]
theorem listR_back : ∀ (k : Nat) (acc : List At) (l : List UInt8) {ls : List At} {m : List UInt8}, acc.length + k = 16 → listR k acc l = .ok (ls, m) →
    ls.length ≤ 16 ∧ ∃ d, d ≠ [] ∧ ls = acc ++ d ∧ l = Lib.join (d.map prAt) [44, 32] ++ [93] ++ m ∧ ∀ a ∈ d, a.valid = true ∧ a.Ok
  | 0, _, _, _, _, _, h => by cases h
  | k + 1, acc, l, ls, m, hk, h => by
    rcases ha : atomR l with x | ⟨a, n⟩
    · rw [listR_bad _ _ ha] at h; cases h
    · obtain ⟨h1, h4, h5, h6⟩ := atomR_back ha
      cases h2 : Lib.hasPrefix n [93]
      · cases h3 : Lib.hasPrefix n [44, 32]
        · rw [listR_form _ _ ha h2 h3] at h; cases h
        · rw [listR_next _ _ ha h2 h3] at h
          obtain ⟨g1, d, hd, rfl, g2, g3⟩ := listR_back k (acc ++ [a]) _ (by simp; omega) h
          refine ⟨g1, a :: d, by simp, by simp, ?_, ?_⟩
          · rcases d with _ | ⟨e, d⟩
            · exact absurd rfl hd
            · rw [h1, pre_split h3, g2]
              simp only [List.map_cons, join_more]
              simp [List.append_assoc]
          · intro e he
            rcases List.mem_cons.1 he with rfl | he
            · exact ⟨h4, h6⟩
            · exact g3 e he
      · rw [listR_end _ _ ha h2] at h
        cases h
        refine ⟨by simp; omega, [a], by simp, rfl, ?_, ?_⟩
        · rw [h1]
          simpa [Lib.join_one] using pre_split h2
        · intro e he
          rw [List.mem_singleton.1 he]
          exact ⟨h4, h6⟩
/-- WHAT IS READ TELLS ITSELF SO: a Valid value, and the bytes that were read are its literal. -/
theorem valueR_back {l m : List UInt8} {a : At} {ls : List At} (h : valueR l = .ok ((a, ls), m)) : validV a ls = true ∧ l = prV a ls ++ m ∧ a.Ok ∧ (∀ e ∈ ls, e.Ok) ∧ ls.length ≤ 16 := by
  unfold valueR at h
  split at h
  · rename_i hp
    rcases hc : listsR (Lib.trimPrefix l [91]) with x | ⟨d, n⟩
    · rw [hc] at h; cases h
    · rw [hc] at h
      cases h
      have hk : d.length ≤ 16 ∧ (∀ e ∈ d, e.valid = true ∧ e.Ok) ∧ Lib.trimPrefix l [91] = prL d ++ [93] ++ n := by
        unfold listsR at hc
        split at hc
        · rename_i h93
          cases hc
          exact ⟨by simp, by simp, by simpa [prL, Lib.join_nil] using pre_split h93⟩
        · obtain ⟨g1, d', _, hd, g2, g3⟩ := listR_back 16 [] _ rfl hc
          obtain rfl : d = d' := by simpa using hd
          exact ⟨g1, g3, g2⟩
      obtain ⟨g1, g2, g3⟩ := hk
      have hv : validV ⟨6, 0, 0, ⟨#[]⟩⟩ d = true := by
        unfold validV
        rw [if_pos rfl]
        simp only [Bool.and_eq_true, decide_eq_true_eq, Bool.not_eq_true', List.any_eq_false]
        refine ⟨by simp [validA, ByteArray.toList_eq], by omega, fun e he => ?_⟩
        rw [(g2 e he).1]
        decide
      refine ⟨hv, ?_, at_ok (by decide) (by decide) (by decide) (by decide) (by decide) (by decide), fun e he => (g2 e he).2, g1⟩
      unfold prV
      rw [if_pos hv, if_pos rfl, pre_split hp, g3]
      simp [List.append_assoc]
  · rcases hc : atomR l with x | ⟨b, n⟩
    · rw [hc] at h; cases h
    · rw [hc] at h
      cases h
      obtain ⟨h1, h2, h3, h4⟩ := atomR_back hc
      have hv : validV b [] = true := by
        unfold validV
        rw [if_neg h3, h2]
        rfl
      refine ⟨hv, ?_, h4, by simp, by simp⟩
      unfold prV
      rw [if_pos hv, if_neg h3]
      exact h1

end Go.Proofs.YtckmajcophpddaaDoor
