/-
  The reference's reader: text: a contract for the walks.
-/
import Derived.Test.YtckmajcophpddaaDoorVRrA
import Derived.BigQuiet
set_option linter.unusedVariables false
set_option linter.unusedSimpArgs false
set_option maxRecDepth 100000
namespace Go.Proofs.YtckmajcophpddaaDoor
open Go.RowKit

theorem rr_plain_bad {c : UInt8} (m : List UInt8) (h92 : c ≠ 92) (hc : codeC c = true) : charR (c :: m) = .error 11 := by
  have e1 : Lib.hasPrefix (c :: m) [92, 120] = false := bk_pre_ne _ _ h92
  have e2 : Lib.hasPrefix (c :: m) [92] = false := bk_pre_ne _ _ h92
  unfold charR
  rw [e1, e2, bk_trim_no e2, if_neg (by decide), plainR_cons, hc]
  rfl
theorem rr_plain {c : UInt8} (m : List UInt8) (h92 : c ≠ 92) (h34 : c ≠ 34) (hc : codeC c = false) : charR (c :: m) = .ok (c, m) := by
  have hm : markC c = false := by
    cases hk : markC c
    · rfl
    · unfold markC at hk
      simp only [Bool.or_eq_true, decide_eq_true_eq] at hk
      rcases hk with hk | hk
      · exact absurd (UInt8.toNat_inj.1 (show c.toNat = (34 : UInt8).toNat by have : (34 : UInt8).toNat = 34 := rfl; omega)) h34
      · exact absurd (UInt8.toNat_inj.1 (show c.toNat = (92 : UInt8).toNat by have : (92 : UInt8).toNat = 92 := rfl; omega)) h92
  have h := charR_put c m
  unfold escC at h
  rw [hc, hm] at h
  exact h
theorem rr_mark {c : UInt8} (m : List UInt8) (h : c = 34 ∨ c = 92) : charR (92 :: c :: m) = .ok (c, m) := by
  rcases h with rfl | rfl
  · exact charR_put 34 m
  · exact charR_put 92 m
theorem rr_none : charR [92] = .error 11 := rfl
theorem rr_bad {c : UInt8} (m : List UInt8) (h34 : c ≠ 34) (h92 : c ≠ 92) (h120 : c ≠ 120) : charR (92 :: c :: m) = .error 11 := by
  have e1 : Lib.hasPrefix (92 :: c :: m) [92, 120] = false := by
    unfold Lib.hasPrefix
    have e : ((120 : UInt8) == c) = false := by rw [beq_eq_false_iff_ne]; exact fun e => h120 e.symm
    simp [List.isPrefixOf, e]
  have e2 : Lib.hasPrefix (92 :: c :: m) [92] = true := bk_pre [92] (c :: m)
  have e3 : Lib.trimPrefix (92 :: c :: m) [92] = c :: m := bk_trim [92] (c :: m)
  have hm : markC c = false := by
    cases hk : markC c
    · rfl
    · unfold markC at hk
      simp only [Bool.or_eq_true, decide_eq_true_eq] at hk
      rcases hk with hk | hk
      · exact absurd (UInt8.toNat_inj.1 (show c.toNat = (34 : UInt8).toNat by have : (34 : UInt8).toNat = 34 := rfl; omega)) h34
      · exact absurd (UInt8.toNat_inj.1 (show c.toNat = (92 : UInt8).toNat by have : (92 : UInt8).toNat = 92 := rfl; omega)) h92
  unfold charR
  rw [e1, e2, e3, if_neg (by decide), plainR_cons, hm]
  cases codeC c <;> rfl
theorem rr_code (x y : UInt8) (m : List UInt8) : charR (92 :: 120 :: x :: y :: m) = if codeOk x y then .ok (UInt8.ofNat (codeN x y), m) else .error 11 := by
  show charR ([92, 120] ++ (x :: y :: m)) = _
  unfold charR
  rw [bk_pre, bk_trim, if_pos rfl, codeR_two]
theorem rr_code_short (m : List UInt8) (h : m.length < 2) : charR (92 :: 120 :: m) = .error 11 := by
  show charR ([92, 120] ++ m) = _
  unfold charR
  rw [bk_pre, bk_trim, if_pos rfl]
  rcases m with _ | ⟨x, _ | ⟨y, r⟩⟩
  · rfl
  · rfl
  · simp at h
    omega
theorem rr_drop {s : ByteArray} {j : Nat} (h : j < s.size) : s.data.toList.drop j = s[j] :: s.data.toList.drop (j + 1) := List.drop_eq_getElem_cons h
theorem rr_u8 {c d : UInt8} (h : c ≠ d) : ¬ (c.toNat : Int) = (d.toNat : Int) := fun e => h (UInt8.toNat_inj.1 (by omega))

def TPost (w : World) (L : Nat) (e : Ending) (w' : World) : Except Int (List UInt8 × List UInt8) → Prop
  | .ok (a, m) => e = .returned (.tuple #[.string ⟨a.toArray⟩, .int .i64 ((L : Int) - (m.length : Int)), .int .i64 0]) ∧ Below w.heap.size w w'
  | .error x => e = .returned (.tuple #[.string ⟨#[]⟩, .int .i64 0, .int .i64 x]) ∧ Below w.heap.size w w'

set_option maxHeartbeats 8000000 in
theorem rtext_any {w : World} (s : ByteArray) (hs : s.size ≤ 281474976710656) (h1 : 1 ≤ s.size) :
    Calls Tryd.prog 25 #[.string s] w fun e w' => TPost w s.size e w' (textR 256 [] (s.data.toList.drop 1)) := by
  obtain ⟨X, hX⟩ : ∃ X, X = textR 256 [] (s.data.toList.drop 1) := ⟨_, rfl⟩
  rw [← hX]
  have HXX := Lib.hid hX
  clear hX
  go_enter Tryd.func25, Tryd.ntmps25
  go_wp2
  go_loopw [5, 6] (fun v i wr => ∃ (acc : List UInt8) (j k : Nat), i = .int .i64 (j : Int) ∧ 1 ≤ j ∧ j ≤ s.size ∧ Own wr w.heap.size v acc ∧ acc.length + k = 256 ∧ X = textR k acc (s.data.toList.drop j) ∧ Below w.heap.size w wr) (fun _ i _ => s.size - (intOf i).toNat)
  case atStart => exact ⟨[], 1, 256, rfl, by omega, h1, Own.nil _ _, rfl, HXX.out, Below.refl _ _⟩
  case round =>
    obtain ⟨acc, j, k, rfl, hj1, hj, ho, hk, hte, hb⟩ := hrel
    obtain ⟨n, hn⟩ : ∃ n, n = acc.length := ⟨_, rfl⟩
    obtain ⟨p, c0, rfl, hnc, hcm, hbs, hp0⟩ := ho.form hn
    have HO := Lib.hid ho
    have HTE := Lib.hid hte
    have HN := Lib.hid hn
    have HK := Lib.hid hk
    have HB := Lib.hid hb
    have HBS := Lib.hid hbs
    clear ho hk hte hb hn hp0 hbs
    have HLEN : Hid (s.data.toList.length = s.size) := Lib.hid rfl
    by_cases hjL : j = s.size
    · have HE : Hid (X = .error 11) := Lib.hid (by
        rw [HTE.out, List.drop_of_length_le (by rw [HLEN.out]; omega)]
        exact textR_bad _ _ _ rfl rfl)
      have d : ¬ (j : Int) < (s.size : Int) := by omega
      clear hjL
      go_wp2
      go_ret3
      rw [HE.out]
      exact ⟨rfl, HB.out⟩
    · have hlt : j < s.size := by omega
      have hd0 := rr_drop hlt
      have d : (j : Int) < (s.size : Int) := by omega
      have h255 := s[j].toNat_lt
      by_cases h34 : s[j] = 34
      · have HE : Hid (X = .ok (acc, s.data.toList.drop (j + 1))) := Lib.hid (by
          rw [HTE.out, hd0, h34]
          have h : Lib.hasPrefix (34 :: s.data.toList.drop (j + 1)) [34] = true := bk_pre [34] _
          rw [textR_end _ _ _ h]
          exact congrArg (fun x => Except.ok (acc, x)) (bk_trim [34] _))
        have q34 : (s[j].toNat : Int) = 34 := by rw [h34]; rfl
        have HL : Hid (((s.size : Int) - ((s.data.toList.drop (j + 1)).length : Int)) = (j : Int) + 1) := Lib.hid (by rw [List.length_drop, HLEN.out]; omega)
        have hstr := str_of (c := c0) HBS.out HN.out
        clear hd0 h34
        go_wp2
        go_ret3
        rw [HE.out]
        refine ⟨?_, HB.out⟩
        rw [HL.out]
        rfl
      · have HP34 : Hid (Lib.hasPrefix (s.data.toList.drop j) [34] = false) := Lib.hid (by rw [hd0]; exact bk_pre_ne _ _ h34)
        have q34 : ¬ (s[j].toNat : Int) = 34 := rr_u8 h34
        by_cases h92 : s[j] = 92
        · have q92 : (s[j].toNat : Int) = 92 := by rw [h92]; rfl
          by_cases hj1L : j + 1 < s.size
          · have hd1 := rr_drop hj1L
            have g1 : (j : Int) + 1 < (s.size : Int) := by omega
            have h255b := s[j + 1].toNat_lt
            by_cases hmk : s[j + 1] = 34 ∨ s[j + 1] = 92
            · have hch0 : charR (s.data.toList.drop j) = .ok (s[j + 1], s.data.toList.drop (j + 2)) := by rw [hd0, h92, hd1]; exact rr_mark _ hmk
              have qm : (s[j + 1].toNat : Int) = 34 ∨ (s[j + 1].toNat : Int) = 92 := by rcases hmk with h | h <;> rw [h]; exact .inl rfl; exact .inr rfl
              clear hd0 hd1 hmk h92 h34
              have bm : ((s[j + 1].toNat : Int) == 34) = true ∨ (((s[j + 1].toNat : Int) == 34) = false ∧ ((s[j + 1].toNat : Int) == 92) = true) := by rcases qm with h | h <;> rw [h] <;> decide
              clear qm
              rcases bm with bm | ⟨bm, bn⟩
              · have qm0 := bm
                have hch : charR (s.data.toList.drop j) = .ok (s[j + 1], s.data.toList.drop (j + 2)) := hch0
                rcases k with _ | k
                · have HE : Hid (X = .error 3) := Lib.hid (by rw [HTE.out]; exact textR_big _ _ HP34.out hch)
                  have h256 : n = 256 := by have := HK.out; have := HN.out; omega
                  subst h256
                  clear hch HP34
                  go_wp2
                  go_ret3
                  rw [HE.out]
                  first | exact ⟨rfl, HB.out⟩ | exact ⟨rfl, belowN HB.out _⟩
                · have HE : Hid (X = textR k (acc ++ [s[j + 1]]) (s.data.toList.drop (j + 2))) := Lib.hid (by rw [HTE.out]; exact textR_next _ _ _ HP34.out hch)
                  have h256 : ((n : Int) == 256) = false := by rw [beq_eq_false_iff_ne]; have := HK.out; have := HN.out; omega
                  have hn256 : ¬ (n : Int) = 256 := by have := HK.out; have := HN.out; omega
                  clear hch HP34
                  have HOX := HO
                  have HBX := HB
                  go_wp2_with (at_builtin; refine app_own rfl (.tmp 103) (.tmp 105) rfl rfl (HOX.out.alloc _) (m := [s[j + 1]]) rfl rfl (Bs.one _ _ _ rfl rfl) (fun h => by cases h) (by have := HK.out; simp; omega) (by have := HB.out.size; have := HBX.out.size; simp; omega) ?_; intro v1 w3 ho3 hb3; have HO3 := Lib.hid ho3; have HB3 := Lib.hid hb3; clear ho3 hb3)
                  have HB4 : Hid (Below w.heap.size w w3) := Lib.hid (HBX.out.trans (((Below.refl _ _).alloc HBX.out.size _).trans HB3.out))
                  obtain ⟨n2, hn2⟩ : ∃ n, n = (acc ++ [s[j + 1]]).length := ⟨_, rfl⟩
                  obtain ⟨p2, c2, rfl, _, _, _, _⟩ := HO3.out.form hn2
                  clear hn2
                  go_roundw
                  case rel => exact ⟨acc ++ [s[j + 1]], j + 2, k, by go_num, by omega, by omega, HO3.out, by have := HK.out; simp; omega, HE.out, HB4.out⟩
                  case measure => simp [intOf]; omega
              · have qm0 := bm
                have hch : charR (s.data.toList.drop j) = .ok (s[j + 1], s.data.toList.drop (j + 2)) := hch0
                rcases k with _ | k
                · have HE : Hid (X = .error 3) := Lib.hid (by rw [HTE.out]; exact textR_big _ _ HP34.out hch)
                  have h256 : n = 256 := by have := HK.out; have := HN.out; omega
                  subst h256
                  clear hch HP34
                  go_wp2
                  go_ret3
                  rw [HE.out]
                  first | exact ⟨rfl, HB.out⟩ | exact ⟨rfl, belowN HB.out _⟩
                · have HE : Hid (X = textR k (acc ++ [s[j + 1]]) (s.data.toList.drop (j + 2))) := Lib.hid (by rw [HTE.out]; exact textR_next _ _ _ HP34.out hch)
                  have h256 : ((n : Int) == 256) = false := by rw [beq_eq_false_iff_ne]; have := HK.out; have := HN.out; omega
                  have hn256 : ¬ (n : Int) = 256 := by have := HK.out; have := HN.out; omega
                  clear hch HP34
                  have HOX := HO
                  have HBX := HB
                  go_wp2_with (at_builtin; refine app_own rfl (.tmp 103) (.tmp 105) rfl rfl (HOX.out.alloc _) (m := [s[j + 1]]) rfl rfl (Bs.one _ _ _ rfl rfl) (fun h => by cases h) (by have := HK.out; simp; omega) (by have := HB.out.size; have := HBX.out.size; simp; omega) ?_; intro v1 w3 ho3 hb3; have HO3 := Lib.hid ho3; have HB3 := Lib.hid hb3; clear ho3 hb3)
                  have HB4 : Hid (Below w.heap.size w w3) := Lib.hid (HBX.out.trans (((Below.refl _ _).alloc HBX.out.size _).trans HB3.out))
                  obtain ⟨n2, hn2⟩ : ∃ n, n = (acc ++ [s[j + 1]]).length := ⟨_, rfl⟩
                  obtain ⟨p2, c2, rfl, _, _, _, _⟩ := HO3.out.form hn2
                  clear hn2
                  go_roundw
                  case rel => exact ⟨acc ++ [s[j + 1]], j + 2, k, by go_num, by omega, by omega, HO3.out, by have := HK.out; simp; omega, HE.out, HB4.out⟩
                  case measure => simp [intOf]; omega
            · have n34 : s[j + 1] ≠ 34 := fun e => hmk (.inl e)
              have n92 : s[j + 1] ≠ 92 := fun e => hmk (.inr e)
              have m34 : ¬ (s[j + 1].toNat : Int) = 34 := rr_u8 n34
              have m92 : ¬ (s[j + 1].toNat : Int) = 92 := rr_u8 n92
              have b34 : ((s[j + 1].toNat : Int) == 34) = false := by rw [beq_eq_false_iff_ne]; exact m34
              have b92 : ((s[j + 1].toNat : Int) == 92) = false := by rw [beq_eq_false_iff_ne]; exact m92
              by_cases h120 : s[j + 1] = 120
              · have q120 : (s[j + 1].toNat : Int) = 120 := by rw [h120]; rfl
                by_cases hj3 : j + 3 < s.size
                · have hd2 := rr_drop (s := s) (j := j + 2) (by omega)
                  have hd3 := rr_drop hj3
                  have g2 : (j : Int) + 2 < (s.size : Int) := by omega
                  have g3 : (j : Int) + 3 < (s.size : Int) := by omega
                  have g22 : j + 2 < s.size := by omega
                  have hcc : charR (s.data.toList.drop j) = if codeOk s[j + 2] s[j + 3] then .ok (UInt8.ofNat (codeN s[j + 2] s[j + 3]), s.data.toList.drop (j + 4)) else .error 11 := by rw [hd0, h92, hd1, h120, hd2, hd3]; exact rr_code _ _ _
                  have hix := idx_le s[j + 2]
                  have hiy := idx_le s[j + 3]
                  have hgx := Lib.indexByte_ge hexE s[j + 2]
                  have hgy := Lib.indexByte_ge hexE s[j + 3]
                  have HX : Hid (∀ w', Calls Tryd.prog 42 #[.int .u8 (s[j + 2].toNat : Int)] w' fun e w2 => e = .returned (.int .i64 (Lib.indexByte hexE s[j + 2])) ∧ w2 = w') := Lib.hid fun w' => hex_one _
                  have HY : Hid (∀ w', Calls Tryd.prog 42 #[.int .u8 (s[j + 3].toNat : Int)] w' fun e w2 => e = .returned (.int .i64 (Lib.indexByte hexE s[j + 3])) ∧ w2 = w') := Lib.hid fun w' => hex_one _
                  have hok : codeOk s[j + 2] s[j + 3] = (decide (0 ≤ Lib.indexByte hexE s[j + 2]) && decide (0 ≤ Lib.indexByte hexE s[j + 3]) && codeC (UInt8.ofNat (codeN s[j + 2] s[j + 3]))) := rfl
                  have hcn : codeN s[j + 2] s[j + 3] = (Lib.indexByte hexE s[j + 2]).toNat * 16 + (Lib.indexByte hexE s[j + 3]).toNat := rfl
                  generalize codeOk s[j + 2] s[j + 3] = ok at *
                  generalize codeN s[j + 2] s[j + 3] = cn at *
                  generalize Lib.indexByte hexE s[j + 2] = ix at *
                  generalize Lib.indexByte hexE s[j + 3] = iy at *
                  clear hd0 hd1 hd2 hd3 h92 h34 hmk n34 n92 h120
                  by_cases hx0 : 0 ≤ ix
                  · by_cases hy0 : 0 ≤ iy
                    · have hcl : cn < 256 := by omega
                      obtain ⟨c, hc⟩ : ∃ c, c = UInt8.ofNat cn := ⟨_, rfl⟩
                      have hct : c.toNat = cn := by rw [hc, UInt8.toNat_ofNat']; omega
                      rw [← hc] at hcc hok
                      have hsum : ix * 16 + iy = (c.toNat : Int) := by omega
                      have HS : Hid (ix * 16 + iy = (c.toNat : Int)) := Lib.hid hsum
                      have hc255 := c.toNat_lt
                      rw [decide_eq_true hx0, decide_eq_true hy0, Bool.true_and, Bool.true_and] at hok
                      rw [hok] at hcc
                      clear hok hc hct hsum hcn hcl hgx hgy
                      cases hcd : codeC c
                      · rw [hcd, if_neg (by decide)] at hcc
                        have HE : Hid (X = .error 11) := Lib.hid (by rw [HTE.out]; exact textR_bad _ _ _ HP34.out hcc)
                        have hr1 : (32 : Int) ≤ ix * 16 + iy ∧ ¬ 126 < ix * 16 + iy := by have hs2 := HS.out; unfold codeC at hcd; simp only [Bool.or_eq_false_iff, decide_eq_false_iff_not] at hcd; omega
                        obtain ⟨r1, r2⟩ := hr1
                        clear hcc hcd
                        go_wp2_with fail
                        (with_reducible refine (HX.out _).mono ?_); rintro e w5 ⟨rfl, rfl⟩
                        go_wp2_with fail
                        (with_reducible refine (HY.out _).mono ?_); rintro e w5 ⟨rfl, rfl⟩
                        go_wp2_with fail
                        go_quiet ((go_at_call 42; (first | (with_reducible exact Calls.quiet_of_same (HX.out _)) | (with_reducible exact Calls.quiet_of_same (HY.out _)))))
                        go_wp2
                        go_ret3
                        rw [HE.out]
                        exact ⟨rfl, belowN HB.out _⟩
                      · rw [hcd, if_pos rfl] at hcc
                        have hr1 : ¬ (32 : Int) ≤ ix * 16 + iy ∨ ((32 : Int) ≤ ix * 16 + iy ∧ 126 < ix * 16 + iy) := by have hs2 := HS.out; unfold codeC at hcd; simp only [Bool.or_eq_true, decide_eq_true_eq] at hcd; omega
                        have hch0 := hcc
                        clear hcc hcd
                        rcases hr1 with r1 | ⟨r1, r2⟩
                        · have r10 := r1
                          have hch : charR (s.data.toList.drop j) = .ok (c, s.data.toList.drop (j + 4)) := hch0
                          rcases k with _ | k
                          · have HE : Hid (X = .error 3) := Lib.hid (by rw [HTE.out]; exact textR_big _ _ HP34.out hch)
                            have h256 : n = 256 := by have := HK.out; have := HN.out; omega
                            subst h256
                            clear hch HP34
                            go_wp2_with fail
                            (with_reducible refine (HX.out _).mono ?_); rintro e w5 ⟨rfl, rfl⟩
                            go_wp2_with fail
                            (with_reducible refine (HY.out _).mono ?_); rintro e w5 ⟨rfl, rfl⟩
                            go_wp2_with fail
                            go_quiet ((go_at_call 42; (first | (with_reducible exact Calls.quiet_of_same (HX.out _)) | (with_reducible exact Calls.quiet_of_same (HY.out _)))))
                            go_wp2
                            go_ret3
                            rw [HE.out]
                            first | exact ⟨rfl, HB.out⟩ | exact ⟨rfl, belowN HB.out _⟩
                          · have HE : Hid (X = textR k (acc ++ [c]) (s.data.toList.drop (j + 4))) := Lib.hid (by rw [HTE.out]; exact textR_next _ _ _ HP34.out hch)
                            have h256 : ((n : Int) == 256) = false := by rw [beq_eq_false_iff_ne]; have := HK.out; have := HN.out; omega
                            have hn256 : ¬ (n : Int) = 256 := by have := HK.out; have := HN.out; omega
                            clear hch HP34
                            go_wp2_with fail
                            (with_reducible refine (HX.out _).mono ?_); rintro e w5 ⟨rfl, rfl⟩
                            go_wp2_with fail
                            (with_reducible refine (HY.out _).mono ?_); rintro e w5 ⟨rfl, rfl⟩
                            go_wp2_with fail
                            go_quiet ((go_at_call 42; (first | (with_reducible exact Calls.quiet_of_same (HX.out _)) | (with_reducible exact Calls.quiet_of_same (HY.out _)))))
                            have HOX : Hid (Own (w5.drewN nq) w.heap.size (.slice p n c0) acc) := Lib.hid (HO.out.below (belowN (Below.refl _ _) nq))
                            have HBX : Hid (Below w.heap.size w (w5.drewN nq)) := Lib.hid (belowN HB.out nq)
                            go_wp2_with (at_builtin; rw [HS.out]; refine app_own rfl (.tmp 103) (.tmp 105) rfl rfl (HOX.out.alloc _) (m := [c]) rfl rfl (Bs.one _ _ _ rfl rfl) (fun h => by cases h) (by have := HK.out; simp; omega) (by have := HB.out.size; have := HBX.out.size; simp; omega) ?_; intro v1 w3 ho3 hb3; have HO3 := Lib.hid ho3; have HB3 := Lib.hid hb3; clear ho3 hb3)
                            have HB4 : Hid (Below w.heap.size w w3) := Lib.hid (HBX.out.trans (((Below.refl _ _).alloc HBX.out.size _).trans HB3.out))
                            obtain ⟨n2, hn2⟩ : ∃ n, n = (acc ++ [c]).length := ⟨_, rfl⟩
                            obtain ⟨p2, c2, rfl, _, _, _, _⟩ := HO3.out.form hn2
                            clear hn2
                            go_roundw
                            case rel => exact ⟨acc ++ [c], j + 4, k, by go_num, by omega, by omega, HO3.out, by have := HK.out; simp; omega, HE.out, HB4.out⟩
                            case measure => simp [intOf]; omega
                        · have r10 := r1
                          have hch : charR (s.data.toList.drop j) = .ok (c, s.data.toList.drop (j + 4)) := hch0
                          rcases k with _ | k
                          · have HE : Hid (X = .error 3) := Lib.hid (by rw [HTE.out]; exact textR_big _ _ HP34.out hch)
                            have h256 : n = 256 := by have := HK.out; have := HN.out; omega
                            subst h256
                            clear hch HP34
                            go_wp2_with fail
                            (with_reducible refine (HX.out _).mono ?_); rintro e w5 ⟨rfl, rfl⟩
                            go_wp2_with fail
                            (with_reducible refine (HY.out _).mono ?_); rintro e w5 ⟨rfl, rfl⟩
                            go_wp2_with fail
                            go_quiet ((go_at_call 42; (first | (with_reducible exact Calls.quiet_of_same (HX.out _)) | (with_reducible exact Calls.quiet_of_same (HY.out _)))))
                            go_wp2
                            go_ret3
                            rw [HE.out]
                            first | exact ⟨rfl, HB.out⟩ | exact ⟨rfl, belowN HB.out _⟩
                          · have HE : Hid (X = textR k (acc ++ [c]) (s.data.toList.drop (j + 4))) := Lib.hid (by rw [HTE.out]; exact textR_next _ _ _ HP34.out hch)
                            have h256 : ((n : Int) == 256) = false := by rw [beq_eq_false_iff_ne]; have := HK.out; have := HN.out; omega
                            have hn256 : ¬ (n : Int) = 256 := by have := HK.out; have := HN.out; omega
                            clear hch HP34
                            go_wp2_with fail
                            (with_reducible refine (HX.out _).mono ?_); rintro e w5 ⟨rfl, rfl⟩
                            go_wp2_with fail
                            (with_reducible refine (HY.out _).mono ?_); rintro e w5 ⟨rfl, rfl⟩
                            go_wp2_with fail
                            go_quiet ((go_at_call 42; (first | (with_reducible exact Calls.quiet_of_same (HX.out _)) | (with_reducible exact Calls.quiet_of_same (HY.out _)))))
                            have HOX : Hid (Own (w5.drewN nq) w.heap.size (.slice p n c0) acc) := Lib.hid (HO.out.below (belowN (Below.refl _ _) nq))
                            have HBX : Hid (Below w.heap.size w (w5.drewN nq)) := Lib.hid (belowN HB.out nq)
                            go_wp2_with (at_builtin; rw [HS.out]; refine app_own rfl (.tmp 103) (.tmp 105) rfl rfl (HOX.out.alloc _) (m := [c]) rfl rfl (Bs.one _ _ _ rfl rfl) (fun h => by cases h) (by have := HK.out; simp; omega) (by have := HB.out.size; have := HBX.out.size; simp; omega) ?_; intro v1 w3 ho3 hb3; have HO3 := Lib.hid ho3; have HB3 := Lib.hid hb3; clear ho3 hb3)
                            have HB4 : Hid (Below w.heap.size w w3) := Lib.hid (HBX.out.trans (((Below.refl _ _).alloc HBX.out.size _).trans HB3.out))
                            obtain ⟨n2, hn2⟩ : ∃ n, n = (acc ++ [c]).length := ⟨_, rfl⟩
                            obtain ⟨p2, c2, rfl, _, _, _, _⟩ := HO3.out.form hn2
                            clear hn2
                            go_roundw
                            case rel => exact ⟨acc ++ [c], j + 4, k, by go_num, by omega, by omega, HO3.out, by have := HK.out; simp; omega, HE.out, HB4.out⟩
                            case measure => simp [intOf]; omega
                    · have hcc2 : charR (s.data.toList.drop j) = .error 11 := by rw [hcc, hok, decide_eq_false hy0, Bool.and_false, Bool.false_and]; rfl
                      have HE : Hid (X = .error 11) := Lib.hid (by rw [HTE.out]; exact textR_bad _ _ _ HP34.out hcc2)
                      clear hcc hcc2 hok hcn
                      go_wp2_with fail
                      (with_reducible refine (HX.out _).mono ?_); rintro e w5 ⟨rfl, rfl⟩
                      go_wp2_with fail
                      (with_reducible refine (HY.out _).mono ?_); rintro e w5 ⟨rfl, rfl⟩
                      go_wp2
                      go_ret3
                      rw [HE.out]
                      exact ⟨rfl, HB.out⟩
                  · have hcc2 : charR (s.data.toList.drop j) = .error 11 := by rw [hcc, hok, decide_eq_false hx0, Bool.false_and, Bool.false_and]; rfl
                    have HE : Hid (X = .error 11) := Lib.hid (by rw [HTE.out]; exact textR_bad _ _ _ HP34.out hcc2)
                    clear hcc hcc2 hok hcn
                    go_wp2_with fail
                    (with_reducible refine (HX.out _).mono ?_); rintro e w5 ⟨rfl, rfl⟩
                    go_wp2
                    go_ret3
                    rw [HE.out]
                    exact ⟨rfl, HB.out⟩
                · have hcc2 : charR (s.data.toList.drop j) = .error 11 := by
                    rw [hd0, h92, hd1, h120]
                    exact rr_code_short _ (by rw [List.length_drop, HLEN.out]; omega)
                  have HE : Hid (X = .error 11) := Lib.hid (by rw [HTE.out]; exact textR_bad _ _ _ HP34.out hcc2)
                  have g3 : ¬ (j : Int) + 3 < (s.size : Int) := by omega
                  clear hcc2 hd0 hd1 h92 h34 hmk n34 n92 h120
                  go_wp2
                  go_ret3
                  rw [HE.out]
                  exact ⟨rfl, HB.out⟩
              · have hcc2 : charR (s.data.toList.drop j) = .error 11 := by
                  rw [hd0, h92, hd1]
                  exact rr_bad _ n34 n92 h120
                have HE : Hid (X = .error 11) := Lib.hid (by rw [HTE.out]; exact textR_bad _ _ _ HP34.out hcc2)
                have m120 : ¬ (s[j + 1].toNat : Int) = 120 := rr_u8 h120
                have g3 : (j : Int) + 3 < (s.size : Int) ∨ ¬ (j : Int) + 3 < (s.size : Int) := by omega
                clear hcc2 hd0 hd1 h92 h34 hmk n34 n92 h120
                rcases g3 with g3 | g3
                · have g30 := g3
                  go_wp2
                  go_ret3
                  rw [HE.out]
                  exact ⟨rfl, HB.out⟩
                · have g30 := g3
                  go_wp2
                  go_ret3
                  rw [HE.out]
                  exact ⟨rfl, HB.out⟩
          · have hcc2 : charR (s.data.toList.drop j) = .error 11 := by
              rw [hd0, h92, List.drop_of_length_le (by rw [HLEN.out]; omega)]
              exact rr_none
            have HE : Hid (X = .error 11) := Lib.hid (by rw [HTE.out]; exact textR_bad _ _ _ HP34.out hcc2)
            have g1 : ¬ (j : Int) + 1 < (s.size : Int) := by omega
            have g3 : ¬ (j : Int) + 3 < (s.size : Int) := by omega
            clear hcc2 hd0 h92 h34
            go_wp2
            go_ret3
            rw [HE.out]
            exact ⟨rfl, HB.out⟩
        · have q92 : ¬ (s[j].toNat : Int) = 92 := rr_u8 h92
          cases hcd : codeC s[j]
          · have hch0 : charR (s.data.toList.drop j) = .ok (s[j], s.data.toList.drop (j + 1)) := by rw [hd0]; exact rr_plain _ h92 h34 hcd
            have hr1 : ¬ (s[j].toNat : Int) < 32 ∧ ¬ 126 < (s[j].toNat : Int) := by unfold codeC at hcd; simp only [Bool.or_eq_false_iff, decide_eq_false_iff_not] at hcd; exact hcd
            obtain ⟨r1, r2⟩ := hr1
            clear hd0 h92 h34 hcd
            have hch : charR (s.data.toList.drop j) = .ok (s[j], s.data.toList.drop (j + 1)) := hch0
            rcases k with _ | k
            · have HE : Hid (X = .error 3) := Lib.hid (by rw [HTE.out]; exact textR_big _ _ HP34.out hch)
              have h256 : n = 256 := by have := HK.out; have := HN.out; omega
              subst h256
              clear hch HP34
              go_wp2
              go_ret3
              rw [HE.out]
              first | exact ⟨rfl, HB.out⟩ | exact ⟨rfl, belowN HB.out _⟩
            · have HE : Hid (X = textR k (acc ++ [s[j]]) (s.data.toList.drop (j + 1))) := Lib.hid (by rw [HTE.out]; exact textR_next _ _ _ HP34.out hch)
              have h256 : ((n : Int) == 256) = false := by rw [beq_eq_false_iff_ne]; have := HK.out; have := HN.out; omega
              have hn256 : ¬ (n : Int) = 256 := by have := HK.out; have := HN.out; omega
              clear hch HP34
              have HOX := HO
              have HBX := HB
              go_wp2_with (at_builtin; refine app_own rfl (.tmp 103) (.tmp 105) rfl rfl (HOX.out.alloc _) (m := [s[j]]) rfl rfl (Bs.one _ _ _ rfl rfl) (fun h => by cases h) (by have := HK.out; simp; omega) (by have := HB.out.size; have := HBX.out.size; simp; omega) ?_; intro v1 w3 ho3 hb3; have HO3 := Lib.hid ho3; have HB3 := Lib.hid hb3; clear ho3 hb3)
              have HB4 : Hid (Below w.heap.size w w3) := Lib.hid (HBX.out.trans (((Below.refl _ _).alloc HBX.out.size _).trans HB3.out))
              obtain ⟨n2, hn2⟩ : ∃ n, n = (acc ++ [s[j]]).length := ⟨_, rfl⟩
              obtain ⟨p2, c2, rfl, _, _, _, _⟩ := HO3.out.form hn2
              clear hn2
              go_roundw
              case rel => exact ⟨acc ++ [s[j]], j + 1, k, by go_num, by omega, by omega, HO3.out, by have := HK.out; simp; omega, HE.out, HB4.out⟩
              case measure => simp [intOf]; omega
          · have hcc2 : charR (s.data.toList.drop j) = .error 11 := by rw [hd0]; exact rr_plain_bad _ h92 hcd
            have HE : Hid (X = .error 11) := Lib.hid (by rw [HTE.out]; exact textR_bad _ _ _ HP34.out hcc2)
            have hr1 : (s[j].toNat : Int) < 32 ∨ (¬ (s[j].toNat : Int) < 32 ∧ 126 < (s[j].toNat : Int)) := by unfold codeC at hcd; simp only [Bool.or_eq_true, decide_eq_true_eq] at hcd; omega
            clear hcc2 hd0 h92 h34 hcd
            rcases hr1 with r1 | ⟨r1, r2⟩
            · have r10 := r1
              go_wp2
              go_ret3
              rw [HE.out]
              exact ⟨rfl, HB.out⟩
            · have r10 := r1
              go_wp2
              go_ret3
              rw [HE.out]
              exact ⟨rfl, HB.out⟩

end Go.Proofs.YtckmajcophpddaaDoor
