/-
  The reference's Open of layer 7: contracts for the walks.
-/
import Derived.Test.YtpklapgcdilghaaDoorPgOpen
import Derived.Laws.BitsLemmas
set_option linter.unusedVariables false
set_option maxRecDepth 100000
namespace Go.Proofs.YtpklapgcdilghaaDoor
open Go.RowKit

theorem pgbox1 (w : World) (o : Obj) : Below w.heap.size w (w.alloc o) := (Below.refl _ _).alloc (Nat.le_refl _) o
theorem num_is {w : World} {b o : Nat} {l : List UInt8} (h : Bs w (some ⟨b, o, none⟩) l) (a k : Nat) (hk : k ≤ 8) (hl : a + k ≤ l.length) : ∀ n c, Calls Tryd.prog 35 #[.slice (some ⟨b, o + a, none⟩) k c] (w.drewN n) fun e w' => e = .returned (.int .u64 (leV ((l.drop a).take k) : Nat)) ∧ w' = w.drewN n := fun n c =>
  (numR_any ((h.part a k).drewN n) (sub_length hl).symm hk).mono fun e w' ⟨h1, h2⟩ => ⟨h1, h2.symm⟩
theorem sumR_is {w : World} {b o : Nat} {l : List UInt8} (h : Bs w (some ⟨b, o, none⟩) l) (k : Nat) (hk : k ≤ 1000000) (hl : k ≤ l.length) : ∀ n c, Calls Tryd.prog 32 #[.slice (some ⟨b, o, none⟩) k c] (w.drewN n) fun e w' => e = .returned (.int .u32 (sumV (l.take k) : Nat)) ∧ w' = w.drewN n := fun n c =>
  (sumR_any ((h.take k).drewN n) (by rw [List.length_take]; omega) (by omega)).mono fun e w' ⟨h1, h2⟩ => ⟨h1, h2.symm⟩

set_option maxHeartbeats 800000 in
theorem openR_long {w : World} {p : Option Addr} {l : List UInt8} {n c : Nat} (hn : n = l.length) (no : Int) (h512 : n ≠ 512) (hn63 : n ≤ 9223372036854775807) :
    Calls Tryd.prog 22 #[.slice p n c, .int .i64 no] w (OpenPost w l no) := by
  have HE : Hid (openE l no = 11) := Lib.hid (by unfold openE; rw [if_pos (by omega)])
  have hb : ((n : Int) == 512) = false := by rw [beq_eq_false_iff_ne]; omega
  clear hn
  go_enter Tryd.func22, Tryd.ntmps22
  go_wp2
  exact bodyPost_ret (v := .tuple #[.int .u8 0, .int .i64 0, .slice none 0 0, .int .i64 11]) (by simp [results, Tryd.results22, go_sem]) rfl (.inl ⟨by rw [HE.out]; decide, by rw [HE.out]; rfl, Below.refl _ _⟩)

set_option maxHeartbeats 1600000 in
theorem openR_torn {w : World} {b o : Nat} {l : List UInt8} (hl : Bs w (some ⟨b, o, none⟩) l) {c : Nat} (hn : 512 = l.length) (hc : 512 ≤ c) (no : Int) (hf : ¬ Fits l) :
    Calls Tryd.prog 22 #[.slice (some ⟨b, o, none⟩) 512 c, .int .i64 no] w (OpenPost w l no) := by
  have hne : ¬ c = 508 := by omega
  have HE : Hid (openE l no = 12) := Lib.hid (by unfold openE; rw [if_neg (by omega), if_pos hf])
  have HG := Lib.hid (num_is hl 508 4 (by omega) (by omega))
  have HS := Lib.hid (sumR_is hl 508 (by omega) (by omega))
  have hd : (l.drop 508).take 4 = l.drop 508 := List.take_of_length_le (by rw [List.length_drop]; omega)
  have hx := sumV_lt (l.take 508)
  have hb : (((leV ((l.drop 508).take 4) : Nat) : Int) == ((sumV (l.take 508) : Nat) : Int)) = false := by
    rw [beq_eq_false_iff_ne, hd]
    intro h
    exact hf (by unfold Fits; omega)
  clear hl hd hf hn
  generalize leV ((l.drop 508).take 4) = x at *
  generalize sumV (l.take 508) = y at *
  go_enter Tryd.func22, Tryd.ntmps22
  go_wp2_with fail
  go_quiet (first | (go_at_call 35; with_reducible exact Calls.quiet_of_same (HG.out _ _)) | (go_at_call 32; with_reducible exact Calls.quiet_of_same (HS.out _ _)))
  go_wp2
  exact bodyPost_ret (v := .tuple #[.int .u8 0, .int .i64 0, .slice none 0 0, .int .i64 12]) (by simp [results, Tryd.results22, go_sem]) rfl (.inl ⟨by rw [HE.out]; decide, by rw [HE.out]; rfl, belowN (Below.refl _ _) _⟩)

set_option maxHeartbeats 3200000 in
theorem openR_fits {w : World} {b o : Nat} {l : List UInt8} (hl : Bs w (some ⟨b, o, none⟩) l) {c : Nat} (hn : 512 = l.length) (hc : 512 ≤ c) (hc63 : c ≤ 9223372036854775807) (no : Int) (hno1 : -9223372036854775808 ≤ no) (hno2 : no ≤ 9223372036854775807) (hf : Fits l) :
    Calls Tryd.prog 22 #[.slice (some ⟨b, o, none⟩) 512 c, .int .i64 no] w (OpenPost w l no) := by
  have hne : ¬ c = 508 := by omega
  have hne13 : ¬ c = 13 := by omega
  have hne5 : ¬ c = 5 := by omega
  have hne1 : ¬ c = 1 := by omega
  have hne15 : ¬ c = 15 := by omega
  have hn' : l.length = 512 := hn.symm
  have HE : Hid (¬ Right l no → openE l no = 11) := Lib.hid fun h => by unfold openE; rw [if_neg (by omega), if_neg (by simpa using hf), if_neg h]
  have HE0 : Hid (Right l no → openE l no = 0) := Lib.hid fun h => openE_zero.2 ⟨hn', hf, h⟩
  have HG : Hid (∀ n c, Calls Tryd.prog 35 #[.slice (some ⟨b, o + 508, none⟩) 4 c] (w.drewN n) fun e w' => e = .returned (.int .u64 (sumV (l.take 508) : Nat)) ∧ w' = w.drewN n) := Lib.hid (by
    have h1 := num_is hl 508 4 (by omega) (by omega)
    have hd : (l.drop 508).take 4 = l.drop 508 := List.take_of_length_le (by rw [List.length_drop]; omega)
    rw [hd, show leV (l.drop 508) = sumV (l.take 508) from hf] at h1
    exact h1)
  have HS := Lib.hid (sumR_is hl 508 (by omega) (by omega))
  have hx := sumV_lt (l.take 508)
  obtain ⟨u, hu⟩ : ∃ u, l[0]? = some u := ⟨l[0], List.getElem?_eq_getElem (by omega)⟩
  have HL := Lib.hid hl
  have HN := Lib.hid hn'
  have hsz := fLen_lt hn'
  have hgn := fGen_lt hn'
  have hfn := fNo_lt hn'
  clear hl hf hn
  generalize sumV (l.take 508) = x at *
  obtain ⟨sz, hsz0⟩ : ∃ sz, sz = fLen l := ⟨_, rfl⟩
  obtain ⟨g, hg0⟩ : ∃ g, g = fGen l := ⟨_, rfl⟩
  obtain ⟨f, hf0⟩ : ∃ f, f = fNo l := ⟨_, rfl⟩
  rw [← hsz0] at hsz
  rw [← hg0] at hgn
  rw [← hf0] at hfn
  have HSZ := Lib.hid hsz0
  have HGN := Lib.hid hg0
  have HFN := Lib.hid hf0
  have HU := Lib.hid hu
  clear hsz0 hg0 hf0 hu hn'
  go_enter Tryd.func22, Tryd.ntmps22
  go_wp2_with fail
  go_quiet (first | (go_at_call 35; with_reducible exact Calls.quiet_of_same (HG.out _ _)) | (go_at_call 32; with_reducible exact Calls.quiet_of_same (HS.out _ _)))
  obtain ⟨w1, hw1⟩ : ∃ w1, w1 = w.drewN nq := ⟨_, rfl⟩
  have HB1 : Hid (Below w.heap.size w w1) := Lib.hid (by rw [hw1]; exact belowN (Below.refl _ _) _)
  rw [← hw1]
  clear hw1
  have HL1 : Hid (Bs w1 (some ⟨b, o, none⟩) l) := Lib.hid (HL.out.below HB1.out)
  have HG2 : Hid (∀ c, Calls Tryd.prog 35 #[.slice (some ⟨b, o + 13, none⟩) 2 c] w1 fun e w' => e = .returned (.int .u64 (sz : Nat)) ∧ w1 = w') := Lib.hid (fun c => by rw [HSZ.out]; exact numR_any (HL1.out.part 13 2) (sub_length (by rw [HN.out]; omega)).symm (by omega))
  have HG3 : Hid (∀ c, Calls Tryd.prog 35 #[.slice (some ⟨b, o + 5, none⟩) 8 c] w1 fun e w' => e = .returned (.int .u64 (g : Nat)) ∧ w1 = w') := Lib.hid (fun c => by rw [HGN.out]; exact numR_any (HL1.out.part 5 8) (sub_length (by rw [HN.out]; omega)).symm (by omega))
  have HG4 : Hid (∀ c, Calls Tryd.prog 35 #[.slice (some ⟨b, o + 1, none⟩) 4 c] w1 fun e w' => e = .returned (.int .u64 (f : Nat)) ∧ w1 = w') := Lib.hid (fun c => by rw [HFN.out]; exact numR_any (HL1.out.part 1 4) (sub_length (by rw [HN.out]; omega)).symm (by omega))
  clear HG HS hx
  have k1 : (13 : Int) ≤ (c : Int) := by omega
  go_wp2_with fail
  with_reducible refine (HG2.out _).mono ?_
  rintro e w2 ⟨rfl, rfl⟩
  go_wp2_with fail
  with_reducible refine (HG3.out _).mono ?_
  rintro e w2 ⟨rfl, rfl⟩
  by_cases h1 : no < 0
  · have HE1 := Lib.hid (HE.out fun h => by have := h.1; omega)
    clear HE HE0 HG2 HG3 HG4
    go_wp2
    exact bodyPost_ret (v := .tuple #[.int .u8 0, .int .i64 0, .slice none 0 0, .int .i64 11]) (by simp [results, Tryd.results22, go_sem]) rfl (.inl ⟨by rw [HE1.out]; decide, by rw [HE1.out]; rfl, HB1.out⟩)
  obtain ⟨n, rfl⟩ := Int.eq_ofNat_of_zero_le (show 0 ≤ no by omega)
  clear h1 hno1
  have hn63 : n ≤ 9223372036854775807 := by omega
  clear hno2
  go_wp2_with fail
  with_reducible refine (HG4.out _).mono ?_
  rintro e w2 ⟨rfl, rfl⟩
  clear HG2 HG3 HG4
  by_cases h2 : f = n
  · subst h2
    by_cases h3 : 4095 < f
    · have HE1 := Lib.hid (HE.out fun h => by have := h.2.1; omega)
      clear HE HE0
      go_wp2
      exact bodyPost_ret (v := .tuple #[.int .u8 0, .int .i64 0, .slice none 0 0, .int .i64 11]) (by simp [results, Tryd.results22, go_sem]) rfl (.inl ⟨by rw [HE1.out]; decide, by rw [HE1.out]; rfl, HB1.out⟩)
    by_cases h4 : 1152921504606846976 < g
    · have HE1 := Lib.hid (HE.out fun h => by have := h.2.2.2.1; rw [← HGN.out] at this; omega)
      clear HE HE0
      go_wp2
      exact bodyPost_ret (v := .tuple #[.int .u8 0, .int .i64 0, .slice none 0 0, .int .i64 11]) (by simp [results, Tryd.results22, go_sem]) rfl (.inl ⟨by rw [HE1.out]; decide, by rw [HE1.out]; rfl, HB1.out⟩)
    by_cases h5 : 493 < sz
    · have HE1 := Lib.hid (HE.out fun h => by have := h.2.2.2.2.1; rw [← HSZ.out] at this; omega)
      clear HE HE0
      go_wp2
      exact bodyPost_ret (v := .tuple #[.int .u8 0, .int .i64 0, .slice none 0 0, .int .i64 11]) (by simp [results, Tryd.results22, go_sem]) rfl (.inl ⟨by rw [HE1.out]; decide, by rw [HE1.out]; rfl, HB1.out⟩)
    have HR : Hid (Tail l → Right l (f : Int)) := Lib.hid fun ht => ⟨by omega, by omega, by rw [← HFN.out], by rw [← HGN.out]; omega, by rw [← HSZ.out]; omega, ht⟩
    have HT : Hid (Tail l ↔ ∀ i, 15 + sz ≤ i → i < 508 → l[i]? = some 0) := Lib.hid (by rw [HSZ.out]; exact Iff.rfl)
    clear hfn
    go_wp2
    go_loop [10] (fun i => ∃ j : Nat, i = .int .i64 j ∧ 15 + sz ≤ j ∧ j ≤ 508 ∧ ∀ i, 15 + sz ≤ i → i < j → l[i]? = some 0) (fun i => 508 - (intOf i).toNat)
    case atStart => exact ⟨15 + sz, by go_num, by omega, by omega, fun i _ _ => by omega⟩
    case round =>
      obtain ⟨j, rfl, hj1, hj2, hz⟩ := hrel
      have HZ := Lib.hid hz
      clear hz
      by_cases hj : j < 508
      · have hcell : w1.cell? ⟨b, o + j, none⟩ = some (.int .u8 ((l[j]'(by rw [HN.out]; omega)).toNat : Int)) := HL1.out.cell (by rw [HN.out]; omega)
        have hjq : l[j]? = some (l[j]'(by rw [HN.out]; omega)) := List.getElem?_eq_getElem _
        generalize l[j]'(by rw [HN.out]; omega) = v at *
        by_cases hv : v = 0
        · subst hv
          have hcell' : w1.cell? ⟨b, o + j, none⟩ = some (.int .u8 0) := hcell
          have HJ := Lib.hid hjq
          clear hcell hjq
          go_wp2
          go_round
          case rel => exact ⟨j + 1, by go_num, by omega, by omega, fun i h1 h2 => by
            by_cases h3 : i = j
            · rw [h3]; exact HJ.out
            · exact HZ.out i h1 (by omega)⟩
          case measure => simp [intOf]; omega
        · have HE1 := Lib.hid (HE.out fun h => hv (by
            have h1 := HT.out.1 h.2.2.2.2.2 j hj1 hj
            rw [hjq] at h1
            exact Option.some.inj h1))
          have hv0 : ((v.toNat : Int) == 0) = false := by
            rw [beq_eq_false_iff_ne]
            intro h
            exact hv (by rw [← UInt8.toNat_inj]; show _ = 0; omega)
          clear HE HE0 HZ HT HR hjq
          go_wp2
          exact bodyPost_ret (v := .tuple #[.int .u8 0, .int .i64 0, .slice none 0 0, .int .i64 11]) (by simp [results, Tryd.results22, go_sem]) rfl (.inl ⟨by rw [HE1.out]; decide, by rw [HE1.out]; rfl, HB1.out⟩)
      · have hj3 : j = 508 := by omega
        have HR1 : Hid (Right l (f : Int)) := Lib.hid (HR.out (HT.out.2 fun i h1 h2 => HZ.out i h1 (by omega)))
        have HE1 := Lib.hid (HE0.out HR1.out)
        have HK : Hid (∀ w', Below w1.heap.size w1 w' → w'.cell? ⟨b, o, none⟩ = some (.int .u8 (u.toNat : Int))) := Lib.hid fun w' hb => by
          have h1 := (HL1.out.below hb).cell (i := 0) (by rw [HN.out]; omega)
          obtain ⟨h2, h3⟩ := List.getElem?_eq_some_iff.1 HU.out
          rw [h3] at h1
          exact h1
        have HF : Hid (∀ w', Below w1.heap.size w1 w' → Bs w' (some ⟨b, o + 15, none⟩) (fIn l)) := Lib.hid fun w' hb => by
          have := (HL1.out.below hb).part 15 sz
          rw [HSZ.out] at this
          exact this
        have HFL : Hid (sz = (fIn l).length) := Lib.hid (by rw [HSZ.out]; exact (fIn_length HN.out (by rw [← HSZ.out]; omega)).symm)
        have k3 : (15 : Int) + (sz : Int) ≤ (c : Int) := by omega
        have k4 : 15 + sz ≤ c := by omega
        have k6 : ((15 + sz : Nat) : Int) ≤ (c : Int) := by omega
        have k7 : IntKind.i64.wrap (15 + (sz : Int)) = 15 + (sz : Int) := by rw [IntKind.wrap_i64]; omega
        have k9 : (0 : Int) ≤ 15 + (sz : Int) := by omega
        have k10 : (15 : Int) ≤ 15 + (sz : Int) := by omega
        have k11 : ((15 : Int) + (sz : Int)).toNat = 15 + sz := by omega
        have k12 : ((15 : Int) + (sz : Int)).toNat - 15 = sz := by omega
        have k13 : 15 + sz - 15 = sz := by omega
        have k8 : IntKind.i64.wrap (g : Int) = (g : Int) := by rw [IntKind.wrap_i64]; omega
        clear HE HE0 HZ HT HR HR1
        go_wp2_with fail
        go_region_held3 (fun w' => w'.cell? ⟨b, o, none⟩ = some (.int .u8 (u.toNat : Int))) (first | exact HK.out _ (Below.refl _ _).drew | exact HK.out _ ((Below.refl _ _).drew.alloc (Nat.le_refl _) _) | exact HK.out _ (pgbox1 _ _).drew | exact HK.out _ HB4.out)
          (first
            | (refine step_app rfl (.tmp 67) (.tmp 71) rfl rfl (Own.empty w1 w1.heap.size (Nat.le_refl _)) HFL.out rfl (HF.out _ (pgbox1 w1 _).drew) (fun h => by cases h) (by have := HFL.out; have e : ([] : List UInt8).length = 0 := rfl; omega) (pgbox1 w1 _).drew.size ?_; intro v4 w4 ho4 hb4; rw [List.nil_append] at ho4; have HB4 : Hid (Below w1.heap.size w1 w4) := Lib.hid (by first | exact (pgbox1 w1 _).drew.trans hb4 | exact ((Below.refl _ _).drew.alloc (Nat.le_refl _) _).trans hb4); have HO4 := Lib.hid ho4; clear ho4 hb4))
        go_wp2
        exact bodyPost_ret (v := .tuple #[.int .u8 (u.toNat : Int), .int .i64 (g : Int), v4, .int .i64 0]) (by simp [results, Tryd.results22, go_sem]) rfl (.inr ⟨HE1.out, u, v4, HU.out, by rw [HGN.out], HO4.out.le HB1.out.size, HB1.out.trans (HB4.out.mono HB1.out.size)⟩)
  · have HE1 := Lib.hid (HE.out fun h => h2 (by have := h.2.2.1; rw [← HFN.out] at this; omega))
    have h3 : ((f : Int) == (n : Int)) = false := by rw [beq_eq_false_iff_ne]; omega
    have h4 : (f == n) = false := by rw [beq_eq_false_iff_ne]; exact h2
    clear HE HE0
    go_wp2
    exact bodyPost_ret (v := .tuple #[.int .u8 0, .int .i64 0, .slice none 0 0, .int .i64 11]) (by simp [results, Tryd.results22, go_sem]) rfl (.inl ⟨by rw [HE1.out]; decide, by rw [HE1.out]; rfl, HB1.out⟩)

end Go.Proofs.YtpklapgcdilghaaDoor
