/-
  The law PageBack: the walk.
-/
import Derived.Test.YthkgejkgnkpjdaaDoorLawPApart
set_option linter.unusedVariables false
set_option maxRecDepth 100000
namespace Go.Proofs.YthkgejkgnkpjdaaDoor
open Go.RowKit

/-- A page that was sealed, opened by its number. -/
theorem open_page {w : World} (hT : Tab w) {g : Nat} {k : UInt8} {n gg : Nat} {l : List UInt8} (hl : l.length ≤ 493) (hn : n ≤ 4095) (hg : gg ≤ 4294967295) (hs : Sec w g (pageB k n gg l)) {m : Nat} (hm : m = l.length) :
    Calls Tryd.prog 12 #[.slice (some ⟨g, 0, none⟩) 512 512, .int .i64 (n : Int)] w fun e w' => ∃ q c, e = .returned (.tuple #[.int .u8 (k.toNat : Int), .int .i64 (gg : Int), .slice q m c, .int .i64 0]) ∧ Bs w' q l ∧ Below w.heap.size w w' := by
  have h1 := page_right (kind := k) (no := n) (gen := gg) (l := l) hl (by omega) (by omega) (n : Int)
  rw [if_pos rfl] at h1
  obtain ⟨e0, _, e3, _, e5, _⟩ := page_fields (kind := k) (no := n) (gen := gg) (l := l) hl (by omega) (by omega)
  refine (open_any hT hs.bs (n := 512) (c := 512) (pageB_length hl).symm (by omega) (by omega) (n : Int)).mono ?_
  rintro e w' (⟨h3, _⟩ | ⟨_, u, v, hu, rfl, hv, hb⟩)
  · exact absurd h1 h3
  · rw [e5] at hv
    obtain ⟨q, c, rfl, _, _, h4, _⟩ := hv.form hm
    rw [e0] at hu
    obtain rfl := Option.some.inj hu
    rw [e3]
    exact ⟨q, c, rfl, h4, hb⟩
/-- Bytes that Open refuses. -/
theorem open_not {w : World} (hT : Tab w) {g : Nat} {l : List UInt8} (hl : 512 = l.length) (hs : Sec w g l) {no : Int} {x : Nat} (hx : openE l no = x) (h0 : x ≠ 0) :
    Calls Tryd.prog 12 #[.slice (some ⟨g, 0, none⟩) 512 512, .int .i64 no] w fun e w' => e = .returned (.tuple #[.int .u8 0, .int .i64 0, .slice none 0 0, .int .i64 (x : Int)]) ∧ Below w.heap.size w w' := by
  refine (open_any hT hs.bs (n := 512) (c := 512) hl (by omega) (by omega) no).mono ?_
  rintro e w' (⟨_, rfl, hb⟩ | ⟨h3, _⟩)
  · rw [hx]; exact ⟨rfl, hb⟩
  · rw [hx] at h3; exact absurd h3 h0

theorem xor_one {n : Nat} (hn : n ≤ 4095) : ∃ m : Nat, bits .xor .i64 (n : Int) 1 = (m : Int) ∧ m ≠ n := by
  refine ⟨n ^^^ 1, ?_, ?_⟩
  · have hlt : n ^^^ 1 < 2 ^ 12 := Nat.xor_lt_two_pow (by omega) (by decide)
    show IntKind.i64.wrap (((BitVec.ofInt 64 (n : Int) ^^^ BitVec.ofInt 64 ((1 : Nat) : Int)).toNat : Nat) : Int) = _
    have h2 : ∀ k : Nat, k < 18446744073709551616 → (BitVec.ofInt 64 (k : Int)).toNat = k := fun k hk => by rw [BitVec.ofInt_natCast, BitVec.toNat_ofNat]; exact Nat.mod_eq_of_lt (by omega)
    rw [BitVec.toNat_xor, h2 n (by omega), h2 1 (by omega), IntKind.wrap_i64]
    omega
  · intro h
    have h1 : n ^^^ 1 ^^^ n = n ^^^ n := by rw [h]
    rw [xor_rc, Nat.xor_self, Nat.zero_xor] at h1
    exact absurd h1 (by decide)

/-- at = (At%4096 + 4096) % 4096. -/
theorem at_low (x : Int) : ∃ A : Nat, (x.tmod 4096 + 4096).tmod 4096 = (A : Int) ∧ A < 4096 ∧ -4096 < x.tmod 4096 ∧ x.tmod 4096 < 4096 := by
  have h1 := Int.tmod_lt_of_pos x (b := 4096) (by decide)
  have h2 : -4096 < x.tmod 4096 := Int.lt_tmod_of_pos x (by decide)
  refine ⟨((x.tmod 4096 + 4096) % 4096).toNat, ?_, by omega, h2, h1⟩
  rw [Int.tmod_eq_emod_of_nonneg (by omega)]
  omega

/-- The bits so far. -/
theorem low_succ (z i : Nat) : z % 2 ^ (i + 1) = z % 2 ^ i + 2 ^ i * (z / 2 ^ i % 2) := by
  rw [Nat.pow_succ, Nat.mod_mul]
theorem turn_none {z i : Nat} (h : z / 2 ^ i % 2 ≠ 1) : z % 2 ^ (i + 1) = z % 2 ^ i := by
  rw [low_succ, show z / 2 ^ i % 2 = 0 from by omega, Nat.mul_zero, Nat.add_zero]
theorem turn_one {z i A : Nat} (h : z / 2 ^ i % 2 = 1) : z % 2 ^ (i + 1) * 2 ^ A = (z % 2 ^ i * 2 ^ A) ^^^ 2 ^ (A + i) ∧ z % 2 ^ (i + 1) ≠ 0 := by
  have hp : 0 < 2 ^ i := Nat.two_pow_pos i
  have hlt : z % 2 ^ i < 2 ^ i := Nat.mod_lt _ hp
  have h1 : z % 2 ^ (i + 1) = z % 2 ^ i ^^^ 1 * 2 ^ i := by
    rw [low_succ, h]
    exact add_xor hlt
  refine ⟨?_, ?_⟩
  · rw [h1, ← Nat.shiftLeft_eq, Nat.shiftLeft_xor_distrib, Nat.shiftLeft_eq, Nat.shiftLeft_eq, Nat.one_mul, ← Nat.pow_add, Nat.add_comm i A]
  · rw [low_succ, h]
    omega

theorem bit_at {z : Nat} (hz : z < 4294967296) (i : Nat) : bits .and .u32 ((z : Int) / 2 ^ i) 1 = ((z / 2 ^ i % 2 : Nat) : Int) := by
  have h1 : (z : Int) / 2 ^ i = ((z / 2 ^ i : Nat) : Int) := by rw [Int.natCast_ediv, Int.natCast_pow]; rfl
  have h2 := u32_and_nat (z / 2 ^ i) 1 (Nat.lt_of_le_of_lt (Nat.div_le_self _ _) hz) (by decide)
  rw [h1]
  rw [Nat.and_one_is_mod] at h2
  exact h2
theorem pow_lt8 {k : Nat} (hk : k < 8) : (2 : Nat) ^ k < 256 := by
  have : (2 : Nat) ^ k ≤ 2 ^ 7 := Nat.pow_le_pow_right (by decide) (by omega)
  have h7 : (2 : Nat) ^ 7 = 128 := by decide
  omega
theorem pow_cast (k : Nat) : (2 : Int) ^ k = ((2 ^ k : Nat) : Int) := by rw [Int.natCast_pow]; rfl
theorem turn_byte (v : UInt8) {k : Nat} (hk : k < 8) : ∃ u : UInt8, u.toNat = v.toNat ^^^ 2 ^ k := by
  refine ⟨UInt8.ofNat (v.toNat ^^^ 2 ^ k), ?_⟩
  rw [u8_ofNat]
  exact Nat.mod_eq_of_lt (Nat.xor_lt_two_pow (n := 8) v.toNat_lt (pow_lt8 hk))
theorem turn_bits (v : UInt8) {k : Nat} (hk : k < 8) : bits .xor .u8 (v.toNat : Int) (2 ^ k) = ((v.toNat ^^^ 2 ^ k : Nat) : Int) := by
  rw [pow_cast]
  exact u8_xor_nat _ _ v.toNat_lt (pow_lt8 hk)
theorem pow_mod {k : Nat} (hk : k < 8) : (2 : Int) ^ k % 256 = 2 ^ k := by
  rw [pow_cast]
  have h1 := pow_lt8 hk
  generalize (2 : Nat) ^ k = x at h1 ⊢
  omega
theorem pow_wrap {k : Nat} (hk : k < 8) : IntKind.u8.wrap (2 ^ k) = 2 ^ k := by
  rw [pow_cast, IntKind.wrap_u8']
  have h1 := pow_lt8 hk
  generalize (2 : Nat) ^ k = x at h1 ⊢
  omega

/-- The page behind the bits so far. -/
def PbI (W wr : World) (g0 : Nat) (X : List UInt8) (z A i : Nat) (b : Bool) : Prop := ∃ Y, (b = true ↔ z % 2 ^ i ≠ 0) ∧ Sec wr g0 Y ∧ 512 = Y.length ∧ leV Y = leV X ^^^ (z % 2 ^ i * 2 ^ A) ∧ Below W.heap.size W wr

set_option maxHeartbeats 12800000 in
theorem lawPBack_core {w : World} (hT : Tab w) (k : UInt8) (gen at0 : Int) {z : Nat} (hz : z < 4294967296) (no : Int) {p : Option Addr} {li : List UInt8} (hl : Bs w p li) {n m c : Nat} (hm : m = li.length) (hcut : m = if 493 < n then 493 else n) (hnc : n ≤ c) (hc : c ≤ 9223372036854775807) :
    Calls Tryd.prog 5 #[.slice p n c, .int .i64 no, .agg #[.int .u8 (k.toNat : Int), .int .i64 gen, .int .i64 at0, .int .u32 (z : Int)]] w fun e w' => e = .returned (.bool true) ∧ Below w.heap.size w w' := by
  have hm493' : m ≤ 493 := by rw [hcut]; split <;> omega
  have hm493 : li.length ≤ 493 := by omega
  have hmc : m ≤ c := by rw [hcut]; split <;> omega
  obtain ⟨nn, hnn, hno⟩ := pand_low no 12 4095 (by decide) (by omega)
  obtain ⟨gg, hgg0, hgg⟩ := pand_low gen 32 4294967295 (by decide) (by omega)
  have hnn : bits .and .i64 no 4095 = (nn : Int) := hnn
  have hgg0 : bits .and .i64 gen 4294967295 = (gg : Int) := hgg0
  obtain ⟨n2, hn2, hn2'⟩ := xor_one hno
  obtain ⟨A, hA, hA4, ht1, ht2⟩ := at_low at0
  obtain ⟨W, hW⟩ : ∃ W, W = w.alloc (.cells #[.int .u8 (k.toNat : Int), .int .i64 gen, .int .i64 at0, .int .u32 (z : Int)] 39) := ⟨_, rfl⟩
  have hb0 : Below w.heap.size w W := by rw [hW]; exact pgbox1 w _
  have HW0 := Lib.hid hb0
  have HK : Hid (∀ w', Below W.heap.size W w' → w'.cell? ⟨w.heap.size, 0, none⟩ = some (.int .u8 (k.toNat : Int)) ∧ w'.cell? ⟨w.heap.size, 1, none⟩ = some (.int .i64 gen) ∧ w'.cell? ⟨w.heap.size, 2, none⟩ = some (.int .i64 at0) ∧ w'.cell? ⟨w.heap.size, 3, none⟩ = some (.int .u32 (z : Int))) := Lib.hid fun w' hb => by
    subst hW
    exact ⟨(box_cell hb 0).1, (box_cell hb 1).1, (box_cell hb 2).1, (box_cell hb 3).1⟩
  have HT := Lib.hid (hT.below hT.lt hb0)
  have HL : Hid (Bs W p li) := Lib.hid (hl.below hb0)
  have HM := Lib.hid hm
  have HX := Lib.hid (pageB_length (kind := k) (no := nn) (gen := gg) (l := li) hm493).symm
  have HN2 : Hid (openE (pageB k nn gg li) (n2 : Int) = 11) := Lib.hid (by rw [page_right hm493 (by omega) (by omega), if_neg (by omega)])
  have hs := seal_ok HT.out k (no := nn) (gen := gg) (by omega) (by omega) HL.out hm hmc hc hm493'
  obtain ⟨g0, hg0⟩ : ∃ g0, g0 = W.heap.size := ⟨_, rfl⟩
  have HS : Hid (Calls Tryd.prog 8 #[.int .u8 (k.toNat : Int), .int .i64 (nn : Int), .int .i64 (gg : Int), .slice p m c] W fun e w' => e = .returned (.tuple #[.slice (some ⟨g0, 0, none⟩) 512 512, .int .i64 0]) ∧ Sec w' g0 (pageB k nn gg li) ∧ Below W.heap.size W w') := Lib.hid (by rw [hg0]; exact hs)
  replace hg0 : W.heap.size ≤ g0 := by omega
  clear hs hb0 hT hl hm hn2' hm493' hmc
  by_cases h493 : 493 < n
  · obtain rfl : m = 493 := by rw [hcut, if_pos h493]
    clear hcut
    go_enter Tryd.func5, Tryd.ntmps5
    go_wp2_with fail
    rw [← hW]
    clear hW
    with_reducible refine HS.out.mono ?_
    rintro e w1 ⟨rfl, h1, hb1⟩
    have HB1 := Lib.hid hb1
    have H1 := Lib.hid h1
    have HT1 : Hid (Tab w1) := Lib.hid (HT.out.below HT.out.lt hb1)
    have HO1 := Lib.hid (open_page HT1.out hm493 hno hgg h1 HM.out)
    have HO2 : Hid (∀ w', Below w1.heap.size w1 w' → Calls Tryd.prog 12 #[.slice (some ⟨g0, 0, none⟩) 512 512, .int .i64 (n2 : Int)] w' fun e w'' => e = .returned (.tuple #[.int .u8 0, .int .i64 0, .slice none 0 0, .int .i64 11]) ∧ Below w'.heap.size w' w'') := Lib.hid fun w' hb => open_not (HT1.out.below HT1.out.lt hb) HX.out (H1.out.below H1.out.lt hb) (x := 11) HN2.out (by decide)
    obtain ⟨a0, a1⟩ := HK.out w1 HB1.out
    clear h1 hb1
    go_wp2_with fail
    with_reducible refine HO1.out.mono ?_
    rintro e w2 ⟨q2, c2, rfl, h2, hb2⟩
    have HB2 : Hid (Below W.heap.size W w2) := Lib.hid (HB1.out.trans (hb2.mono HB1.out.size))
    have H2 : Hid (Sec w2 g0 (pageB k nn gg li)) := Lib.hid (H1.out.below H1.out.lt hb2)
    have HO3 := Lib.hid (HO2.out w2 hb2)
    have HQ := Lib.hid h2
    clear h2 hb2 a0 a1
    go_wp2_with fail
    with_reducible refine HO3.out.mono ?_
    rintro e w3 ⟨rfl, hb3⟩
    have HB3 : Hid (Below W.heap.size W w3) := Lib.hid (HB2.out.trans (hb3.mono HB2.out.size))
    have H3 : Hid (Sec w3 g0 (pageB k nn gg li)) := Lib.hid (H2.out.below H2.out.lt hb3)
    have s1 := str_of (HQ.out.below hb3) (c := c2) HM.out
    have s2 := str_of (HL.out.below HB3.out) (c := c) HM.out
    obtain ⟨a0, a1, a2, a3⟩ := HK.out w3 HB3.out
    clear hb3 HQ HO1 HO2 HO3 H1 H2
    have q1 := beq_self_eq_true li
    generalize hX : pageB k nn gg li = X at *
    replace hX := Lib.hid hX
    go_wp2
    go_loopw [17, 18] (fun ch u wr => ∃ (i : Nat) (b : Bool), u = .int .i64 i ∧ i ≤ 32 ∧ A + i ≤ 4096 ∧ ch = .bool b ∧ PbI W wr g0 X z A i b) (fun _ u _ => 32 - (intOf u).toNat)
    case atStart => exact ⟨0, false, rfl, by omega, by omega, rfl, X, by simp [Nat.mod_one], H3.out, HX.out, by simp [Nat.mod_one], HB3.out⟩
    case round =>
      obtain ⟨i, bb, rfl, hi, hai, rfl, Y, hbb, hsec, hlen, hle, hb⟩ := hrel
      have HBB := Lib.hid hbb
      have HSE := Lib.hid hsec
      have HLE := Lib.hid hlen
      have HY := Lib.hid hle
      have HB := Lib.hid hb
      obtain ⟨a0, a1, a2, a3⟩ := HK.out wr hb
      clear hsec hle hb hbb
      by_cases hgo : i < 32 ∧ A + i < 4096
      · obtain ⟨hi32, hai2⟩ := hgo
        obtain ⟨r, hr⟩ : ∃ r, r = z / 2 ^ i % 2 := ⟨_, rfl⟩
        have hbit : bits .and .u32 ((z : Int) / 2 ^ i) 1 = (r : Int) := by rw [hr]; exact bit_at hz i
        by_cases hr1 : r = 1
        · subst hr1
          obtain ⟨t1, t2⟩ := turn_one (A := A) hr.symm
          have hj512 : (A + i) / 8 < Y.length := by omega
          have hk8 : (A + i) % 8 < 8 := by omega
          have hjk : 8 * ((A + i) / 8) + (A + i) % 8 = A + i := by omega
          have d1 : (0 : Int) ≤ ((A : Int) + (i : Int)) / 8 := by omega
          have d2 : ((A : Int) + (i : Int)) / 8 < 512 := by omega
          have d5 : (0 : Int) ≤ ((A : Int) + (i : Int)) % 8 := by omega
          have d6 : ((A : Int) + (i : Int)) % 8 < 8 := by omega
          have hcell := HSE.out.cell hj512
          have hsoft := HSE.out.soft ((A + i) / 8)
          obtain ⟨u, hu⟩ : ∃ u : UInt8, u.toNat = Y[(A + i) / 8].toNat ^^^ 2 ^ ((A + i) % 8) := turn_byte Y[(A + i) / 8] hk8
          have hxor : bits .xor .u8 (Y[(A + i) / 8].toNat : Int) (2 ^ ((A + i) % 8) % 256) = (u.toNat : Int) := by rw [hu, pow_mod hk8]; exact turn_bits Y[(A + i) / 8] hk8
          have hw8 : IntKind.u8.wrap (2 ^ ((A + i) % 8)) = 2 ^ ((A + i) % 8) := pow_wrap hk8
          have HNEW : Hid (Sec (wr.setCell ⟨g0, (A + i) / 8, none⟩ (.int .u8 (u.toNat : Int))) g0 (Y.set ((A + i) / 8) u)) := Lib.hid (HSE.out.set ((A + i) / 8) u rfl)
          have HLN : Hid (512 = (Y.set ((A + i) / 8) u).length) := Lib.hid (by rw [List.length_set]; exact hlen)
          have HVN : Hid (leV (Y.set ((A + i) / 8) u) = leV X ^^^ (z % 2 ^ (i + 1) * 2 ^ A)) := Lib.hid (by rw [leV_turn hj512 hk8 hu, hjk, HY.out, t1, Nat.xor_assoc])
          have HBN : Hid (Below W.heap.size W (wr.setCell ⟨g0, (A + i) / 8, none⟩ (.int .u8 (u.toNat : Int)))) := Lib.hid (HB.out.setCell (p := ⟨g0, (A + i) / 8, none⟩) hg0 _)
          have HT2 := Lib.hid t2
          have hbit : bits .and .u32 ((z : Int) / 2 ^ i) 1 = (1 : Int) := hbit
          clear hu t1 t2 hr hjk hlen
          generalize Y[(A + i) / 8].toNat = y at *
          generalize u.toNat = u' at *
          clear hj512
          go_wp2
          go_roundw
          case rel => exact ⟨i + 1, true, by go_num, by omega, by omega, rfl, _, ⟨fun _ => HT2.out, fun _ => rfl⟩, HNEW.out, HLN.out, HVN.out, HBN.out⟩
          case measure => simp [intOf]; omega
        · have t1 := turn_none (z := z) (i := i) (by omega)
          have HT1 := Lib.hid t1
          have hr0 : ((r : Int) == 1) = false := by rw [beq_eq_false_iff_ne]; omega
          clear hr t1 hlen
          go_wp2
          go_roundw
          case rel => exact ⟨i + 1, bb, by go_num, by omega, by omega, rfl, Y, by rw [HT1.out]; exact HBB.out, HSE.out, HLE.out, by rw [HT1.out]; exact HY.out, HB.out⟩
          case measure => simp [intOf]; omega
      · have hzi : z % 2 ^ i < 4294967296 := Nat.lt_of_le_of_lt (Nat.mod_le _ _) hz
        have HTW : Hid (Tab wr) := Lib.hid (HT.out.below HT.out.lt HB.out)
        have hgo2 : ¬ (i < 32) ∨ (i < 32 ∧ ¬ (A + i < 4096)) := by omega
        by_cases h0 : z % 2 ^ i = 0
        · have hYX : Y = X := by
            have h1 := HY.out
            rw [h0, Nat.zero_mul, Nat.xor_zero] at h1
            rw [← leB_leV Y, ← leB_leV X, h1, ← HLE.out, ← HX.out]
          have hsec : Sec wr g0 (pageB k nn gg li) := by rw [hX.out, ← hYX]; exact HSE.out
          have HO := Lib.hid (open_page HTW.out hm493 hno hgg hsec HM.out)
          obtain rfl : bb = false := by
            cases bb
            · rfl
            · exact absurd h0 (HBB.out.1 rfl)
          clear hYX hsec HY h0 hlen HBB
          rcases hgo2 with hg1 | ⟨hg1, hg2⟩
          · go_wp2_with fail
            with_reducible refine HO.out.mono ?_
            rintro e w5 ⟨q5, c5, rfl, h5, hb5⟩
            have HB5 := Lib.hid (HW0.out.trans ((HB.out.trans (hb5.mono HB.out.size)).mono HW0.out.size))
            clear h5 hb5
            go_wp2
            go_ret
            exact ⟨rfl, HB5.out⟩
          · go_wp2_with fail
            with_reducible refine HO.out.mono ?_
            rintro e w5 ⟨q5, c5, rfl, h5, hb5⟩
            have HB5 := Lib.hid (HW0.out.trans ((HB.out.trans (hb5.mono HB.out.size)).mono HW0.out.size))
            clear h5 hb5
            go_wp2
            go_ret
            exact ⟨rfl, HB5.out⟩
        · have hnf : ¬ Fits Y := fun hf => h0 (burst HX.out.symm HLE.out.symm hzi (by omega) HY.out (by rw [← hX.out]; exact pageB_fits hm493) hf)
          have hE : openE Y (nn : Int) = 12 := by unfold openE; rw [if_neg (by have := HLE.out; omega), if_pos hnf]
          have HO : Hid (Calls Tryd.prog 12 #[.slice (some ⟨g0, 0, none⟩) 512 512, .int .i64 (nn : Int)] wr fun e w' => e = .returned (.tuple #[.int .u8 0, .int .i64 0, .slice none 0 0, .int .i64 12]) ∧ Below wr.heap.size wr w') := Lib.hid (open_not HTW.out HLE.out HSE.out (x := 12) hE (by decide))
          obtain rfl : bb = true := HBB.out.2 h0
          clear hnf hE HY h0 hlen HBB
          rcases hgo2 with hg1 | ⟨hg1, hg2⟩
          · go_wp2_with fail
            with_reducible refine HO.out.mono ?_
            rintro e w5 ⟨rfl, hb5⟩
            have HB5 := Lib.hid (HW0.out.trans ((HB.out.trans (hb5.mono HB.out.size)).mono HW0.out.size))
            clear hb5
            go_wp2
            go_ret
            exact ⟨rfl, HB5.out⟩
          · go_wp2_with fail
            with_reducible refine HO.out.mono ?_
            rintro e w5 ⟨rfl, hb5⟩
            have HB5 := Lib.hid (HW0.out.trans ((HB.out.trans (hb5.mono HB.out.size)).mono HW0.out.size))
            clear hb5
            go_wp2
            go_ret
            exact ⟨rfl, HB5.out⟩
  · obtain rfl : m = n := by rw [hcut, if_neg h493]
    clear hcut
    go_enter Tryd.func5, Tryd.ntmps5
    go_wp2_with fail
    rw [← hW]
    clear hW
    with_reducible refine HS.out.mono ?_
    rintro e w1 ⟨rfl, h1, hb1⟩
    have HB1 := Lib.hid hb1
    have H1 := Lib.hid h1
    have HT1 : Hid (Tab w1) := Lib.hid (HT.out.below HT.out.lt hb1)
    have HO1 := Lib.hid (open_page HT1.out hm493 hno hgg h1 HM.out)
    have HO2 : Hid (∀ w', Below w1.heap.size w1 w' → Calls Tryd.prog 12 #[.slice (some ⟨g0, 0, none⟩) 512 512, .int .i64 (n2 : Int)] w' fun e w'' => e = .returned (.tuple #[.int .u8 0, .int .i64 0, .slice none 0 0, .int .i64 11]) ∧ Below w'.heap.size w' w'') := Lib.hid fun w' hb => open_not (HT1.out.below HT1.out.lt hb) HX.out (H1.out.below H1.out.lt hb) (x := 11) HN2.out (by decide)
    obtain ⟨a0, a1⟩ := HK.out w1 HB1.out
    clear h1 hb1
    go_wp2_with fail
    with_reducible refine HO1.out.mono ?_
    rintro e w2 ⟨q2, c2, rfl, h2, hb2⟩
    have HB2 : Hid (Below W.heap.size W w2) := Lib.hid (HB1.out.trans (hb2.mono HB1.out.size))
    have H2 : Hid (Sec w2 g0 (pageB k nn gg li)) := Lib.hid (H1.out.below H1.out.lt hb2)
    have HO3 := Lib.hid (HO2.out w2 hb2)
    have HQ := Lib.hid h2
    clear h2 hb2 a0 a1
    go_wp2_with fail
    with_reducible refine HO3.out.mono ?_
    rintro e w3 ⟨rfl, hb3⟩
    have HB3 : Hid (Below W.heap.size W w3) := Lib.hid (HB2.out.trans (hb3.mono HB2.out.size))
    have H3 : Hid (Sec w3 g0 (pageB k nn gg li)) := Lib.hid (H2.out.below H2.out.lt hb3)
    have s1 := str_of (HQ.out.below hb3) (c := c2) HM.out
    have s2 := str_of (HL.out.below HB3.out) (c := c) HM.out
    obtain ⟨a0, a1, a2, a3⟩ := HK.out w3 HB3.out
    clear hb3 HQ HO1 HO2 HO3 H1 H2
    have q1 := beq_self_eq_true li
    generalize hX : pageB k nn gg li = X at *
    replace hX := Lib.hid hX
    go_wp2
    go_loopw [17, 18] (fun ch u wr => ∃ (i : Nat) (b : Bool), u = .int .i64 i ∧ i ≤ 32 ∧ A + i ≤ 4096 ∧ ch = .bool b ∧ PbI W wr g0 X z A i b) (fun _ u _ => 32 - (intOf u).toNat)
    case atStart => exact ⟨0, false, rfl, by omega, by omega, rfl, X, by simp [Nat.mod_one], H3.out, HX.out, by simp [Nat.mod_one], HB3.out⟩
    case round =>
      obtain ⟨i, bb, rfl, hi, hai, rfl, Y, hbb, hsec, hlen, hle, hb⟩ := hrel
      have HBB := Lib.hid hbb
      have HSE := Lib.hid hsec
      have HLE := Lib.hid hlen
      have HY := Lib.hid hle
      have HB := Lib.hid hb
      obtain ⟨a0, a1, a2, a3⟩ := HK.out wr hb
      clear hsec hle hb hbb
      by_cases hgo : i < 32 ∧ A + i < 4096
      · obtain ⟨hi32, hai2⟩ := hgo
        obtain ⟨r, hr⟩ : ∃ r, r = z / 2 ^ i % 2 := ⟨_, rfl⟩
        have hbit : bits .and .u32 ((z : Int) / 2 ^ i) 1 = (r : Int) := by rw [hr]; exact bit_at hz i
        by_cases hr1 : r = 1
        · subst hr1
          obtain ⟨t1, t2⟩ := turn_one (A := A) hr.symm
          have hj512 : (A + i) / 8 < Y.length := by omega
          have hk8 : (A + i) % 8 < 8 := by omega
          have hjk : 8 * ((A + i) / 8) + (A + i) % 8 = A + i := by omega
          have d1 : (0 : Int) ≤ ((A : Int) + (i : Int)) / 8 := by omega
          have d2 : ((A : Int) + (i : Int)) / 8 < 512 := by omega
          have d5 : (0 : Int) ≤ ((A : Int) + (i : Int)) % 8 := by omega
          have d6 : ((A : Int) + (i : Int)) % 8 < 8 := by omega
          have hcell := HSE.out.cell hj512
          have hsoft := HSE.out.soft ((A + i) / 8)
          obtain ⟨u, hu⟩ : ∃ u : UInt8, u.toNat = Y[(A + i) / 8].toNat ^^^ 2 ^ ((A + i) % 8) := turn_byte Y[(A + i) / 8] hk8
          have hxor : bits .xor .u8 (Y[(A + i) / 8].toNat : Int) (2 ^ ((A + i) % 8) % 256) = (u.toNat : Int) := by rw [hu, pow_mod hk8]; exact turn_bits Y[(A + i) / 8] hk8
          have hw8 : IntKind.u8.wrap (2 ^ ((A + i) % 8)) = 2 ^ ((A + i) % 8) := pow_wrap hk8
          have HNEW : Hid (Sec (wr.setCell ⟨g0, (A + i) / 8, none⟩ (.int .u8 (u.toNat : Int))) g0 (Y.set ((A + i) / 8) u)) := Lib.hid (HSE.out.set ((A + i) / 8) u rfl)
          have HLN : Hid (512 = (Y.set ((A + i) / 8) u).length) := Lib.hid (by rw [List.length_set]; exact hlen)
          have HVN : Hid (leV (Y.set ((A + i) / 8) u) = leV X ^^^ (z % 2 ^ (i + 1) * 2 ^ A)) := Lib.hid (by rw [leV_turn hj512 hk8 hu, hjk, HY.out, t1, Nat.xor_assoc])
          have HBN : Hid (Below W.heap.size W (wr.setCell ⟨g0, (A + i) / 8, none⟩ (.int .u8 (u.toNat : Int)))) := Lib.hid (HB.out.setCell (p := ⟨g0, (A + i) / 8, none⟩) hg0 _)
          have HT2 := Lib.hid t2
          have hbit : bits .and .u32 ((z : Int) / 2 ^ i) 1 = (1 : Int) := hbit
          clear hu t1 t2 hr hjk hlen
          generalize Y[(A + i) / 8].toNat = y at *
          generalize u.toNat = u' at *
          clear hj512
          go_wp2
          go_roundw
          case rel => exact ⟨i + 1, true, by go_num, by omega, by omega, rfl, _, ⟨fun _ => HT2.out, fun _ => rfl⟩, HNEW.out, HLN.out, HVN.out, HBN.out⟩
          case measure => simp [intOf]; omega
        · have t1 := turn_none (z := z) (i := i) (by omega)
          have HT1 := Lib.hid t1
          have hr0 : ((r : Int) == 1) = false := by rw [beq_eq_false_iff_ne]; omega
          clear hr t1 hlen
          go_wp2
          go_roundw
          case rel => exact ⟨i + 1, bb, by go_num, by omega, by omega, rfl, Y, by rw [HT1.out]; exact HBB.out, HSE.out, HLE.out, by rw [HT1.out]; exact HY.out, HB.out⟩
          case measure => simp [intOf]; omega
      · have hzi : z % 2 ^ i < 4294967296 := Nat.lt_of_le_of_lt (Nat.mod_le _ _) hz
        have HTW : Hid (Tab wr) := Lib.hid (HT.out.below HT.out.lt HB.out)
        have hgo2 : ¬ (i < 32) ∨ (i < 32 ∧ ¬ (A + i < 4096)) := by omega
        by_cases h0 : z % 2 ^ i = 0
        · have hYX : Y = X := by
            have h1 := HY.out
            rw [h0, Nat.zero_mul, Nat.xor_zero] at h1
            rw [← leB_leV Y, ← leB_leV X, h1, ← HLE.out, ← HX.out]
          have hsec : Sec wr g0 (pageB k nn gg li) := by rw [hX.out, ← hYX]; exact HSE.out
          have HO := Lib.hid (open_page HTW.out hm493 hno hgg hsec HM.out)
          obtain rfl : bb = false := by
            cases bb
            · rfl
            · exact absurd h0 (HBB.out.1 rfl)
          clear hYX hsec HY h0 hlen HBB
          rcases hgo2 with hg1 | ⟨hg1, hg2⟩
          · go_wp2_with fail
            with_reducible refine HO.out.mono ?_
            rintro e w5 ⟨q5, c5, rfl, h5, hb5⟩
            have HB5 := Lib.hid (HW0.out.trans ((HB.out.trans (hb5.mono HB.out.size)).mono HW0.out.size))
            clear h5 hb5
            go_wp2
            go_ret
            exact ⟨rfl, HB5.out⟩
          · go_wp2_with fail
            with_reducible refine HO.out.mono ?_
            rintro e w5 ⟨q5, c5, rfl, h5, hb5⟩
            have HB5 := Lib.hid (HW0.out.trans ((HB.out.trans (hb5.mono HB.out.size)).mono HW0.out.size))
            clear h5 hb5
            go_wp2
            go_ret
            exact ⟨rfl, HB5.out⟩
        · have hnf : ¬ Fits Y := fun hf => h0 (burst HX.out.symm HLE.out.symm hzi (by omega) HY.out (by rw [← hX.out]; exact pageB_fits hm493) hf)
          have hE : openE Y (nn : Int) = 12 := by unfold openE; rw [if_neg (by have := HLE.out; omega), if_pos hnf]
          have HO : Hid (Calls Tryd.prog 12 #[.slice (some ⟨g0, 0, none⟩) 512 512, .int .i64 (nn : Int)] wr fun e w' => e = .returned (.tuple #[.int .u8 0, .int .i64 0, .slice none 0 0, .int .i64 12]) ∧ Below wr.heap.size wr w') := Lib.hid (open_not HTW.out HLE.out HSE.out (x := 12) hE (by decide))
          obtain rfl : bb = true := HBB.out.2 h0
          clear hnf hE HY h0 hlen HBB
          rcases hgo2 with hg1 | ⟨hg1, hg2⟩
          · go_wp2_with fail
            with_reducible refine HO.out.mono ?_
            rintro e w5 ⟨rfl, hb5⟩
            have HB5 := Lib.hid (HW0.out.trans ((HB.out.trans (hb5.mono HB.out.size)).mono HW0.out.size))
            clear hb5
            go_wp2
            go_ret
            exact ⟨rfl, HB5.out⟩
          · go_wp2_with fail
            with_reducible refine HO.out.mono ?_
            rintro e w5 ⟨rfl, hb5⟩
            have HB5 := Lib.hid (HW0.out.trans ((HB.out.trans (hb5.mono HB.out.size)).mono HW0.out.size))
            clear hb5
            go_wp2
            go_ret
            exact ⟨rfl, HB5.out⟩

theorem lawPBack_any {w : World} (hT : Tab w) (k : UInt8) (gen at0 : Int) {z : Nat} (hz : z < 4294967296) (no : Int) {p : Option Addr} {l : List UInt8} (hl : Bs w p l) {n c : Nat} (hn : n = l.length) (hnc : n ≤ c) (hc : c ≤ 9223372036854775807) :
    Calls Tryd.prog 5 #[.slice p n c, .int .i64 no, .agg #[.int .u8 (k.toNat : Int), .int .i64 gen, .int .i64 at0, .int .u32 (z : Int)]] w fun e w' => e = .returned (.bool true) ∧ Below w.heap.size w w' := by
  by_cases h : 493 < n
  · exact lawPBack_core hT k gen at0 hz no (hl.take 493) (m := 493) (by rw [List.length_take]; omega) (by rw [if_pos h]) hnc hc
  · exact lawPBack_core hT k gen at0 hz no hl (m := n) hn (by rw [if_neg h]) hnc hc

end Go.Proofs.YthkgejkgnkpjdaaDoor
