/-
  The reference's number, atom and Put of layer 4: contracts for the walks.
-/
import Derived.Test.YtocplkiomlocpaaKPut
import Derived.Test.YtocplkiomlocpaaR1
import Derived.Test.YtocplkiomlocpaaO3
import Derived.Test.YtocplkiomlocpaaV4
import Derived.Outline
set_option linter.unusedVariables false
set_option maxRecDepth 100000
namespace Go.Proofs.Ytocplkiomlocpaa
open Go.RowKit

set_option maxHeartbeats 3200000 in
theorem refNumber4_any {w : World} (u : Nat) {r : Int} (r0 : 0 ≤ r) (r1 : r ≤ 2047) (x : UInt8) {y : Int} (hy : y = (x.toNat : Int)) :
    Calls Try.prog 108 #[.int .u64 (u : Int), .int .i64 r, .int .u8 y] w (PutPost w (numK u r x)) := by
  have HT := Lib.hid (tail_cells r0 r1 x hy)
  clear hy
  go_enter Try.func108, Try.ntmps108
  go_wp2
  go_loopw [7, 8] (fun v i wr => ∃ j : Nat, i = .int .i64 j ∧ j ≤ 8 ∧ Own wr w.heap.size v ([32] ++ (be8 u).take j) ∧ Below w.heap.size w wr) (fun _ i _ => 8 - (intOf i).toNat)
  case atStart => exact ⟨0, rfl, by omega, Own.built (by simp) (by simp) rfl rfl (by decide), box_below (Below.refl _ _)⟩
  case round =>
    obtain ⟨j, rfl, hj, hown, hb⟩ := hrel
    have HO := Lib.hid hown
    have HB := Lib.hid hb
    clear hown hb
    by_cases hj8 : j < 8
    · have hjs : j = 0 ∨ j = 1 ∨ j = 2 ∨ j = 3 ∨ j = 4 ∨ j = 5 ∨ j = 6 ∨ j = 7 := by omega
      clear hj hj8
      rcases hjs with rfl | rfl | rfl | rfl | rfl | rfl | rfl | rfl
      · have HBY := Lib.hid (byte_of u 72057594037927936).symm
        go_wp2_with (at_builtin; refine app_own rfl (.tmp 14) (.tmp 22) rfl rfl (HO.out.alloc _) (m := [UInt8.ofNat (u / 72057594037927936)]) rfl rfl (Bs.one _ _ _ rfl HBY.out) (fun h => by cases h) (by simp [be8]) (by have := HB.out.size; simp; omega) ?_; intro v2 w2 ho2 hb2; have HO2 := Lib.hid ho2; have HB2 := Lib.hid ((HB.out.alloc HB.out.size _).trans hb2); clear ho2 hb2)
        go_roundw
        case rel => exact ⟨1, rfl, by omega, by have := HO2.out; rw [List.append_assoc] at this; exact this, HB2.out⟩
        case measure => simp [intOf]
      · have HBY := Lib.hid (byte_of u 281474976710656).symm
        go_wp2_with (at_builtin; refine app_own rfl (.tmp 14) (.tmp 22) rfl rfl (HO.out.alloc _) (m := [UInt8.ofNat (u / 281474976710656)]) rfl rfl (Bs.one _ _ _ rfl HBY.out) (fun h => by cases h) (by simp [be8]) (by have := HB.out.size; simp; omega) ?_; intro v2 w2 ho2 hb2; have HO2 := Lib.hid ho2; have HB2 := Lib.hid ((HB.out.alloc HB.out.size _).trans hb2); clear ho2 hb2)
        go_roundw
        case rel => exact ⟨2, rfl, by omega, by have := HO2.out; rw [List.append_assoc] at this; exact this, HB2.out⟩
        case measure => simp [intOf]
      · have HBY := Lib.hid (byte_of u 1099511627776).symm
        go_wp2_with (at_builtin; refine app_own rfl (.tmp 14) (.tmp 22) rfl rfl (HO.out.alloc _) (m := [UInt8.ofNat (u / 1099511627776)]) rfl rfl (Bs.one _ _ _ rfl HBY.out) (fun h => by cases h) (by simp [be8]) (by have := HB.out.size; simp; omega) ?_; intro v2 w2 ho2 hb2; have HO2 := Lib.hid ho2; have HB2 := Lib.hid ((HB.out.alloc HB.out.size _).trans hb2); clear ho2 hb2)
        go_roundw
        case rel => exact ⟨3, rfl, by omega, by have := HO2.out; rw [List.append_assoc] at this; exact this, HB2.out⟩
        case measure => simp [intOf]
      · have HBY := Lib.hid (byte_of u 4294967296).symm
        go_wp2_with (at_builtin; refine app_own rfl (.tmp 14) (.tmp 22) rfl rfl (HO.out.alloc _) (m := [UInt8.ofNat (u / 4294967296)]) rfl rfl (Bs.one _ _ _ rfl HBY.out) (fun h => by cases h) (by simp [be8]) (by have := HB.out.size; simp; omega) ?_; intro v2 w2 ho2 hb2; have HO2 := Lib.hid ho2; have HB2 := Lib.hid ((HB.out.alloc HB.out.size _).trans hb2); clear ho2 hb2)
        go_roundw
        case rel => exact ⟨4, rfl, by omega, by have := HO2.out; rw [List.append_assoc] at this; exact this, HB2.out⟩
        case measure => simp [intOf]
      · have HBY := Lib.hid (byte_of u 16777216).symm
        go_wp2_with (at_builtin; refine app_own rfl (.tmp 14) (.tmp 22) rfl rfl (HO.out.alloc _) (m := [UInt8.ofNat (u / 16777216)]) rfl rfl (Bs.one _ _ _ rfl HBY.out) (fun h => by cases h) (by simp [be8]) (by have := HB.out.size; simp; omega) ?_; intro v2 w2 ho2 hb2; have HO2 := Lib.hid ho2; have HB2 := Lib.hid ((HB.out.alloc HB.out.size _).trans hb2); clear ho2 hb2)
        go_roundw
        case rel => exact ⟨5, rfl, by omega, by have := HO2.out; rw [List.append_assoc] at this; exact this, HB2.out⟩
        case measure => simp [intOf]
      · have HBY := Lib.hid (byte_of u 65536).symm
        go_wp2_with (at_builtin; refine app_own rfl (.tmp 14) (.tmp 22) rfl rfl (HO.out.alloc _) (m := [UInt8.ofNat (u / 65536)]) rfl rfl (Bs.one _ _ _ rfl HBY.out) (fun h => by cases h) (by simp [be8]) (by have := HB.out.size; simp; omega) ?_; intro v2 w2 ho2 hb2; have HO2 := Lib.hid ho2; have HB2 := Lib.hid ((HB.out.alloc HB.out.size _).trans hb2); clear ho2 hb2)
        go_roundw
        case rel => exact ⟨6, rfl, by omega, by have := HO2.out; rw [List.append_assoc] at this; exact this, HB2.out⟩
        case measure => simp [intOf]
      · have HBY := Lib.hid (byte_of u 256).symm
        go_wp2_with (at_builtin; refine app_own rfl (.tmp 14) (.tmp 22) rfl rfl (HO.out.alloc _) (m := [UInt8.ofNat (u / 256)]) rfl rfl (Bs.one _ _ _ rfl HBY.out) (fun h => by cases h) (by simp [be8]) (by have := HB.out.size; simp; omega) ?_; intro v2 w2 ho2 hb2; have HO2 := Lib.hid ho2; have HB2 := Lib.hid ((HB.out.alloc HB.out.size _).trans hb2); clear ho2 hb2)
        go_roundw
        case rel => exact ⟨7, rfl, by omega, by have := HO2.out; rw [List.append_assoc] at this; exact this, HB2.out⟩
        case measure => simp [intOf]
      · have HBY := Lib.hid (byte_of1 u).symm
        go_wp2_with (at_builtin; refine app_own rfl (.tmp 14) (.tmp 22) rfl rfl (HO.out.alloc _) (m := [UInt8.ofNat u]) rfl rfl (Bs.one _ _ _ rfl HBY.out) (fun h => by cases h) (by simp [be8]) (by have := HB.out.size; simp; omega) ?_; intro v2 w2 ho2 hb2; have HO2 := Lib.hid ho2; have HB2 := Lib.hid ((HB.out.alloc HB.out.size _).trans hb2); clear ho2 hb2)
        go_roundw
        case rel => exact ⟨8, rfl, by omega, by have := HO2.out; rw [List.append_assoc] at this; exact this, HB2.out⟩
        case measure => simp [intOf]
    · have hj88 : j = 8 := by omega
      subst hj88
      go_wp2_with (at_builtin; refine app_own rfl (.tmp 24) (.tmp 32) rfl rfl (HO.out.alloc _) (m := tailK r x) rfl rfl (Bs.new _ _ _ _ rfl HT.out) (fun h => by cases h) (by simp [be8, tailK]) (by have := HB.out.size; simp; omega) ?_; intro v2 w2 ho2 hb2; have HO2 := Lib.hid ho2; have HB2 := Lib.hid ((HB.out.alloc HB.out.size _).trans hb2); clear ho2 hb2)
      go_ret
      exact ⟨_, rfl, HO2.out, HB2.out⟩

set_option maxHeartbeats 1600000 in
theorem refAtom4_any {w : World} {k n : Int} {f : Nat} {s : ByteArray} (ha : At.Ok ⟨k, n, f, s⟩) (va : At.valid ⟨k, n, f, s⟩ = true) :
    Calls Try.prog 93 #[.agg #[.int .i64 k, .int .i64 n, .float .f64 f, .string s]] w (PutPost w (atomK ⟨k, n, f, s⟩)) := by
  have hst := store_flt
  have h256 := text_size va
  rcases kind_valid va with e | e | e | e | e | e
  all_goals
    dsimp only at e
    subst e
  · have HA : Hid (atomK ⟨0, n, f, s⟩ = [5]) := Lib.hid rfl
    generalize atomK ⟨0, n, f, s⟩ = l at *
    clear ha va
    go_enter Try.func93, Try.ntmps93
    go_wp2
    go_ret
    refine ⟨_, rfl, ?_, box2_below (Below.refl _ _)⟩
    rw [HA.out]
    exact Own.built (by simp) (by simp) rfl rfl (by decide)
  · have hn := bool_num va rfl
    clear ha va
    dsimp only at hn
    rcases hn with rfl | rfl
    · have HA : Hid (atomK ⟨1, 0, f, s⟩ = [16]) := Lib.hid rfl
      generalize atomK ⟨1, 0, f, s⟩ = l at *
      go_enter Try.func93, Try.ntmps93
      go_wp2
      go_ret
      refine ⟨_, rfl, ?_, box2_below (Below.refl _ _)⟩
      rw [HA.out]
      exact Own.built (by simp) (by simp) rfl rfl (by decide)
    · have HA : Hid (atomK ⟨1, 1, f, s⟩ = [17]) := Lib.hid rfl
      generalize atomK ⟨1, 1, f, s⟩ = l at *
      go_enter Try.func93, Try.ntmps93
      go_wp2
      go_ret
      refine ⟨_, rfl, ?_, box2_below (Below.refl _ _)⟩
      rw [HA.out]
      exact Own.built (by simp) (by simp) rfl rfl (by decide)
  · have HF := Lib.hid (fun w => refFloor_any (w := w) n ha.n1 ha.n2)
    have HK := Lib.hid (fun w => refKey_any (w := w) (fltB (n - restI n)) (flt_lt64 _))
    obtain ⟨r0, r1, r2⟩ := rest_facts ha.n1 ha.n2
    have HN := Lib.hid (fun w => refNumber4_any (w := w) (keyB (fltB (n - restI n))) r0 r1 0 (y := 0) rfl)
    have HA : Hid (atomK ⟨2, n, f, s⟩ = numK (keyB (fltB (n - restI n))) (restI n) 0) := Lib.hid rfl
    clear ha va r2
    generalize numK (keyB (fltB (n - restI n))) (restI n) 0 = l at *
    generalize fltB (n - restI n) = g at *
    generalize keyB g = kk at *
    generalize restI n = r at *
    go_enter Try.func93, Try.ntmps93
    go_wp2_with fail
    refine (HF.out _).mono ?_; rintro e w' ⟨rfl, rfl⟩
    go_wp2_with fail
    refine (HK.out _).mono ?_; rintro e w' ⟨rfl, rfl⟩
    go_wp2_with fail
    refine (HN.out _).mono ?_
    rintro e w1 ⟨v1, rfl, ho1, hb1⟩
    have HO1 := Lib.hid (ho1.le (B' := w.heap.size) (by simp))
    have HB1 := Lib.hid (box_below hb1)
    clear ho1 hb1
    go_wp2
    go_ret
    exact ⟨_, rfl, by rw [HA.out]; exact HO1.out, HB1.out⟩
  · have HK := Lib.hid (fun w => refKey_any (w := w) f ha.f1)
    have HN := Lib.hid (fun w => refNumber4_any (w := w) (keyB f) (r := 0) (by omega) (by omega) 1 (y := 1) rfl)
    have hx := fun w => run_bits f w
    have HA : Hid (atomK ⟨3, n, f, s⟩ = numK (keyB f) 0 1) := Lib.hid rfl
    clear ha va
    generalize numK (keyB f) 0 1 = l at *
    generalize keyB f = kk at *
    go_enter Try.func93, Try.ntmps93
    go_wp2_with fail
    refine (HK.out _).mono ?_; rintro e w' ⟨rfl, rfl⟩
    go_wp2_with fail
    refine (HN.out _).mono ?_
    rintro e w1 ⟨v1, rfl, ho1, hb1⟩
    have HO1 := Lib.hid (ho1.le (B' := w.heap.size) (by simp))
    have HB1 := Lib.hid (box_below hb1)
    clear ho1 hb1
    go_wp2
    go_ret
    exact ⟨_, rfl, by rw [HA.out]; exact HO1.out, HB1.out⟩
  · have HA : Hid (atomK ⟨4, n, f, s⟩ = [48] ++ txt s.data.toList) := Lib.hid rfl
    have HT : Hid (∀ (w : World) p, Bs w (some p) [48] → Calls Try.prog 37 #[.slice (some p) 1 1, .string s] w (PutPost w ([48] ++ txt s.data.toList))) :=
      Lib.hid fun w p hl => refPutText_any hl 1 1 rfl (fun h => by cases h) (by simp) s _ rfl (by omega)
    generalize [48] ++ txt s.data.toList = l at *
    clear ha va
    go_enter Try.func93, Try.ntmps93
    go_wp2_with fail
    refine (HT.out _ _ (Bs.new _ _ _ _ (by simp) rfl)).mono ?_
    rintro e w1 ⟨v1, rfl, ho1, hb1⟩
    have HO1 := Lib.hid (ho1.le (B' := w.heap.size) (by simp; omega))
    have HB1 := Lib.hid (box2_below hb1)
    clear ho1 hb1
    go_wp2
    go_ret
    exact ⟨_, rfl, by rw [HA.out]; exact HO1.out, HB1.out⟩
  · have HA : Hid (atomK ⟨5, n, f, s⟩ = [49] ++ txt s.data.toList) := Lib.hid rfl
    have HT : Hid (∀ (w : World) p, Bs w (some p) [49] → Calls Try.prog 37 #[.slice (some p) 1 1, .string s] w (PutPost w ([49] ++ txt s.data.toList))) :=
      Lib.hid fun w p hl => refPutText_any hl 1 1 rfl (fun h => by cases h) (by simp) s _ rfl (by omega)
    generalize [49] ++ txt s.data.toList = l at *
    clear ha va
    go_enter Try.func93, Try.ntmps93
    go_wp2_with fail
    refine (HT.out _ _ (Bs.new _ _ _ _ (by simp) rfl)).mono ?_
    rintro e w1 ⟨v1, rfl, ho1, hb1⟩
    have HO1 := Lib.hid (ho1.le (B' := w.heap.size) (by simp; omega))
    have HB1 := Lib.hid (box2_below hb1)
    clear ho1 hb1
    go_wp2
    go_ret
    exact ⟨_, rfl, by rw [HA.out]; exact HO1.out, HB1.out⟩

set_option maxHeartbeats 1600000 in
theorem refPut_any {w : World} {p : Option Addr} {b : List UInt8} (hb : Bs w p b) {n0 c0 : Nat} (hn0 : n0 = b.length) (hp : p = none → c0 = 0) (hlen : b.length ≤ 200000)
    {k n : Int} {f : Nat} {s : ByteArray} {q : Option Addr} {m c : Nat} {l : List At} (h : VaOk w ⟨k, n, f, s⟩ q m c l) :
    Calls Try.prog 68 #[.slice p n0 c0, .agg #[.int .i64 k, .int .i64 n, .float .f64 f, .string s, .slice q m c]] w (PutPost w (b ++ putK ⟨k, n, f, s⟩ l)) := by
  obtain ⟨W, hW⟩ : ∃ W, W = (w.alloc (.cells #[.int .i64 k, .int .i64 n, .float .f64 f, .string s, .slice q m c] 45)) := ⟨_, rfl⟩
  have HK : Hid (∀ w', Below W.heap.size W w' → (w'.cell? ⟨w.heap.size, 0, none⟩ = some (.int .i64 k) ∧ w'.cell? ⟨w.heap.size, 1, none⟩ = some (.int .i64 n) ∧ w'.cell? ⟨w.heap.size, 2, none⟩ = some (.float .f64 f) ∧ w'.cell? ⟨w.heap.size, 3, none⟩ = some (.string s) ∧ w'.cell? ⟨w.heap.size, 4, none⟩ = some (.slice q m c))) := by
    refine Lib.hid fun w' hb => ?_
    rw [hW] at hb
    have h1 := box_all hb
    exact ⟨h1 0, h1 1, h1 2, h1 3, h1 4⟩
  have HWB : Hid (∀ w', Below W.heap.size W w' → Below w.heap.size w w') := by
    refine Lib.hid fun w' hb => ?_
    rw [hW] at hb
    exact box_below hb
  have hst := store_flt
  have H1 : Hid (∀ w', Below W.heap.size W w' → Calls Try.prog 31 #[.agg #[.int .i64 k, .int .i64 n, .float .f64 f, .string s, .slice q m c]] w' fun e w'' => e = .returned (.bool (validV ⟨k, n, f, s⟩ l)) ∧ Below w'.heap.size w' w'') :=
    Lib.hid fun w' hb => refValid_any (h.below (HWB.out _ hb))
  have HQ := Lib.hid h
  have h1 := h.h1
  have h2 := h.h2
  have HE : Hid (putK ⟨k, n, f, s⟩ l = if validV ⟨k, n, f, s⟩ l = true then valK ⟨k, n, f, s⟩ l else []) := Lib.hid rfl
  have HV : Hid (validV ⟨k, n, f, s⟩ l = true → (k = 6 ∧ LsOk l) ∨ (k ≠ 6 ∧ At.valid ⟨k, n, f, s⟩ = true)) := Lib.hid fun va => by
    rcases valid_parts va with ⟨hk, _, _, _, h16, hl⟩ | ⟨hk, _, hl⟩
    · exact .inl ⟨hk, h16, HQ.out.hok, hl⟩
    · exact .inr ⟨hk, hl⟩
  have HL := Lib.hid hb
  have HN := Lib.hid hn0
  have HP := Lib.hid hp
  clear h hb hn0 hp
  generalize putK ⟨k, n, f, s⟩ l = pv at *
  generalize validV ⟨k, n, f, s⟩ l = x at *
  have HWs : Hid (W.heap.size = w.heap.size + 1) := Lib.hid (by rw [hW]; simp)
  have HO0 : Hid (Own (W.alloc (.cells #[] 5)) (w.heap.size + 1) (.slice (some ⟨w.heap.size + 1, 0, none⟩) 0 0) []) := Lib.hid (Own.built HWs.out.symm (Nat.le_refl _) rfl rfl (by decide))
  go_enter Try.func68, Try.ntmps68
  go_wp2_with (at_builtin; rw [← hW]; refine app_own rfl (.tmp 7) (.tmp 8) rfl (B := w.heap.size + 1) rfl HO0.out HN.out rfl ((HL.out.below (HWB.out _ (Below.refl _ _))).alloc _) HP.out (by simp; omega) (by have := HWs.out; simp; omega) ?_; intro v1 w1 ho1 hb1; rw [List.nil_append] at ho1; have HO1 := Lib.hid ho1; have HB1 : Hid (Below W.heap.size W w1) := Lib.hid ((Below.alloc (Below.refl W.heap.size W) (Nat.le_refl _) _).trans (hb1.mono (by have := HWs.out; omega))); clear ho1 hb1; obtain ⟨c0, c1, c2, c3, c4⟩ := HK.out _ HB1.out)
  replace hW := Lib.hid hW
  refine (H1.out _ HB1.out).mono ?_; rintro e w2 ⟨rfl, hb2⟩
  have HB2 : Hid (Below W.heap.size W w2) := Lib.hid (HB1.out.trans (hb2.mono HB1.out.size))
  have HO2 := Lib.hid (HO1.out.below hb2)
  clear hb2 c0 c1 c2 c3 c4
  obtain ⟨c0, c1, c2, c3, c4⟩ := HK.out _ HB2.out
  cases x
  · have hE : pv = [] := by rw [HE.out, if_neg (by simp)]
    subst hE
    go_wp2
    go_ret
    exact ⟨_, rfl, by rw [List.append_nil]; exact HO2.out.le (by omega), HWB.out _ HB2.out⟩
  have hE : pv = valK ⟨k, n, f, s⟩ l := by rw [HE.out, if_pos rfl]
  subst hE
  obtain ⟨hk, hls⟩ | ⟨hk, hva⟩ := HV.out (by trivial)
  · subst hk
    have hv6 : valK ⟨6, n, f, s⟩ l = [64] ++ (atomsK l ++ [0]) := rfl
    have HV6 := Lib.hid hv6
    have HLS := Lib.hid hls
    have HQL := Lib.hid HQ.out.hl
    have HQN := Lib.hid HQ.out.hn
    clear hv6 hls HV HE
    generalize valK ⟨6, n, f, s⟩ l = vv at *
    go_wp2_with (at_builtin; refine app_own rfl (.tmp 23) (.tmp 24) rfl (B := w.heap.size + 1) rfl (HO2.out.alloc _) (m := [64]) rfl rfl (Bs.new _ _ _ _ rfl rfl) (fun h => by cases h) (by simp; omega) (by have := HWs.out; have := HB2.out.size; simp; omega) ?_; intro v3 w3 ho3 hb3; have HO3 := Lib.hid ho3; have HB3 : Hid (Below W.heap.size W w3) := Lib.hid ((HB2.out.alloc HB2.out.size _).trans (hb3.mono (by have := HWs.out; omega))); clear ho3 hb3 c0 c1 c2 c3 c4)
    go_loopw [5, 6] (fun v i wr => ∃ j : Nat, i = .int .i64 j ∧ j ≤ m ∧ Own wr (w.heap.size + 1) v (b ++ [64] ++ atomsK (l.take j)) ∧ Below W.heap.size W wr) (fun _ i _ => m - (intOf i).toNat)
    case atStart => exact ⟨0, rfl, by omega, by rw [List.take_zero]; simpa [atomsK] using HO3.out, HB3.out⟩
    case round =>
      obtain ⟨j, rfl, hj, hown, hb⟩ := hrel
      have HB := Lib.hid hb
      have HO := Lib.hid hown
      obtain ⟨_, _, _, _, c4⟩ := HK.out _ HB.out
      have hle : (b ++ [64] ++ atomsK (l.take j)).length ≤ 208241 := by
        have h1 := atomsK_len (l := l.take j) fun x hx => HLS.out.va x (List.mem_of_mem_take hx)
        have h3 := HLS.out.n16
        have h4 := List.length_take_le' j l
        simp only [List.length_append, List.length_cons, List.length_nil]
        omega
      have HLE := Lib.hid hle
      clear hb hown hle
      by_cases hlt : j < m
      · have hjl : j < l.length := by have := HQN.out; omega
        obtain ⟨a, ha⟩ : ∃ a, l[j]? = some a := ⟨_, List.getElem?_eq_getElem hjl⟩
        obtain ⟨b1, o1, rfl, hc⟩ := HQL.out.at ha
        obtain ⟨d0, d1, d2, d3⟩ := hc.below (HWB.out _ HB.out)
        have HT := Lib.hid (atomsK_take ha)
        have hmem := List.mem_of_getElem? ha
        have HA := Lib.hid (fun w => refAtom4_any (w := w) (k := a.k) (n := a.n) (f := a.f) (s := a.s) (HLS.out.ok a hmem) (HLS.out.va a hmem))
        have HAL := Lib.hid (atomK_len (HLS.out.va a hmem))
        have e : (⟨a.k, a.n, a.f, a.s⟩ : At) = a := rfl
        rw [e] at HA
        clear hc ha hjl hmem e
        go_wp2_with fail
        refine (HA.out _).mono ?_
        rintro e w4 ⟨v4, rfl, ho4, hb4⟩
        obtain ⟨n1, hn1⟩ : ∃ x, x = (atomK a).length := ⟨_, rfl⟩
        obtain ⟨p1, e1, rfl, _, _, hs1, hp1⟩ := ho4.form hn1
        have HN1 := Lib.hid hn1
        have HS1 := Lib.hid hs1
        have HP1 := Lib.hid hp1
        have HB4 : Hid (Below W.heap.size W w4) := Lib.hid (HB.out.trans (hb4.mono HB.out.size))
        have HO4 := Lib.hid (HO.out.below hb4)
        clear hn1 hs1 hp1 ho4 hb4 d0 d1 d2 d3 c4
        go_wp2_with (at_builtin; refine app_own rfl (.tmp 33) (.tmp 39) rfl rfl HO4.out HN1.out rfl HS1.out HP1.out (by have := HLE.out; have := HAL.out; omega) (by have := HWs.out; have := HB4.out.size; omega) ?_; intro v5 w5 ho5 hb5; have HO5 := Lib.hid ho5; have HB5 := Lib.hid (HB4.out.trans (hb5.mono (by have := HWs.out; omega))); clear ho5 hb5)
        go_roundw
        case rel => exact ⟨j + 1, by go_num, by omega, by rw [HT.out, ← List.append_assoc]; exact HO5.out, HB5.out⟩
        case measure => simp [intOf]; omega
      · have hjt : l.take j = l := List.take_of_length_le (by have := HQN.out; omega)
        have HJ := Lib.hid hjt
        clear hjt
        go_wp2_with (at_builtin; refine app_own rfl (.tmp 41) (.tmp 42) rfl rfl (HO.out.alloc _) (m := [0]) rfl rfl (Bs.new _ _ _ _ rfl rfl) (fun h => by cases h) (by have := HLE.out; simp only [List.length_cons, List.length_nil] at *; omega) (by have := HWs.out; have := HB.out.size; simp; omega) ?_; intro v2 w2 ho2 hb2; have HO2 := Lib.hid ho2; have HB2 := Lib.hid ((HB.out.alloc HB.out.size _).trans (hb2.mono (by have := HWs.out; omega))); clear ho2 hb2)
        go_ret
        exact ⟨_, rfl, by have h := HO2.out; rw [HJ.out, List.append_assoc, List.append_assoc] at h; rw [HV6.out]; exact h.le (by omega), HWB.out _ HB2.out⟩
  · have HA := Lib.hid (fun w => refAtom4_any (w := w) HQ.out.ok hva)
    have HAL := Lib.hid (atomK_len hva)
    have hv1 : valK ⟨k, n, f, s⟩ l = atomK ⟨k, n, f, s⟩ := by unfold valK; rw [if_neg hk]
    have HV1 := Lib.hid hv1
    have hk' : (k != 6) = true := by simpa using hk
    clear hv1 hk hva HV HE
    generalize valK ⟨k, n, f, s⟩ l = vv at *
    generalize atomK ⟨k, n, f, s⟩ = av at *
    go_wp2_with fail
    refine (HA.out _).mono ?_
    rintro e w4 ⟨v4, rfl, ho4, hb4⟩
    obtain ⟨n1, hn1⟩ : ∃ x, x = av.length := ⟨_, rfl⟩
    obtain ⟨p1, e1, rfl, _, _, hs1, hp1⟩ := ho4.form hn1
    have HN1 := Lib.hid hn1
    have HS1 := Lib.hid hs1
    have HP1 := Lib.hid hp1
    have HB4 : Hid (Below W.heap.size W w4) := Lib.hid (HB2.out.trans (hb4.mono HB2.out.size))
    have HO4 := Lib.hid (HO2.out.below hb4)
    clear hn1 hs1 hp1 ho4 hb4 c0 c1 c2 c3 c4
    go_wp2_with (at_builtin; refine app_own rfl (.tmp 18) (.tmp 21) rfl rfl HO4.out HN1.out rfl HS1.out HP1.out (by have := HAL.out; omega) (by have := HWs.out; have := HB4.out.size; omega) ?_; intro v5 w5 ho5 hb5; have HO5 := Lib.hid ho5; have HB5 := Lib.hid (HB4.out.trans (hb5.mono (by have := HWs.out; omega))); clear ho5 hb5)
    go_ret
    exact ⟨_, rfl, by rw [HV1.out]; exact HO5.out.le (by omega), HWB.out _ HB5.out⟩

end Go.Proofs.Ytocplkiomlocpaa
