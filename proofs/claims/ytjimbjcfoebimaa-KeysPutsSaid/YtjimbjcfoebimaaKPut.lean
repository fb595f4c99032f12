/-
  keys.numberBytes, atomBytes, valueBytes, Put: contracts for the walks.
-/
import Derived.Test.YtjimbjcfoebimaaKSpec
import Derived.Test.YtjimbjcfoebimaaVBox
import Derived.Test.YtjimbjcfoebimaaVValid
import Derived.Test.YtjimbjcfoebimaaPInt
import Derived.Test.YtjimbjcfoebimaaPText
import Derived.Outline
set_option linter.unusedVariables false
set_option maxRecDepth 100000
namespace Go.Proofs.Ytjimbjcfoebimaa
open Go.RowKit

theorem inKey_outKey {k : Nat} (h : k < 18446744073709551616) : inKey (outKey k) = k := by unfold inKey outKey; omega
theorem outKey_bd {k : Nat} (h : k < 18446744073709551616) : -9223372036854775808 ≤ outKey k ∧ outKey k ≤ 9223372036854775807 := by unfold outKey; omega

theorem putKey_any {k : Nat} (hk : k < 18446744073709551616) {w : World} {p : Option Addr} (hl : Bs w p [32]) :
    Calls Try.prog 74 #[.slice p 1 1, .int .i64 (outKey k)] w (PutPost w (32 :: be8 k)) := by
  have h := putInt_any hl 1 1 rfl (Nat.le_refl _) (by omega) (by simp) (outKey k) (outKey_bd hk).1 (outKey_bd hk).2
  rw [inKey_outKey hk] at h
  exact h

theorem tail_cells {r : Int} (h0 : 0 ≤ r) (h1 : r ≤ 2047) (x : UInt8) {y : Int} (hy : y = (x.toNat : Int)) : #[Value.int .u8 (r / 256), .int .u8 (r % 256), .int .u8 y] = (u8s (tailK r x)).toArray := by
  subst hy
  have e1 : ((UInt8.ofNat (r.toNat / 256)).toNat : Int) = r / 256 := by rw [UInt8.toNat_ofNat']; omega
  have e2 : ((UInt8.ofNat r.toNat).toNat : Int) = r % 256 := by rw [UInt8.toNat_ofNat']; omega
  simp only [u8s, tailK, List.map_cons, List.map_nil, e1, e2]
theorem numK_app (k : Nat) (r : Int) (x : UInt8) : 32 :: be8 k ++ tailK r x = numK k r x := rfl

set_option maxHeartbeats 800000 in
theorem numberBytes_int {w : World} (n : Int) (f : Nat) (s : ByteArray) (h1 : -9223372036854775808 ≤ n) (h2 : n ≤ 9223372036854775807) :
    Calls Try.prog 59 #[.agg #[.int .i64 2, .int .i64 n, .float .f64 f, .string s]] w (PutPost w (numK (keyB (fltB (n - restI n))) (restI n) 0)) := by
  have hst := store_flt
  have HF := Lib.hid (fun w => floor_any (w := w) n h1 h2)
  have HK := Lib.hid (fun w => key_any (w := w) (fltB (n - restI n)) (flt_lt64 _))
  have HP := Lib.hid (fun w p hl => putKey_any (flt_key_lt n h1 h2) (w := w) (p := p) hl)
  have HX := Lib.hid (out_walk (flt_key_lt n h1 h2))
  obtain ⟨r0, r1, r2⟩ := rest_facts h1 h2
  clear h1 h2 r2
  generalize fltB (n - restI n) = g at *
  generalize keyB g = k at *
  generalize restI n = r at *
  have HT := Lib.hid (tail_cells r0 r1 0 (y := 0) rfl)
  go_enter Try.func59, Try.ntmps59
  go_wp2_with fail
  refine (HF.out _).mono ?_; rintro e w' ⟨rfl, rfl⟩
  go_wp2_with fail
  refine (HK.out _).mono ?_; rintro e w' ⟨rfl, rfl⟩
  go_wp2_with fail
  rw [HX.out]
  refine (HP.out _ _ (Bs.new _ _ _ _ (by simp) rfl)).mono ?_
  rintro e w1 ⟨v1, rfl, ho1, hb1⟩
  have HO1 : Hid (Own w1 w.heap.size v1 (32 :: be8 k)) := Lib.hid (ho1.le (by simp; omega))
  have HB1 : Hid (Below w.heap.size w w1) := Lib.hid (box2_below hb1)
  clear ho1 hb1 HF HK HP HX
  go_wp2_with (at_builtin; refine app_own rfl (.tmp 24) (.tmp 31) rfl rfl (HO1.out.alloc _) (m := tailK r 0) rfl rfl (Bs.new _ _ _ _ rfl HT.out) (fun h => by cases h) (by simp [be8, tailK]) (by have := HB1.out.size; simp; omega) ?_; intro v2 w2 ho2 hb2; have HO2 := Lib.hid ho2; have HB2 := Lib.hid ((HB1.out.alloc HB1.out.size _).trans hb2); clear ho2 hb2)
  go_ret
  exact ⟨_, rfl, HO2.out, HB2.out⟩

set_option maxHeartbeats 800000 in
theorem numberBytes_real {w : World} (n : Int) (f : Nat) (s : ByteArray) (hf : f < 18446744073709551616) :
    Calls Try.prog 59 #[.agg #[.int .i64 3, .int .i64 n, .float .f64 f, .string s]] w (PutPost w (numK (keyB f) 0 1)) := by
  have hst := store_flt
  have HK := Lib.hid (fun w => key_any (w := w) f hf)
  have HP := Lib.hid (fun w p hl => putKey_any (keyB_lt hf) (w := w) (p := p) hl)
  have HX := Lib.hid (out_walk (keyB_lt hf))
  clear hf
  generalize keyB f = k at *
  have HT := Lib.hid (tail_cells (r := 0) (by omega) (by omega) 1 (y := 1) rfl)
  go_enter Try.func59, Try.ntmps59
  go_wp2_with fail
  refine (HK.out _).mono ?_; rintro e w' ⟨rfl, rfl⟩
  go_wp2_with fail
  rw [HX.out]
  refine (HP.out _ _ (Bs.new _ _ _ _ (by simp) rfl)).mono ?_
  rintro e w1 ⟨v1, rfl, ho1, hb1⟩
  have HO1 : Hid (Own w1 w.heap.size v1 (32 :: be8 k)) := Lib.hid (ho1.le (by simp; omega))
  have HB1 : Hid (Below w.heap.size w w1) := Lib.hid (box2_below hb1)
  clear ho1 hb1 HK HP HX
  go_wp2_with (at_builtin; refine app_own rfl (.tmp 24) (.tmp 31) rfl rfl (HO1.out.alloc _) (m := tailK 0 1) rfl rfl (Bs.new _ _ _ _ rfl HT.out) (fun h => by cases h) (by simp [be8, tailK]) (by have := HB1.out.size; simp; omega) ?_; intro v2 w2 ho2 hb2; have HO2 := Lib.hid ho2; have HB2 := Lib.hid ((HB1.out.alloc HB1.out.size _).trans hb2); clear ho2 hb2)
  go_ret
  exact ⟨_, rfl, HO2.out, HB2.out⟩

/-- Bytes that the call builds. -/
theorem Own.built {w : World} {B g : Nat} (hg : g = w.heap.size) (hB : B ≤ g) {cs : Array Value} {l : List UInt8} (hc : cs = (u8s l).toArray) {n : Nat} (hn : n = l.length) (hm : n ≤ 1000) : Own (w.alloc (.cells cs 5)) B (.slice (Option.some ⟨g, 0, Option.none⟩) n n) l := by
  subst hg hc hn
  exact ⟨by simp [u8s], .inr ⟨w.heap.size, l.length, (u8s l).toArray, rfl, hB, heap_alloc_new w _, Nat.le_refl _, by simp only [maxLen]; omega, by simp [u8s], by rw [Nat.mul_one]; exact List.take_of_length_le (by simp [u8s])⟩⟩

theorem text_size {k n : Int} {f : Nat} {s : ByteArray} (va : At.valid ⟨k, n, f, s⟩ = true) : s.size ≤ 256 := by
  have h : ∀ l : List UInt8, s.data.toList = l → s.size = l.length := fun l hl => by rw [← hl]; rfl
  rcases kind_valid va with e | e | e | e | e | e
  · rw [h [] (none_text va (by omega))]; decide
  · rw [h [] (none_text va (by omega))]; decide
  · rw [h [] (none_text va (by omega))]; decide
  · rw [h [] (none_text va (by omega))]; decide
  all_goals
    unfold At.valid validA at va
    dsimp only at e
    subst e
    simp at va
    omega

set_option maxHeartbeats 1600000 in
theorem atomBytes_any {w : World} {k n : Int} {f : Nat} {s : ByteArray} (ha : At.Ok ⟨k, n, f, s⟩) (va : At.valid ⟨k, n, f, s⟩ = true) :
    Calls Try.prog 42 #[.agg #[.int .i64 k, .int .i64 n, .float .f64 f, .string s]] w (PutPost w (atomK ⟨k, n, f, s⟩)) := by
  have hst := store_flt
  have h256 := text_size va
  rcases kind_valid va with e | e | e | e | e | e
  all_goals
    dsimp only at e
    subst e
  · have HA : Hid (atomK ⟨0, n, f, s⟩ = [5]) := Lib.hid rfl
    generalize atomK ⟨0, n, f, s⟩ = l at *
    clear ha va
    go_enter Try.func42, Try.ntmps42
    go_wp2
    go_ret
    refine ⟨_, rfl, ?_, box2_below (Below.refl _ _)⟩
    rw [HA.out]
    exact Own.built (by simp) (by simp) rfl rfl (by decide)
  · have hn := bool_num va rfl
    clear ha va
    dsimp only at hn
    rcases hn with rfl | rfl
    · have HA : Hid (atomK ⟨1, 0, f, s⟩ = [16]) := Lib.hid rfl
      generalize atomK ⟨1, 0, f, s⟩ = l at *
      go_enter Try.func42, Try.ntmps42
      go_wp2
      go_ret
      refine ⟨_, rfl, ?_, box2_below (Below.refl _ _)⟩
      rw [HA.out]
      exact Own.built (by simp) (by simp) rfl rfl (by decide)
    · have HA : Hid (atomK ⟨1, 1, f, s⟩ = [17]) := Lib.hid rfl
      generalize atomK ⟨1, 1, f, s⟩ = l at *
      go_enter Try.func42, Try.ntmps42
      go_wp2
      go_ret
      refine ⟨_, rfl, ?_, box2_below (Below.refl _ _)⟩
      rw [HA.out]
      exact Own.built (by simp) (by simp) rfl rfl (by decide)
  · have HN := Lib.hid (fun w => numberBytes_int (w := w) n f s ha.n1 ha.n2)
    have HA : Hid (atomK ⟨2, n, f, s⟩ = numK (keyB (fltB (n - restI n))) (restI n) 0) := Lib.hid rfl
    generalize numK (keyB (fltB (n - restI n))) (restI n) 0 = l at *
    clear ha va
    go_enter Try.func42, Try.ntmps42
    go_wp2_with fail
    refine (HN.out _).mono ?_
    rintro e w1 ⟨v1, rfl, ho1, hb1⟩
    have HO1 := Lib.hid (ho1.le (B' := w.heap.size) (by simp))
    have HB1 := Lib.hid (box_below hb1)
    clear ho1 hb1
    go_wp2
    go_ret
    exact ⟨_, rfl, by rw [HA.out]; exact HO1.out, HB1.out⟩
  · have HN := Lib.hid (fun w => numberBytes_real (w := w) n f s ha.f1)
    have HA : Hid (atomK ⟨3, n, f, s⟩ = numK (keyB f) 0 1) := Lib.hid rfl
    generalize numK (keyB f) 0 1 = l at *
    clear ha va
    go_enter Try.func42, Try.ntmps42
    go_wp2_with fail
    refine (HN.out _).mono ?_
    rintro e w1 ⟨v1, rfl, ho1, hb1⟩
    have HO1 := Lib.hid (ho1.le (B' := w.heap.size) (by simp))
    have HB1 := Lib.hid (box_below hb1)
    clear ho1 hb1
    go_wp2
    go_ret
    exact ⟨_, rfl, by rw [HA.out]; exact HO1.out, HB1.out⟩
  · have HA : Hid (atomK ⟨4, n, f, s⟩ = [48] ++ txt s.data.toList) := Lib.hid rfl
    have HT : Hid (∀ (w : World) p, Bs w p [48] → Calls Try.prog 58 #[.slice p 1 1, .string s] w (PutPost w ([48] ++ txt s.data.toList))) :=
      Lib.hid fun w p hl => putText_any hl 1 1 rfl (by omega) (by omega) (by simp) s _ rfl (by omega)
    generalize [48] ++ txt s.data.toList = l at *
    clear ha va
    go_enter Try.func42, Try.ntmps42
    go_wp2_with fail
    refine (HT.out _ _ (Bs.new _ _ _ _ (by simp) rfl)).mono ?_
    rintro e w1 ⟨v1, rfl, ho1, hb1⟩
    have HO1 := Lib.hid (ho1.le (B' := w.heap.size) (by simp; omega))
    have HB1 := Lib.hid (box2_below hb1)
    clear ho1 hb1
    go_wp2
    go_ret
    exact ⟨_, rfl, by rw [HA.out]; exact HO1.out, HB1.out⟩
  · have HA : Hid (atomK ⟨5, n, f, s⟩ = [49] ++ txt s.data.toList) := Lib.hid rfl
    have HT : Hid (∀ (w : World) p, Bs w p [49] → Calls Try.prog 58 #[.slice p 1 1, .string s] w (PutPost w ([49] ++ txt s.data.toList))) :=
      Lib.hid fun w p hl => putText_any hl 1 1 rfl (by omega) (by omega) (by simp) s _ rfl (by omega)
    generalize [49] ++ txt s.data.toList = l at *
    clear ha va
    go_enter Try.func42, Try.ntmps42
    go_wp2_with fail
    refine (HT.out _ _ (Bs.new _ _ _ _ (by simp) rfl)).mono ?_
    rintro e w1 ⟨v1, rfl, ho1, hb1⟩
    have HO1 := Lib.hid (ho1.le (B' := w.heap.size) (by simp; omega))
    have HB1 := Lib.hid (box2_below hb1)
    clear ho1 hb1
    go_wp2
    go_ret
    exact ⟨_, rfl, by rw [HA.out]; exact HO1.out, HB1.out⟩

end Go.Proofs.Ytjimbjcfoebimaa
