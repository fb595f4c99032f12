/-
  keys.numberBytes, atomBytes, valueBytes, Put: contracts for the walks.
  keys.valueBytes, bytes.Clone, keys.Put: contracts for the walks.
  keys.Put: its contract.
-/
import Derived.Test.YtekaedafhiddeaaKSpec
import Derived.Test.YtekaedafhiddeaaVAt
import Derived.Test.YtekaedafhiddeaaVValid
import Derived.Test.YtekaedafhiddeaaPInt
import Derived.Test.YtekaedafhiddeaaPText
import Derived.Test.YtekaedafhiddeaaO2
import Derived.Outline
import Derived.Deep.RegionHeld3
set_option linter.unusedVariables false
set_option maxRecDepth 100000
namespace Go.Proofs.Ytekaedafhiddeaa
open Go.RowKit

theorem inKey_outKey {k : Nat} (h : k < 18446744073709551616) : inKey (outKey k) = k := by unfold inKey outKey; omega
theorem outKey_bd {k : Nat} (h : k < 18446744073709551616) : -9223372036854775808 ≤ outKey k ∧ outKey k ≤ 9223372036854775807 := by unfold outKey; omega

theorem putKey_any {k : Nat} (hk : k < 18446744073709551616) {w : World} {p : Option Addr} (hl : Bs w p [32]) :
    Calls Try.prog 33 #[.slice p 1 1, .int .i64 (outKey k)] w (PutPost w (32 :: be8 k)) := by
  have h := putInt_any hl 1 1 rfl (Nat.le_refl _) (by omega) (by simp) (outKey k) (outKey_bd hk).1 (outKey_bd hk).2
  rw [inKey_outKey hk] at h
  exact h

theorem tail_cells {r : Int} (h0 : 0 ≤ r) (h1 : r ≤ 2047) (x : UInt8) {y : Int} (hy : y = (x.toNat : Int)) : #[Value.int .u8 (r / 256), .int .u8 (r % 256), .int .u8 y] = (u8s (tailK r x)).toArray := by
  subst hy
  have e1 : ((UInt8.ofNat (r.toNat / 256)).toNat : Int) = r / 256 := by rw [UInt8.toNat_ofNat']; omega
  have e2 : ((UInt8.ofNat r.toNat).toNat : Int) = r % 256 := by rw [UInt8.toNat_ofNat']; omega
  simp only [u8s, tailK, List.map_cons, List.map_nil, e1, e2]
theorem numK_app (k : Nat) (r : Int) (x : UInt8) : 32 :: be8 k ++ tailK r x = numK k r x := rfl

set_option maxHeartbeats 800000 in
theorem numberBytes_int {w : World} (n : Int) (f : Nat) (s : ByteArray) (h1 : -9223372036854775808 ≤ n) (h2 : n ≤ 9223372036854775807) :
    Calls Try.prog 104 #[.agg #[.int .i64 2, .int .i64 n, .float .f64 f, .string s]] w (PutPost w (numK (keyB (fltB (n - restI n))) (restI n) 0)) := by
  have hst := store_flt
  have HF := Lib.hid (fun w => floor_any (w := w) n h1 h2)
  have HK := Lib.hid (fun w => key_any (w := w) (fltB (n - restI n)) (flt_lt64 _))
  have HP := Lib.hid (fun w p hl => putKey_any (flt_key_lt n h1 h2) (w := w) (p := p) hl)
  have HX := Lib.hid (out_walk (flt_key_lt n h1 h2))
  obtain ⟨r0, r1, r2⟩ := rest_facts h1 h2
  clear h1 h2 r2
  generalize fltB (n - restI n) = g at *
  generalize keyB g = k at *
  generalize restI n = r at *
  have HT := Lib.hid (tail_cells r0 r1 0 (y := 0) rfl)
  go_enter Try.func104, Try.ntmps104
  go_wp2_with fail
  refine (HF.out _).mono ?_; rintro e w' ⟨rfl, rfl⟩
  go_wp2_with fail
  refine (HK.out _).mono ?_; rintro e w' ⟨rfl, rfl⟩
  go_wp2_with fail
  rw [HX.out]
  refine (HP.out _ _ (Bs.new _ _ _ _ (by simp) rfl)).mono ?_
  rintro e w1 ⟨v1, rfl, ho1, hb1⟩
  have HO1 : Hid (Own w1 w.heap.size v1 (32 :: be8 k)) := Lib.hid (ho1.le (by simp; omega))
  have HB1 : Hid (Below w.heap.size w w1) := Lib.hid (box2_below hb1)
  clear ho1 hb1 HF HK HP HX
  go_wp2_with (at_builtin; refine app_own rfl (.tmp 24) (.tmp 31) rfl rfl (HO1.out.alloc _) (m := tailK r 0) rfl rfl (Bs.new _ _ _ _ rfl HT.out) (fun h => by cases h) (by simp [be8, tailK]) (by have := HB1.out.size; simp; omega) ?_; intro v2 w2 ho2 hb2; have HO2 := Lib.hid ho2; have HB2 := Lib.hid ((HB1.out.alloc HB1.out.size _).trans hb2); clear ho2 hb2)
  go_ret
  exact ⟨_, rfl, HO2.out, HB2.out⟩

set_option maxHeartbeats 800000 in
theorem numberBytes_real {w : World} (n : Int) (f : Nat) (s : ByteArray) (hf : f < 18446744073709551616) :
    Calls Try.prog 104 #[.agg #[.int .i64 3, .int .i64 n, .float .f64 f, .string s]] w (PutPost w (numK (keyB f) 0 1)) := by
  have hst := store_flt
  have HK := Lib.hid (fun w => key_any (w := w) f hf)
  have HP := Lib.hid (fun w p hl => putKey_any (keyB_lt hf) (w := w) (p := p) hl)
  have HX := Lib.hid (out_walk (keyB_lt hf))
  clear hf
  generalize keyB f = k at *
  have HT := Lib.hid (tail_cells (r := 0) (by omega) (by omega) 1 (y := 1) rfl)
  go_enter Try.func104, Try.ntmps104
  go_wp2_with fail
  refine (HK.out _).mono ?_; rintro e w' ⟨rfl, rfl⟩
  go_wp2_with fail
  rw [HX.out]
  refine (HP.out _ _ (Bs.new _ _ _ _ (by simp) rfl)).mono ?_
  rintro e w1 ⟨v1, rfl, ho1, hb1⟩
  have HO1 : Hid (Own w1 w.heap.size v1 (32 :: be8 k)) := Lib.hid (ho1.le (by simp; omega))
  have HB1 : Hid (Below w.heap.size w w1) := Lib.hid (box2_below hb1)
  clear ho1 hb1 HK HP HX
  go_wp2_with (at_builtin; refine app_own rfl (.tmp 24) (.tmp 31) rfl rfl (HO1.out.alloc _) (m := tailK 0 1) rfl rfl (Bs.new _ _ _ _ rfl HT.out) (fun h => by cases h) (by simp [be8, tailK]) (by have := HB1.out.size; simp; omega) ?_; intro v2 w2 ho2 hb2; have HO2 := Lib.hid ho2; have HB2 := Lib.hid ((HB1.out.alloc HB1.out.size _).trans hb2); clear ho2 hb2)
  go_ret
  exact ⟨_, rfl, HO2.out, HB2.out⟩

/-- Bytes that the call builds. -/
theorem Own.built {w : World} {B g : Nat} (hg : g = w.heap.size) (hB : B ≤ g) {cs : Array Value} {l : List UInt8} (hc : cs = (u8s l).toArray) {n : Nat} (hn : n = l.length) (hm : n ≤ 1000) : Own (w.alloc (.cells cs 5)) B (.slice (Option.some ⟨g, 0, Option.none⟩) n n) l := by
  subst hg hc hn
  exact ⟨by simp [u8s], .inr ⟨w.heap.size, l.length, (u8s l).toArray, rfl, hB, heap_alloc_new w _, Nat.le_refl _, by simp only [maxLen]; omega, by simp [u8s], by rw [Nat.mul_one]; exact List.take_of_length_le (by simp [u8s])⟩⟩

theorem text_size {k n : Int} {f : Nat} {s : ByteArray} (va : At.valid ⟨k, n, f, s⟩ = true) : s.size ≤ 256 := by
  have h : ∀ l : List UInt8, s.data.toList = l → s.size = l.length := fun l hl => by rw [← hl]; rfl
  rcases kind_valid va with e | e | e | e | e | e
  · rw [h [] (none_text va (by omega))]; decide
  · rw [h [] (none_text va (by omega))]; decide
  · rw [h [] (none_text va (by omega))]; decide
  · rw [h [] (none_text va (by omega))]; decide
  all_goals
    unfold At.valid validA at va
    dsimp only at e
    subst e
    simp at va
    omega

set_option maxHeartbeats 1600000 in
theorem atomBytes_any {w : World} {k n : Int} {f : Nat} {s : ByteArray} (ha : At.Ok ⟨k, n, f, s⟩) (va : At.valid ⟨k, n, f, s⟩ = true) :
    Calls Try.prog 94 #[.agg #[.int .i64 k, .int .i64 n, .float .f64 f, .string s]] w (PutPost w (atomK ⟨k, n, f, s⟩)) := by
  have hst := store_flt
  have h256 := text_size va
  rcases kind_valid va with e | e | e | e | e | e
  all_goals
    dsimp only at e
    subst e
  · have HA : Hid (atomK ⟨0, n, f, s⟩ = [5]) := Lib.hid rfl
    generalize atomK ⟨0, n, f, s⟩ = l at *
    clear ha va
    go_enter Try.func94, Try.ntmps94
    go_wp2
    go_ret
    refine ⟨_, rfl, ?_, box2_below (Below.refl _ _)⟩
    rw [HA.out]
    exact Own.built (by simp) (by simp) rfl rfl (by decide)
  · have hn := bool_num va rfl
    clear ha va
    dsimp only at hn
    rcases hn with rfl | rfl
    · have HA : Hid (atomK ⟨1, 0, f, s⟩ = [16]) := Lib.hid rfl
      generalize atomK ⟨1, 0, f, s⟩ = l at *
      go_enter Try.func94, Try.ntmps94
      go_wp2
      go_ret
      refine ⟨_, rfl, ?_, box2_below (Below.refl _ _)⟩
      rw [HA.out]
      exact Own.built (by simp) (by simp) rfl rfl (by decide)
    · have HA : Hid (atomK ⟨1, 1, f, s⟩ = [17]) := Lib.hid rfl
      generalize atomK ⟨1, 1, f, s⟩ = l at *
      go_enter Try.func94, Try.ntmps94
      go_wp2
      go_ret
      refine ⟨_, rfl, ?_, box2_below (Below.refl _ _)⟩
      rw [HA.out]
      exact Own.built (by simp) (by simp) rfl rfl (by decide)
  · have HN := Lib.hid (fun w => numberBytes_int (w := w) n f s ha.n1 ha.n2)
    have HA : Hid (atomK ⟨2, n, f, s⟩ = numK (keyB (fltB (n - restI n))) (restI n) 0) := Lib.hid rfl
    generalize numK (keyB (fltB (n - restI n))) (restI n) 0 = l at *
    clear ha va
    go_enter Try.func94, Try.ntmps94
    go_wp2_with fail
    refine (HN.out _).mono ?_
    rintro e w1 ⟨v1, rfl, ho1, hb1⟩
    have HO1 := Lib.hid (ho1.le (B' := w.heap.size) (by simp))
    have HB1 := Lib.hid (box_below hb1)
    clear ho1 hb1
    go_wp2
    go_ret
    exact ⟨_, rfl, by rw [HA.out]; exact HO1.out, HB1.out⟩
  · have HN := Lib.hid (fun w => numberBytes_real (w := w) n f s ha.f1)
    have HA : Hid (atomK ⟨3, n, f, s⟩ = numK (keyB f) 0 1) := Lib.hid rfl
    generalize numK (keyB f) 0 1 = l at *
    clear ha va
    go_enter Try.func94, Try.ntmps94
    go_wp2_with fail
    refine (HN.out _).mono ?_
    rintro e w1 ⟨v1, rfl, ho1, hb1⟩
    have HO1 := Lib.hid (ho1.le (B' := w.heap.size) (by simp))
    have HB1 := Lib.hid (box_below hb1)
    clear ho1 hb1
    go_wp2
    go_ret
    exact ⟨_, rfl, by rw [HA.out]; exact HO1.out, HB1.out⟩
  · have HA : Hid (atomK ⟨4, n, f, s⟩ = [48] ++ txt s.data.toList) := Lib.hid rfl
    have HT : Hid (∀ (w : World) p, Bs w p [48] → Calls Try.prog 25 #[.slice p 1 1, .string s] w (PutPost w ([48] ++ txt s.data.toList))) :=
      Lib.hid fun w p hl => putText_any hl 1 1 rfl (by omega) (by omega) (by simp) s _ rfl (by omega)
    generalize [48] ++ txt s.data.toList = l at *
    clear ha va
    go_enter Try.func94, Try.ntmps94
    go_wp2_with fail
    refine (HT.out _ _ (Bs.new _ _ _ _ (by simp) rfl)).mono ?_
    rintro e w1 ⟨v1, rfl, ho1, hb1⟩
    have HO1 := Lib.hid (ho1.le (B' := w.heap.size) (by simp; omega))
    have HB1 := Lib.hid (box2_below hb1)
    clear ho1 hb1
    go_wp2
    go_ret
    exact ⟨_, rfl, by rw [HA.out]; exact HO1.out, HB1.out⟩
  · have HA : Hid (atomK ⟨5, n, f, s⟩ = [49] ++ txt s.data.toList) := Lib.hid rfl
    have HT : Hid (∀ (w : World) p, Bs w p [49] → Calls Try.prog 25 #[.slice p 1 1, .string s] w (PutPost w ([49] ++ txt s.data.toList))) :=
      Lib.hid fun w p hl => putText_any hl 1 1 rfl (by omega) (by omega) (by simp) s _ rfl (by omega)
    generalize [49] ++ txt s.data.toList = l at *
    clear ha va
    go_enter Try.func94, Try.ntmps94
    go_wp2_with fail
    refine (HT.out _ _ (Bs.new _ _ _ _ (by simp) rfl)).mono ?_
    rintro e w1 ⟨v1, rfl, ho1, hb1⟩
    have HO1 := Lib.hid (ho1.le (B' := w.heap.size) (by simp; omega))
    have HB1 := Lib.hid (box2_below hb1)
    clear ho1 hb1
    go_wp2
    go_ret
    exact ⟨_, rfl, by rw [HA.out]; exact HO1.out, HB1.out⟩

end Go.Proofs.Ytekaedafhiddeaa

set_option linter.unusedVariables false
set_option maxRecDepth 100000
namespace Go.Proofs.Ytekaedafhiddeaa
open Go.RowKit

theorem atomK_len {a : At} (va : a.valid = true) : (atomK a).length ≤ 515 := by
  have h : ∀ s : ByteArray, s.size = s.data.toList.length := fun s => rfl
  have h256 := text_size (k := a.k) (n := a.n) (f := a.f) (s := a.s) va
  rw [h] at h256
  have h2 := esc_length a.s.data.toList
  unfold atomK
  repeat' split
  all_goals first
    | (simp only [List.length_cons, List.length_nil]; omega)
    | (rw [List.length_cons, txt_length]; omega)
    | (show 12 ≤ 515; omega)
theorem atomsK_len : ∀ {l : List At}, (∀ x ∈ l, x.valid = true) → (atomsK l).length ≤ 515 * l.length
  | [], _ => by simp [atomsK]
  | a :: l, h => by
    have h1 := atomK_len (h a (by simp))
    have h2 := atomsK_len (l := l) fun x hx => h x (by simp [hx])
    simp only [atomsK, List.length_append, List.length_cons]
    omega
theorem atomsK_take {l : List At} {j : Nat} {a : At} (h : l[j]? = some a) : atomsK (l.take (j + 1)) = atomsK (l.take j) ++ atomK a := by
  obtain ⟨hj, rfl⟩ := List.getElem?_eq_some_iff.1 h
  rw [List.take_succ_eq_append_getElem hj, atomsK_append]
  simp [atomsK]
theorem valK_len {a : At} {l : List At} (va : validV a l = true) : (valK a l).length ≤ 8242 := by
  unfold valK
  rcases valid_parts va with ⟨h, _, _, _, h16, hl⟩ | ⟨h, _, hl⟩
  · rw [if_pos h]
    have := atomsK_len hl
    simp only [List.length_cons, List.length_append, List.length_nil]
    omega
  · rw [if_neg h]
    have := atomK_len hl
    omega
theorem valK_pos (a : At) (l : List At) : 0 < (valK a l).length := by
  unfold valK
  split
  · simp
  · obtain ⟨t, ht⟩ := atomK_head a
    rw [ht]
    simp

/-- The atoms of a valid list. -/
structure LsOk (l : List At) : Prop where
  n16 : l.length ≤ 16
  ok : ∀ x ∈ l, x.Ok
  va : ∀ x ∈ l, x.valid = true

set_option maxHeartbeats 1600000 in
theorem valueBytes_list {w : World} (n : Int) (f : Nat) (s : ByteArray) {q : Option Addr} {m c : Nat} {l : List At} (hn : m = l.length) (h1 : m ≤ c) (h2 : c ≤ 9223372036854775807) (hl : As w q l) (hv : LsOk l) :
    Calls Try.prog 81 #[.agg #[.int .i64 6, .int .i64 n, .float .f64 f, .string s, .slice q m c]] w (PutPost w (64 :: (atomsK l ++ [0]))) := by
  have hst := store_flt
  have HL := Lib.hid hl
  have HN := Lib.hid hn
  have HV := Lib.hid hv
  clear hl hn hv
  go_enter Try.func81, Try.ntmps81
  go_wp2
  go_loopw [3, 17] (fun v i wr => ∃ j : Nat, i = .int .i64 j ∧ j ≤ m ∧ Own wr w.heap.size v (64 :: atomsK (l.take j)) ∧ Below w.heap.size w wr) (fun _ i _ => m - (intOf i).toNat)
  case atStart => exact ⟨0, rfl, by omega, Own.built (by simp) (by simp) rfl rfl (by decide), box2_below (Below.refl _ _)⟩
  case round =>
    obtain ⟨j, rfl, hj, hown, hb⟩ := hrel
    have HB := Lib.hid hb
    have HO := Lib.hid hown
    have hle : (64 :: atomsK (l.take j)).length ≤ 8241 := by
      have h1 := atomsK_len (l := l.take j) fun x hx => HV.out.va x (List.mem_of_mem_take hx)
      have h2 := List.length_take_le j l
      have h3 := HV.out.n16
      have h4 := List.length_take_le' j l
      simp only [List.length_cons]
      omega
    have HLE := Lib.hid hle
    clear hb hown hle
    by_cases hlt : j < m
    · have hjl : j < l.length := by have := HN.out; omega
      obtain ⟨a, ha⟩ : ∃ a, l[j]? = some a := ⟨_, List.getElem?_eq_getElem hjl⟩
      obtain ⟨b, o, rfl, hc⟩ := HL.out.at ha
      obtain ⟨c0, c1, c2, c3⟩ := hc.below HB.out
      have hblt := (hc.below HB.out).lt
      have HT := Lib.hid (atomsK_take ha)
      have hmem := List.mem_of_getElem? ha
      have HA := Lib.hid (fun w => atomBytes_any (w := w) (k := a.k) (n := a.n) (f := a.f) (s := a.s) (HV.out.ok a hmem) (HV.out.va a hmem))
      have HAL := Lib.hid (atomK_len (HV.out.va a hmem))
      have e : (⟨a.k, a.n, a.f, a.s⟩ : At) = a := rfl
      rw [e] at HA
      clear hc ha hjl hmem e
      go_wp2_with fail
      refine (HA.out _).mono ?_
      rintro e w1 ⟨v1, rfl, ho1, hb1⟩
      obtain ⟨n1, hn1⟩ : ∃ x, x = (atomK a).length := ⟨_, rfl⟩
      obtain ⟨p1, d1, rfl, _, _, hs1, hp1⟩ := ho1.form hn1
      have HN1 := Lib.hid hn1
      have HS1 := Lib.hid hs1
      have HP1 := Lib.hid hp1
      have HB1 : Hid (Below w.heap.size w w1) := Lib.hid (HB.out.trans ((box_below hb1).mono HB.out.size))
      have HO1 := Lib.hid (HO.out.below (box_below hb1))
      clear hn1 hs1 hp1 ho1 hb1 c0 c1 c2 c3
      go_wp2_with (at_builtin; refine app_own rfl (.tmp 21) (.tmp 23) rfl rfl HO1.out HN1.out rfl HS1.out HP1.out (by have := HLE.out; have := HAL.out; omega) HB1.out.size ?_; intro v2 w2 ho2 hb2; have HO2 := Lib.hid ho2; have HB2 := Lib.hid (HB1.out.trans hb2); clear ho2 hb2)
      go_roundw
      case rel => exact ⟨j + 1, by go_num, by omega, by rw [HT.out]; exact HO2.out, HB2.out⟩
      case measure => simp [intOf]; omega
    · have hjt : l.take j = l := List.take_of_length_le (by have := HN.out; omega)
      have HJ := Lib.hid hjt
      clear hjt
      go_wp2_with (at_builtin; refine app_own rfl (.tmp 26) (.tmp 27) rfl rfl (HO.out.alloc _) (m := [0]) rfl rfl (Bs.new _ _ _ _ rfl rfl) (fun h => by cases h) (by have := HLE.out; simp only [List.length_cons, List.length_nil] at *; omega) (by have := HB.out.size; simp; omega) ?_; intro v2 w2 ho2 hb2; have HO2 := Lib.hid ho2; have HB2 := Lib.hid ((HB.out.alloc HB.out.size _).trans hb2); clear ho2 hb2)
      go_ret
      exact ⟨_, rfl, by have h := HO2.out; rw [HJ.out] at h; exact h, HB2.out⟩

set_option maxHeartbeats 800000 in
theorem valueBytes_one {w : World} {k n : Int} {f : Nat} {s : ByteArray} (q : Option Addr) (m c : Nat) (hk : k ≠ 6) (ha : At.Ok ⟨k, n, f, s⟩) (va : At.valid ⟨k, n, f, s⟩ = true) :
    Calls Try.prog 81 #[.agg #[.int .i64 k, .int .i64 n, .float .f64 f, .string s, .slice q m c]] w (PutPost w (atomK ⟨k, n, f, s⟩)) := by
  have hst := store_flt
  have HA := Lib.hid (fun w => atomBytes_any (w := w) ha va)
  have hk' : (k != 6) = true := by simpa using hk
  clear ha va hk
  generalize atomK ⟨k, n, f, s⟩ = l at *
  go_enter Try.func81, Try.ntmps81
  go_wp2_with fail
  refine (HA.out _).mono ?_
  rintro e w1 ⟨v1, rfl, ho1, hb1⟩
  have HO1 := Lib.hid (ho1.le (B' := w.heap.size) (by simp))
  have HB1 := Lib.hid (box_below hb1)
  clear ho1 hb1
  go_wp2
  go_ret
  exact ⟨_, rfl, HO1.out, HB1.out⟩

theorem valueBytes_any {w : World} {k n : Int} {f : Nat} {s : ByteArray} {q : Option Addr} {m c : Nat} {l : List At} (h : VaOk w ⟨k, n, f, s⟩ q m c l) (va : validV ⟨k, n, f, s⟩ l = true) :
    Calls Try.prog 81 #[.agg #[.int .i64 k, .int .i64 n, .float .f64 f, .string s, .slice q m c]] w (PutPost w (valK ⟨k, n, f, s⟩ l)) := by
  rcases valid_parts va with ⟨hk, _, _, _, h16, hl⟩ | ⟨hk, hn, hl⟩
  · dsimp only at hk
    subst hk
    exact valueBytes_list n f s h.hn h.h1 h.h2 h.hl ⟨h16, h.hok, hl⟩
  · have e : valK ⟨k, n, f, s⟩ l = atomK ⟨k, n, f, s⟩ := by unfold valK; rw [if_neg hk]
    rw [e]
    exact valueBytes_one q m c hk h.ok hl

set_option maxHeartbeats 800000 in
theorem clone_any {w : World} {p : Option Addr} {l : List UInt8} (hl : Bs w p l) {n c : Nat} (hn : n = l.length) (hp : p = none → c = 0) (hlen : l.length ≤ 100000) :
    Calls Try.prog 80 #[.slice p n c] w (PutPost w l) := by
  have HL := Lib.hid hl
  have HN := Lib.hid hn
  have HP := Lib.hid hp
  clear hn hl hp
  have hnil := fun (a : Option Addr) (n c : Nat) (w : World) => Lib.run_eql_slice_nil (P := Try.prog) w _ _ a n c 0 0 Try.underlying29
  cases p with
  | none =>
    have h0 : l = [] := by
      rcases l with _ | ⟨u, m⟩
      · rfl
      · obtain ⟨b, o, hp, _⟩ := HL.out (by simp)
        cases hp
    have H0 := Lib.hid h0
    clear h0
    go_enter Try.func80, Try.ntmps80
    go_wp2
    go_ret
    exact ⟨_, rfl, by rw [H0.out]; exact Own.nil _ _, Below.refl _ _⟩
  | some a =>
    go_enter Try.func80, Try.ntmps80
    go_wp2_with (at_builtin; refine app_own rfl (.tmp 5) (.tmp 6) rfl rfl (Own.empty w w.heap.size (Nat.le_refl _)) HN.out rfl (HL.out.alloc _) HP.out (by simp; omega) (by simp) ?_; intro v1 w1 ho1 hb1; have HO1 := Lib.hid ho1; have HB1 := Lib.hid ((Below.alloc (Below.refl w.heap.size w) (Nat.le_refl _) _).trans hb1); clear ho1 hb1)
    go_ret
    exact ⟨_, rfl, HO1.out, HB1.out⟩

end Go.Proofs.Ytekaedafhiddeaa

set_option linter.unusedVariables false
set_option maxRecDepth 100000
namespace Go.Proofs.Ytekaedafhiddeaa
open Go.RowKit

/-- A box: all its cells in later worlds. -/
theorem box_all {w w1 : World} {cs : Array Value} {t : TypeId} (hb : Below (w.alloc (.cells cs t)).heap.size (w.alloc (.cells cs t)) w1) : ∀ i, w1.cell? ⟨w.heap.size, i, none⟩ = cs[i]? := box_cell hb

set_option maxHeartbeats 1600000 in
theorem keysPut_any {w : World} {p : Option Addr} {b : List UInt8} (hb : Bs w p b) {n0 c0 : Nat} (hn0 : n0 = b.length) (hnc : n0 ≤ c0) (hc0 : c0 ≤ 9223372036854775807) (hp : p = none → c0 = 0) (hlen : b.length ≤ 100000)
    {k n : Int} {f : Nat} {s : ByteArray} {q : Option Addr} {m c : Nat} {l : List At} (h : VaOk w ⟨k, n, f, s⟩ q m c l) :
    Calls Try.prog 57 #[.slice p n0 c0, .agg #[.int .i64 k, .int .i64 n, .float .f64 f, .string s, .slice q m c]] w (PutPost w (b ++ putK ⟨k, n, f, s⟩ l)) := by
  obtain ⟨W, hW⟩ : ∃ W, W = (w.alloc (.cells #[.int .i64 k, .int .i64 n, .float .f64 f, .string s, .slice q m c] 46)) := ⟨_, rfl⟩
  have HK : Hid (∀ w', Below W.heap.size W w' → (w'.cell? ⟨w.heap.size, 0, none⟩ = some (.int .i64 k) ∧ w'.cell? ⟨w.heap.size, 1, none⟩ = some (.int .i64 n) ∧ w'.cell? ⟨w.heap.size, 2, none⟩ = some (.float .f64 f) ∧ w'.cell? ⟨w.heap.size, 3, none⟩ = some (.string s) ∧ w'.cell? ⟨w.heap.size, 4, none⟩ = some (.slice q m c))) := by
    refine Lib.hid fun w' hb => ?_
    rw [hW] at hb
    have h1 := box_all hb
    exact ⟨h1 0, h1 1, h1 2, h1 3, h1 4⟩
  have HWB : Hid (∀ w', Below W.heap.size W w' → Below w.heap.size w w') := by
    refine Lib.hid fun w' hb => ?_
    rw [hW] at hb
    exact box_below hb
  have hWs : W.heap.size = w.heap.size + 1 := by rw [hW]; simp
  have HWs := Lib.hid hWs
  have hst := store_flt
  have H1 : Hid (∀ w', Below W.heap.size W w' → Calls Try.prog 38 #[.agg #[.int .i64 k, .int .i64 n, .float .f64 f, .string s, .slice q m c]] w' fun e w'' => e = .returned (.bool (validV ⟨k, n, f, s⟩ l)) ∧ Below w'.heap.size w' w'') :=
    Lib.hid fun w' hb => valid_any (h.below (HWB.out _ hb))
  have H2 : Hid (validV ⟨k, n, f, s⟩ l = true → ∀ w', Below W.heap.size W w' → Calls Try.prog 81 #[.agg #[.int .i64 k, .int .i64 n, .float .f64 f, .string s, .slice q m c]] w' (PutPost w' (valK ⟨k, n, f, s⟩ l))) :=
    Lib.hid fun va w' hb => valueBytes_any (h.below (HWB.out _ hb)) va
  have HE : Hid (putK ⟨k, n, f, s⟩ l = if validV ⟨k, n, f, s⟩ l = true then valK ⟨k, n, f, s⟩ l else []) := Lib.hid rfl
  have HV : Hid (validV ⟨k, n, f, s⟩ l = true → (valK ⟨k, n, f, s⟩ l).length ≤ 8242) := Lib.hid valK_len
  have HV0 : Hid (0 < (valK ⟨k, n, f, s⟩ l).length) := Lib.hid (valK_pos _ _)
  have HL := Lib.hid hb
  have HN := Lib.hid hn0
  have HP := Lib.hid hp
  clear h hb hn0 hp hWs
  generalize putK ⟨k, n, f, s⟩ l = pv at *
  generalize valK ⟨k, n, f, s⟩ l = vv at *
  generalize validV ⟨k, n, f, s⟩ l = x at *
  obtain ⟨n1, hn1⟩ : ∃ x, x = vv.length := ⟨_, rfl⟩
  have HN1 := Lib.hid hn1
  clear hn1
  go_enter Try.func57, Try.ntmps57
  go_wp2_with fail
  rw [← hW]
  replace hW := Lib.hid hW
  refine (H1.out _ (Below.refl _ _)).mono ?_; rintro e w1 ⟨rfl, hb1⟩
  have HB1 := Lib.hid hb1
  have HL1 := Lib.hid (HL.out.below (HWB.out _ hb1))
  clear hb1
  cases x
  · have hE : pv = [] := by rw [HE.out, if_neg (by simp)]
    subst hE
    go_wp2_with fail
    refine (clone_any HL1.out HN.out HP.out hlen).mono ?_
    rintro e w2 ⟨v2, rfl, ho2, hb2⟩
    have HO2 := Lib.hid ho2
    have HB2 := Lib.hid (HB1.out.trans (hb2.mono HB1.out.size))
    clear ho2 hb2
    go_wp2
    go_ret
    exact ⟨_, rfl, by rw [List.append_nil]; exact HO2.out.le (HWB.out _ HB1.out).size, HWB.out _ HB2.out⟩
  · have hE : pv = vv := by rw [HE.out, if_pos rfl]
    subst hE
    have H3 := Lib.hid (H2.out (by trivial))
    have HV3 := Lib.hid (HV.out (by trivial))
    clear H2 HV HE
    go_wp2_with fail
    go_region_held3 (fun w' => w'.cell? ⟨w.heap.size, 0, none⟩ = some (.int .i64 k) ∧ w'.cell? ⟨w.heap.size, 1, none⟩ = some (.int .i64 n) ∧ w'.cell? ⟨w.heap.size, 2, none⟩ = some (.float .f64 f) ∧ w'.cell? ⟨w.heap.size, 3, none⟩ = some (.string s) ∧ w'.cell? ⟨w.heap.size, 4, none⟩ = some (.slice q m c))
      (first | exact HK.out _ HB1.out.drew | exact HK.out _ HB3.out | exact HK.out _ HB2.out)
      (first
        | (go_at_call 81; refine (H3.out _ HB1.out.drew).mono ?_; rintro e w2 ⟨v2, rfl, ho2, hb2⟩; have HB2 : Hid (Below W.heap.size W w2) := Lib.hid (HB1.out.drew.trans (hb2.mono HB1.out.drew.size)); obtain ⟨p2, c2, rfl, _, _, hs2, _⟩ := ho2.form HN1.out; have HS2 := Lib.hid hs2; clear ho2 hb2 hs2)
        | (refine step_full rfl (.tmp 15) (.tmp 17) rfl HN.out HN.out rfl (HL.out.below (HWB.out _ HB2.out)) HN1.out rfl HS2.out HV0.out (by have := HV3.out; omega) ?_; intro v3 w3 ho3 hb3; have HO3 := Lib.hid ho3; have HB3 : Hid (Below W.heap.size W w3) := Lib.hid (HB2.out.trans (hb3.mono HB2.out.size)); clear ho3 hb3))
    go_wp2
    go_ret
    exact ⟨_, rfl, HO3.out.le (HWB.out _ HB2.out).size, HWB.out _ HB3.out⟩

end Go.Proofs.Ytekaedafhiddeaa

