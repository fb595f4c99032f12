/-
  keys.valueBytes, bytes.Clone, keys.Put: contracts for the walks.
-/
import Derived.Test.YtjimbjcfoebimaaKPut
import Derived.Outline
set_option linter.unusedVariables false
set_option maxRecDepth 100000
namespace Go.Proofs.Ytjimbjcfoebimaa
open Go.RowKit

theorem atomK_len {a : At} (va : a.valid = true) : (atomK a).length ≤ 515 := by
  have h : ∀ s : ByteArray, s.size = s.data.toList.length := fun s => rfl
  have h256 := text_size (k := a.k) (n := a.n) (f := a.f) (s := a.s) va
  rw [h] at h256
  have h2 := esc_length a.s.data.toList
  unfold atomK
  repeat' split
  all_goals first
    | (simp only [List.length_cons, List.length_nil]; omega)
    | (rw [List.length_cons, txt_length]; omega)
    | (show 12 ≤ 515; omega)
theorem atomsK_len : ∀ {l : List At}, (∀ x ∈ l, x.valid = true) → (atomsK l).length ≤ 515 * l.length
  | [], _ => by simp [atomsK]
  | a :: l, h => by
    have h1 := atomK_len (h a (by simp))
    have h2 := atomsK_len (l := l) fun x hx => h x (by simp [hx])
    simp only [atomsK, List.length_append, List.length_cons]
    omega
theorem atomsK_take {l : List At} {j : Nat} {a : At} (h : l[j]? = some a) : atomsK (l.take (j + 1)) = atomsK (l.take j) ++ atomK a := by
  obtain ⟨hj, rfl⟩ := List.getElem?_eq_some_iff.1 h
  rw [List.take_succ_eq_append_getElem hj, atomsK_append]
  simp [atomsK]
theorem valK_len {a : At} {l : List At} (va : validV a l = true) : (valK a l).length ≤ 8242 := by
  unfold valK
  rcases valid_parts va with ⟨h, _, _, _, h16, hl⟩ | ⟨h, _, hl⟩
  · rw [if_pos h]
    have := atomsK_len hl
    simp only [List.length_cons, List.length_append, List.length_nil]
    omega
  · rw [if_neg h]
    have := atomK_len hl
    omega
theorem valK_pos (a : At) (l : List At) : 0 < (valK a l).length := by
  unfold valK
  split
  · simp
  · obtain ⟨t, ht⟩ := atomK_head a
    rw [ht]
    simp

/-- The atoms of a valid list. -/
structure LsOk (l : List At) : Prop where
  n16 : l.length ≤ 16
  ok : ∀ x ∈ l, x.Ok
  va : ∀ x ∈ l, x.valid = true

set_option maxHeartbeats 1600000 in
theorem valueBytes_list {w : World} (n : Int) (f : Nat) (s : ByteArray) {q : Option Addr} {m c : Nat} {l : List At} (hn : m = l.length) (h1 : m ≤ c) (h2 : c ≤ 9223372036854775807) (hl : As w q l) (hv : LsOk l) :
    Calls Try.prog 28 #[.agg #[.int .i64 6, .int .i64 n, .float .f64 f, .string s, .slice q m c]] w (PutPost w (64 :: (atomsK l ++ [0]))) := by
  have hst := store_flt
  have HL := Lib.hid hl
  have HN := Lib.hid hn
  have HV := Lib.hid hv
  clear hl hn hv
  go_enter Try.func28, Try.ntmps28
  go_wp2
  go_loopw [3, 17] (fun v i wr => ∃ j : Nat, i = .int .i64 j ∧ j ≤ m ∧ Own wr w.heap.size v (64 :: atomsK (l.take j)) ∧ Below w.heap.size w wr) (fun _ i _ => m - (intOf i).toNat)
  case atStart => exact ⟨0, rfl, by omega, Own.built (by simp) (by simp) rfl rfl (by decide), box2_below (Below.refl _ _)⟩
  case round =>
    obtain ⟨j, rfl, hj, hown, hb⟩ := hrel
    have HB := Lib.hid hb
    have HO := Lib.hid hown
    have hle : (64 :: atomsK (l.take j)).length ≤ 8241 := by
      have h1 := atomsK_len (l := l.take j) fun x hx => HV.out.va x (List.mem_of_mem_take hx)
      have h2 := List.length_take_le j l
      have h3 := HV.out.n16
      have h4 := List.length_take_le' j l
      simp only [List.length_cons]
      omega
    have HLE := Lib.hid hle
    clear hb hown hle
    by_cases hlt : j < m
    · have hjl : j < l.length := by have := HN.out; omega
      obtain ⟨a, ha⟩ : ∃ a, l[j]? = some a := ⟨_, List.getElem?_eq_getElem hjl⟩
      obtain ⟨b, o, rfl, hc⟩ := HL.out.at ha
      obtain ⟨c0, c1, c2, c3⟩ := hc.below HB.out
      have hblt := (hc.below HB.out).lt
      have HT := Lib.hid (atomsK_take ha)
      have hmem := List.mem_of_getElem? ha
      have HA := Lib.hid (fun w => atomBytes_any (w := w) (k := a.k) (n := a.n) (f := a.f) (s := a.s) (HV.out.ok a hmem) (HV.out.va a hmem))
      have HAL := Lib.hid (atomK_len (HV.out.va a hmem))
      have e : (⟨a.k, a.n, a.f, a.s⟩ : At) = a := rfl
      rw [e] at HA
      clear hc ha hjl hmem e
      go_wp2_with fail
      refine (HA.out _).mono ?_
      rintro e w1 ⟨v1, rfl, ho1, hb1⟩
      obtain ⟨n1, hn1⟩ : ∃ x, x = (atomK a).length := ⟨_, rfl⟩
      obtain ⟨p1, d1, rfl, _, _, hs1, hp1⟩ := ho1.form hn1
      have HN1 := Lib.hid hn1
      have HS1 := Lib.hid hs1
      have HP1 := Lib.hid hp1
      have HB1 : Hid (Below w.heap.size w w1) := Lib.hid (HB.out.trans ((box_below hb1).mono HB.out.size))
      have HO1 := Lib.hid (HO.out.below (box_below hb1))
      clear hn1 hs1 hp1 ho1 hb1 c0 c1 c2 c3
      go_wp2_with (at_builtin; refine app_own rfl (.tmp 21) (.tmp 23) rfl rfl HO1.out HN1.out rfl HS1.out HP1.out (by have := HLE.out; have := HAL.out; omega) HB1.out.size ?_; intro v2 w2 ho2 hb2; have HO2 := Lib.hid ho2; have HB2 := Lib.hid (HB1.out.trans hb2); clear ho2 hb2)
      go_roundw
      case rel => exact ⟨j + 1, by go_num, by omega, by rw [HT.out]; exact HO2.out, HB2.out⟩
      case measure => simp [intOf]; omega
    · have hjt : l.take j = l := List.take_of_length_le (by have := HN.out; omega)
      have HJ := Lib.hid hjt
      clear hjt
      go_wp2_with (at_builtin; refine app_own rfl (.tmp 26) (.tmp 27) rfl rfl (HO.out.alloc _) (m := [0]) rfl rfl (Bs.new _ _ _ _ rfl rfl) (fun h => by cases h) (by have := HLE.out; simp only [List.length_cons, List.length_nil] at *; omega) (by have := HB.out.size; simp; omega) ?_; intro v2 w2 ho2 hb2; have HO2 := Lib.hid ho2; have HB2 := Lib.hid ((HB.out.alloc HB.out.size _).trans hb2); clear ho2 hb2)
      go_ret
      exact ⟨_, rfl, by have h := HO2.out; rw [HJ.out] at h; exact h, HB2.out⟩

set_option maxHeartbeats 800000 in
theorem valueBytes_one {w : World} {k n : Int} {f : Nat} {s : ByteArray} (q : Option Addr) (m c : Nat) (hk : k ≠ 6) (ha : At.Ok ⟨k, n, f, s⟩) (va : At.valid ⟨k, n, f, s⟩ = true) :
    Calls Try.prog 28 #[.agg #[.int .i64 k, .int .i64 n, .float .f64 f, .string s, .slice q m c]] w (PutPost w (atomK ⟨k, n, f, s⟩)) := by
  have hst := store_flt
  have HA := Lib.hid (fun w => atomBytes_any (w := w) ha va)
  have hk' : (k != 6) = true := by simpa using hk
  clear ha va hk
  generalize atomK ⟨k, n, f, s⟩ = l at *
  go_enter Try.func28, Try.ntmps28
  go_wp2_with fail
  refine (HA.out _).mono ?_
  rintro e w1 ⟨v1, rfl, ho1, hb1⟩
  have HO1 := Lib.hid (ho1.le (B' := w.heap.size) (by simp))
  have HB1 := Lib.hid (box_below hb1)
  clear ho1 hb1
  go_wp2
  go_ret
  exact ⟨_, rfl, HO1.out, HB1.out⟩

theorem valueBytes_any {w : World} {k n : Int} {f : Nat} {s : ByteArray} {q : Option Addr} {m c : Nat} {l : List At} (h : VaOk w ⟨k, n, f, s⟩ q m c l) (va : validV ⟨k, n, f, s⟩ l = true) :
    Calls Try.prog 28 #[.agg #[.int .i64 k, .int .i64 n, .float .f64 f, .string s, .slice q m c]] w (PutPost w (valK ⟨k, n, f, s⟩ l)) := by
  rcases valid_parts va with ⟨hk, _, _, _, h16, hl⟩ | ⟨hk, hn, hl⟩
  · dsimp only at hk
    subst hk
    exact valueBytes_list n f s h.hn h.h1 h.h2 h.hl ⟨h16, h.hok, hl⟩
  · have e : valK ⟨k, n, f, s⟩ l = atomK ⟨k, n, f, s⟩ := by unfold valK; rw [if_neg hk]
    rw [e]
    exact valueBytes_one q m c hk h.ok hl

set_option maxHeartbeats 800000 in
theorem clone_any {w : World} {p : Option Addr} {l : List UInt8} (hl : Bs w p l) {n c : Nat} (hn : n = l.length) (hp : p = none → c = 0) (hlen : l.length ≤ 100000) :
    Calls Try.prog 27 #[.slice p n c] w (PutPost w l) := by
  have HL := Lib.hid hl
  have HN := Lib.hid hn
  have HP := Lib.hid hp
  clear hn hl hp
  have hnil := fun (a : Option Addr) (n c : Nat) (w : World) => Lib.run_eql_slice_nil (P := Try.prog) w _ _ a n c 0 0 Try.underlying33
  cases p with
  | none =>
    have h0 : l = [] := by
      rcases l with _ | ⟨u, m⟩
      · rfl
      · obtain ⟨b, o, hp, _⟩ := HL.out (by simp)
        cases hp
    have H0 := Lib.hid h0
    clear h0
    go_enter Try.func27, Try.ntmps27
    go_wp2
    go_ret
    exact ⟨_, rfl, by rw [H0.out]; exact Own.nil _ _, Below.refl _ _⟩
  | some a =>
    go_enter Try.func27, Try.ntmps27
    go_wp2_with (at_builtin; refine app_own rfl (.tmp 5) (.tmp 6) rfl rfl (Own.empty w w.heap.size (Nat.le_refl _)) HN.out rfl (HL.out.alloc _) HP.out (by simp; omega) (by simp) ?_; intro v1 w1 ho1 hb1; have HO1 := Lib.hid ho1; have HB1 := Lib.hid ((Below.alloc (Below.refl w.heap.size w) (Nat.le_refl _) _).trans hb1); clear ho1 hb1)
    go_ret
    exact ⟨_, rfl, HO1.out, HB1.out⟩

end Go.Proofs.Ytjimbjcfoebimaa
