/-
  Slices of values: what lies at an address; keys.Tuple: its contract.
-/
import Derived.Test.YtjimbjcfoebimaaKPut
import Derived.Outline
set_option linter.unusedVariables false
set_option maxRecDepth 100000
namespace Go.Proofs.Ytjimbjcfoebimaa
open Go.RowKit

/-- A value in memory: its atom, and where its list lies. -/
structure Va where
  a : At
  q : Option Addr
  m : Nat
  c : Nat
  l : List At
def Va.Ok (w : World) (v : Va) : Prop := VaOk w v.a v.q v.m v.c v.l
def Va.cell (v : Va) : Value := .agg #[.int .i64 v.a.k, .int .i64 v.a.n, .float .f64 v.a.f, .string v.a.s, .slice v.q v.m v.c]

/-- The cells of a value that lies there. -/
structure VaCells (w : World) (b o : Nat) (v : Va) : Prop where
  k : w.cell? ⟨b, o, none⟩ = some (.int .i64 v.a.k)
  n : w.cell? ⟨b, o + 1, none⟩ = some (.int .i64 v.a.n)
  f : w.cell? ⟨b, o + 2, none⟩ = some (.float .f64 v.a.f)
  s : w.cell? ⟨b, o + 3, none⟩ = some (.string v.a.s)
  l : w.cell? ⟨b, o + 4, none⟩ = some (.slice v.q v.m v.c)
theorem VaCells.lt {w : World} {b o : Nat} {v : Va} (h : VaCells w b o v) : b < w.heap.size := by
  have := World.block_lt_of_cell? _ _ h.k
  simpa using this
theorem VaCells.below {w w' : World} {b o : Nat} {v : Va} (h : VaCells w b o v) (hb : Below w.heap.size w w') : VaCells w' b o v := by
  have hlt := h.lt
  obtain ⟨h1, h2, h3, h4, h5⟩ := h
  exact ⟨by rw [hb.cell hlt]; exact h1, by rw [hb.cell hlt]; exact h2, by rw [hb.cell hlt]; exact h3, by rw [hb.cell hlt]; exact h4, by rw [hb.cell hlt]; exact h5⟩

/-- The values l lie at p (of none nothing is said), and are in order. -/
def Vs (w : World) (p : Option Addr) (l : List Va) : Prop :=
  (∀ v ∈ l, v.Ok w) ∧ (l ≠ [] → ∃ b o, p = some ⟨b, o, none⟩ ∧ ∀ i v, l[i]? = some v → VaCells w b (o + i * 5) v)
theorem Vs.below {w w' : World} {p : Option Addr} {l : List Va} (h : Vs w p l) (hb : Below w.heap.size w w') : Vs w' p l := by
  refine ⟨fun v hv => VaOk.below (h.1 v hv) hb, fun hne => ?_⟩
  obtain ⟨b, o, hp, hc⟩ := h.2 hne
  exact ⟨b, o, hp, fun i a hi => (hc i a hi).below hb⟩
theorem Vs.at {w : World} {p : Option Addr} {l : List Va} (h : Vs w p l) {j : Nat} {v : Va} (hj : l[j]? = some v) :
    v.Ok w ∧ ∃ b o, p = some ⟨b, o, none⟩ ∧ VaCells w b (o + j * 5) v := by
  obtain ⟨b, o, hp, hc⟩ := h.2 (by intro e; subst e; simp at hj)
  exact ⟨h.1 v (List.mem_of_getElem? hj), b, o, hp, hc j v hj⟩

/-- P4.3: the bytes of all, one behind the other. -/
def tupK : List Va → List UInt8
  | [] => []
  | v :: l => putK v.a v.l ++ tupK l
theorem tupK_append (l m : List Va) : tupK (l ++ m) = tupK l ++ tupK m := by
  induction l with
  | nil => rfl
  | cons a l ih => simp only [List.cons_append, tupK, ih, List.append_assoc]
theorem tupK_take {l : List Va} {j : Nat} {v : Va} (h : l[j]? = some v) : tupK (l.take (j + 1)) = tupK (l.take j) ++ putK v.a v.l := by
  obtain ⟨hj, rfl⟩ := List.getElem?_eq_some_iff.1 h
  rw [List.take_succ_eq_append_getElem hj, tupK_append]
  simp [tupK]
theorem putK_len (a : At) (l : List At) : (putK a l).length ≤ 8242 := by
  unfold putK
  by_cases h : validV a l = true
  · rw [if_pos h]; exact valK_len h
  · rw [if_neg h]; simp
theorem tupK_len : ∀ l : List Va, (tupK l).length ≤ 8242 * l.length
  | [] => by simp [tupK]
  | v :: l => by
    have h1 := putK_len v.a v.l
    have h2 := tupK_len l
    simp only [tupK, List.length_append, List.length_cons]
    omega

set_option maxHeartbeats 1600000 in
theorem tuple_any {w : World} {p : Option Addr} {n c : Nat} {l : List Va} (hn : n = l.length) (h1 : n ≤ c) (h2 : c ≤ 9223372036854775807) (h64 : n ≤ 64) (hl : Vs w p l) :
    Calls Try.prog 20 #[.slice p n c] w (PutPost w (tupK l)) := by
  have hst := store_flt
  have HL := Lib.hid hl
  have HN := Lib.hid hn
  clear hl hn
  go_enter Try.func20, Try.ntmps20
  go_wp2
  go_loopw [3, 8] (fun v i wr => ∃ j : Nat, i = .int .i64 j ∧ j ≤ n ∧ Own wr w.heap.size v (tupK (l.take j)) ∧ Below w.heap.size w wr) (fun _ i _ => n - (intOf i).toNat)
  case atStart => exact ⟨0, rfl, by omega, Own.nil _ _, Below.refl _ _⟩
  case round =>
    obtain ⟨j, rfl, hj, hown, hb⟩ := hrel
    have HB := Lib.hid hb
    have HO := Lib.hid hown
    have hle : (tupK (l.take j)).length ≤ 1000000 := by
      have h1 := tupK_len (l.take j)
      have h4 := List.length_take_le j l
      omega
    have HLE := Lib.hid hle
    clear hb hown hle
    by_cases hlt : j < n
    · have hjl : j < l.length := by have := HN.out; omega
      obtain ⟨v, hv⟩ : ∃ v, l[j]? = some v := ⟨_, List.getElem?_eq_getElem hjl⟩
      obtain ⟨hok, b, o, rfl, hc⟩ := HL.out.at hv
      obtain ⟨c0, c1, c2, c3, c4⟩ := hc.below HB.out
      have hblt := (hc.below HB.out).lt
      have HT := Lib.hid (tupK_take hv)
      have HOK := Lib.hid hok
      have HPL := Lib.hid (putK_len v.a v.l)
      have HP : Hid (∀ w', Below w.heap.size w w' → Calls Try.prog 14 #[.slice none 0 0, .agg #[.int .i64 v.a.k, .int .i64 v.a.n, .float .f64 v.a.f, .string v.a.s, .slice v.q v.m v.c]] w' (PutPost w' (putK v.a v.l))) := Lib.hid fun w' hb =>
        keysPut_any (w := w') (p := none) (b := []) (Bs.nil _ _) (n0 := 0) (c0 := 0) rfl (by omega) (by omega) (fun _ => rfl) (by simp) (VaOk.below HOK.out hb)
      clear hc hv hjl hok
      generalize putK v.a v.l = X at *
      obtain ⟨n1, hn1⟩ : ∃ x, x = X.length := ⟨_, rfl⟩
      have HN1 := Lib.hid hn1
      clear hn1
      go_wp2_with fail
      refine (HP.out _ (HB.out.trans ((box_below (Below.refl _ _)).mono HB.out.size))).mono ?_
      rintro e w1 ⟨v1, rfl, ho1, hb1⟩
      obtain ⟨p1, d1, rfl, _, _, hs1, hp1⟩ := ho1.form HN1.out
      have HS1 := Lib.hid hs1
      have HP1 := Lib.hid hp1
      have HB1 : Hid (Below w.heap.size w w1) := Lib.hid (HB.out.trans ((box_below hb1).mono HB.out.size))
      have HO1 := Lib.hid (HO.out.below (box_below hb1))
      clear hs1 hp1 ho1 hb1 c0 c1 c2 c3 c4
      go_wp2_with (at_builtin; refine app_own rfl (.tmp 12) (.tmp 14) rfl rfl HO1.out HN1.out rfl HS1.out HP1.out (by have := HLE.out; have := HPL.out; omega) HB1.out.size ?_; intro v2 w2 ho2 hb2; have HO2 := Lib.hid ho2; have HB2 := Lib.hid (HB1.out.trans hb2); clear ho2 hb2)
      go_roundw
      case rel => exact ⟨j + 1, by go_num, by omega, by rw [HT.out]; exact HO2.out, HB2.out⟩
      case measure => simp [intOf]; omega
    · have hjt : l.take j = l := List.take_of_length_le (by have := HN.out; omega)
      have HJ := Lib.hid hjt
      clear hjt
      go_wp2
      go_ret
      exact ⟨_, rfl, by have h := HO.out; rw [HJ.out] at h; exact h, HB.out⟩

end Go.Proofs.Ytjimbjcfoebimaa
