/-
  node's rest: part, number, text: contracts.
-/
import Derived.Test.YtigmibmebockhaaNdMem
import Derived.Deep.QuietTactic
import Derived.BigQuiet
set_option linter.unusedVariables false
set_option maxRecDepth 100000
namespace Go.Proofs.Ytigmibmebockhaa
open Go.RowKit

/-- What was not read yet stands at g. -/
def Rs (w : World) (g : Nat) (l : List UInt8) : Prop :=
  ∃ p n c, w.heap[g]? = some (.cells #[.slice p n c] 76 (0, 0)) ∧ Bs w p l ∧ n = l.length ∧ n ≤ c ∧ c ≤ 9223372036854775807 ∧ (p = none → c = 0) ∧ ∀ a, p = some a → a.block < g
theorem Rs.lt {w : World} {g : Nat} {l : List UInt8} (h : Rs w g l) : g < w.heap.size := by
  obtain ⟨p, n, c, hb, _⟩ := h
  exact (Array.getElem?_eq_some_iff.1 hb).1
theorem Rs.low {w w' : World} {g : Nat} {l : List UInt8} (h : Rs w g l) (hb : Below (g + 1) w w') : Rs w' g l := by
  obtain ⟨p, n, c, h1, h2, h3, h4, h5, h6, h7⟩ := h
  exact ⟨p, n, c, by rw [hb.block g (by omega)]; exact h1, h2.low h7 (hb.mono (by omega)), h3, h4, h5, h6, h7⟩
theorem Rs.below {w w' : World} {g : Nat} {l : List UInt8} (h : Rs w g l) (hb : Below w.heap.size w w') : Rs w' g l := h.low (hb.mono h.lt)
theorem rs_set {w : World} {g : Nat} {a v : Value} {t : TypeId} (h : w.heap[g]? = some (.cells #[a] t (0, 0))) : (w.setCell ⟨g, 0, none⟩ v).heap[g]? = some (.cells #[v] t (0, 0)) := by
  simp [World.setCell, Array.getElem?_modify, h]

/-- A part of a page's bytes, and what is left. -/
def PartPost (w : World) (g : Nat) (t l : List UInt8) (e : Ending) (w' : World) : Prop :=
  ∃ p m, e = .returned (.slice p m m) ∧ m = t.length ∧ Bs w' p t ∧ (p = none → m = 0) ∧ (∀ a, p = some a → a.block < g) ∧ Rs w' g l ∧ w.grownBy w' (some g)

theorem drop_addr {w : World} {ad : Addr} {l : List UInt8} {k : Nat} (h : Bs w (some ad) l) : Bs w (some (ad.add k)) (l.drop k) := by
  intro hne
  obtain ⟨b, o, hp, hc⟩ := h (by intro e; subst e; simp at hne)
  obtain rfl := Option.some.inj hp
  rw [Addr.add_lit]
  exact Bs.drop hc k hne

theorem add_block (ad : Addr) (m : Nat) : (ad.add m).block = ad.block := by
  unfold Addr.add
  first | rfl | (split <;> rfl)

theorem part_end {w : World} {g : Nat} {p : Option Addr} {n c : Nat} {l : List UInt8} (hblk : w.heap[g]? = some (.cells #[.slice p n c] 76 (0, 0))) (hbs : Bs w p l) (hn : n = l.length) (hnc : n ≤ c) (hc : c ≤ 9223372036854775807) (hz : p = none → c = 0) (hlo : ∀ a, p = some a → a.block < g)
    (k m : Nat) (hm : m = (l.take k).length) (p' : Option Addr) (n' c' : Nat) (hp : (c = m ∧ p' = p) ∨ (∃ ad, p = some ad ∧ p' = some (ad.add m))) (hn' : n' = n - m) (hc' : c' = c - m) :
    PartPost w g (l.take k) (l.drop k) (.returned (.slice p m m)) (w.setCell ⟨g, 0, none⟩ (.slice p' n' c')) := by
  have hmn : m ≤ n := by rw [hm, List.length_take]; omega
  have hdr : l.drop m = l.drop k := by
    rw [hm, List.length_take]
    rcases Nat.le_total k l.length with h | h
    · rw [Nat.min_eq_left h]
    · rw [Nat.min_eq_right h, List.drop_eq_nil_of_le (Nat.le_refl _), List.drop_eq_nil_of_le h]
  have hbl : Below g w (w.setCell ⟨g, 0, none⟩ (.slice p' n' c')) := (Below.refl _ _).setCell (p := ⟨g, 0, none⟩) (Nat.le_refl _) _
  refine ⟨p, m, rfl, hm, (hbs.take k).low hlo hbl, fun e => by have := hz e; omega, hlo, ⟨p', n', c', rs_set hblk, ?_, by rw [List.length_drop]; rw [hm, List.length_take] at hn'; omega, by omega, by omega, ?_, ?_⟩, gb_set (gb_refl w g) 0 _⟩
  · rcases hp with ⟨h1, rfl⟩ | ⟨ad, rfl, rfl⟩
    · rw [← hdr, List.drop_eq_nil_of_le (by omega)]
      exact Bs.nil _ _
    · rw [← hdr]
      refine (drop_addr hbs).low ?_ hbl
      intro a ha
      obtain rfl := Option.some.inj ha
      rw [add_block]
      exact hlo ad rfl
  · rcases hp with ⟨h1, rfl⟩ | ⟨ad, rfl, rfl⟩
    · intro e; have := hz e; omega
    · intro e; cases e
  · rcases hp with ⟨h1, rfl⟩ | ⟨ad, rfl, rfl⟩
    · exact hlo
    · intro a ha
      obtain rfl := Option.some.inj ha
      rw [add_block]
      exact hlo ad rfl

set_option maxHeartbeats 1600000 in
theorem part_any {w : World} {g : Nat} {l : List UInt8} (h : Rs w g l) (hl : l.length ≤ 100000) (k : Nat) (hk : k ≤ 70000) :
    Calls Try.prog 56 #[.pointer (some ⟨g, 0, none⟩), .int .i64 (k : Int)] w (PartPost w g (l.take k) (l.drop k)) := by
  obtain ⟨p, n, c, hblk, hbs, hn, hnc, hc, hz, hlo⟩ := h
  have hg := (Array.getElem?_eq_some_iff.1 hblk).1
  have c0 : w.cell? ⟨g, 0, none⟩ = some (.slice p n c) := Joins.cell_of_block hblk 0
  have f0 := Joins.unfrozen_of_block hblk 0
  have HE := Lib.hid (part_end hblk hbs hn hnc hc hz hlo k)
  have HN := Lib.hid hn
  have HZ := Lib.hid hz
  rw [← hn] at hl
  clear hblk hbs hn hlo hz
  by_cases hkn : k ≤ n
  · have HM : Hid (k = (l.take k).length) := Lib.hid (by rw [List.length_take, ← HN.out]; omega)
    have hkc : k ≤ c := by omega
    generalize l.take k = T at *
    generalize l.drop k = D at *
    cases p with
    | none =>
      obtain rfl : c = 0 := HZ.out rfl
      obtain rfl : n = 0 := by omega
      obtain rfl : k = 0 := by omega
      clear HZ
      rw [show ((0 : Nat) : Int) = 0 from rfl]
      go_enter Try.func56, Try.ntmps56
      go_wp2
      go_ret
      exact HE.out 0 HM.out none 0 0 (.inl ⟨rfl, rfl⟩) rfl rfl
    | some ad =>
      by_cases hcm : c = k
      · subst hcm
        go_enter Try.func56, Try.ntmps56
        go_wp2
        all_goals
          go_ret
          exact HE.out c HM.out _ _ _ (.inl ⟨rfl, rfl⟩) (by omega) (by omega)
      · go_enter Try.func56, Try.ntmps56
        go_wp2
        go_ret
        exact HE.out k HM.out _ _ _ (.inr ⟨_, rfl, rfl⟩) rfl rfl
  · have HM : Hid (n = (l.take k).length) := Lib.hid (by rw [List.length_take, ← HN.out]; omega)
    have hkn2 : n < k := by omega
    generalize l.take k = T at *
    generalize l.drop k = D at *
    cases p with
    | none =>
      obtain rfl : c = 0 := HZ.out rfl
      obtain rfl : n = 0 := by omega
      clear HZ
      go_enter Try.func56, Try.ntmps56
      go_wp2
      go_ret
      exact HE.out 0 HM.out none 0 0 (.inl ⟨rfl, rfl⟩) rfl rfl
    | some ad =>
      by_cases hcm : c = n
      · subst hcm
        go_enter Try.func56, Try.ntmps56
        go_wp2
        go_ret
        exact HE.out c HM.out _ _ _ (.inl ⟨rfl, rfl⟩) (by simp) (by simp)
      · go_enter Try.func56, Try.ntmps56
        go_wp2
        go_ret
        exact HE.out n HM.out _ _ _ (.inr ⟨_, rfl, rfl⟩) (by simp) rfl

/-- The number that bytes are, the lowest first. -/
def leN : List UInt8 → Nat
  | [] => 0
  | a :: l => a.toNat + 256 * leN l
theorem or_i64 (a b : Nat) (ha : a < 18446744073709551616) (hb : b < 18446744073709551616) : bits BinOp.or IntKind.i64 (a : Int) (b : Int) = IntKind.i64.wrap ((a ||| b : Nat) : Int) := by
  have h5 : ∀ k : Nat, k < 18446744073709551616 → (BitVec.ofInt 64 (k : Int)).toNat = k := fun k hk => by rw [BitVec.ofInt_natCast, BitVec.toNat_ofNat]; exact Nat.mod_eq_of_lt (by omega)
  show IntKind.i64.wrap (((BitVec.ofInt 64 (a : Int) ||| BitVec.ofInt 64 (b : Int)).toNat : Nat) : Int) = _
  rw [BitVec.toNat_or, h5 a ha, h5 b hb]
theorem or_one (x : UInt8) : bits BinOp.or IntKind.i64 ((leN [] : Nat) : Int) (wrap64 (wrap64 (x.toNat : Int))) = ((leN [x] : Nat) : Int) := by
  have hx := x.toNat_lt
  have hw : wrap64 (wrap64 (x.toNat : Int)) = (x.toNat : Int) := by unfold wrap64; omega
  rw [hw]
  show bits BinOp.or IntKind.i64 ((0 : Nat) : Int) (x.toNat : Int) = _
  rw [or_i64 0 x.toNat (by omega) (by omega), Nat.zero_or, IntKind.wrap_i64]
  simp only [leN]
  omega
theorem or_two (a x : UInt8) : bits BinOp.or IntKind.i64 ((leN [a] : Nat) : Int) (wrap64 (wrap64 (x.toNat : Int) * 256)) = ((leN [a, x] : Nat) : Int) := by
  have ha := a.toNat_lt
  have hx := x.toNat_lt
  have hw : wrap64 (wrap64 (x.toNat : Int) * 256) = ((2 ^ 8 * x.toNat : Nat) : Int) := by unfold wrap64; omega
  rw [hw]
  have e1 : leN [a] = a.toNat := by simp [leN]
  rw [e1, or_i64 a.toNat (2 ^ 8 * x.toNat) (by omega) (by omega), Nat.or_comm, ← Nat.two_pow_add_eq_or_of_lt (i := 8) (b := a.toNat) ha x.toNat, IntKind.wrap_i64]
  simp only [leN]
  omega
def NumPost (w : World) (g v : Nat) (l : List UInt8) (e : Ending) (w' : World) : Prop := e = .returned (.int .i64 (v : Int)) ∧ Rs w' g l ∧ w.grownBy w' (some g)

set_option maxHeartbeats 1600000 in
theorem number_any {w : World} {g : Nat} {l : List UInt8} (h : Rs w g l) (hl : l.length ≤ 100000) (k : Nat) (hk : k ≤ 2) :
    Calls Try.prog 48 #[.pointer (some ⟨g, 0, none⟩), .int .i64 (k : Int)] w (NumPost w g (leN (l.take k)) (l.drop k)) := by
  have HP := Lib.hid (part_any h hl k (by omega))
  have ht : (l.take k).length ≤ 2 := by rw [List.length_take]; omega
  generalize l.take k = T at *
  generalize l.drop k = D at *
  clear h hl hk
  go_enter Try.func48, Try.ntmps48
  go_wp2_with fail
  refine HP.out.mono ?_
  rintro e w1 ⟨p, m, rfl, hm, hbs, hz, _, hr, hg⟩
  have HM := Lib.hid hm
  have HBS := Lib.hid hbs
  have HR := Lib.hid hr
  have HG := Lib.hid hg
  have hm2 : m ≤ 2 := by omega
  clear hbs hr hg hz HP hm
  go_wp2
  go_loopw [5, 12] (fun s i wr => ∃ (j : Nat), i = .int .i64 (j : Int) ∧ s = .int .i64 (leN (T.take j) : Nat) ∧ j ≤ m ∧ wr = w1) (fun _ i _ => m - (intOf i).toNat)
  case atStart => exact ⟨0, rfl, rfl, by omega, rfl⟩
  case round =>
    obtain ⟨j, rfl, rfl, hj, hw⟩ := hrel
    subst hw
    by_cases hlt : j < m
    · have hjl : j < T.length := by have := HM.out; omega
      obtain ⟨b, o, rfl, hblt, hcell⟩ := HBS.out.at (by omega)
      have hcj := hcell j hjl
      clear hcell
      obtain ⟨x, hx⟩ : ∃ x, x = T[j] := ⟨_, rfl⟩
      rw [← hx] at hcj
      have HX := Lib.hid hx
      clear hx
      rcases (by omega : j = 0 ∨ j = 1) with rfl | rfl
      · rw [Nat.add_zero] at hcj
        rw [show ((0 : Nat) : Int) = 0 from rfl]
        go_wp2
        go_roundw
        case rel =>
          refine ⟨1, rfl, ?_, by omega, trivial⟩
          rw [or_one, HX.out, List.take_add_one, List.getElem?_eq_getElem hjl]
          rfl
        case measure => simp [intOf]; omega
      · obtain ⟨y, hy⟩ : ∃ y, T.take 1 = [y] := ⟨T[0], by rw [List.take_add_one, List.getElem?_eq_getElem (by omega)]; rfl⟩
        have HY := Lib.hid hy
        rw [show ((1 : Nat) : Int) = 1 from rfl, hy]
        clear hy
        go_wp2
        go_roundw
        case rel =>
          refine ⟨2, rfl, ?_, by omega, trivial⟩
          rw [or_two, List.take_add_one, HY.out, List.getElem?_eq_getElem hjl, HX.out]
          rfl
        case measure => simp [intOf]; omega
    · go_wp2
      go_ret
      refine ⟨ret_int ?_, HR.out, HG.out⟩
      rw [List.take_of_length_le (by have := HM.out; omega)]

end Go.Proofs.Ytigmibmebockhaa
