/-
  Where sizes are cut, plain: the best cut of those ahead of n.
  How an argument that is a list of ints opens, for the rows' proofs.
  Package share: sum, right, within, Fits, Poor: contracts.
  Package share: Cut: its contract.
-/
import Derived.Test.YtfpdcfomfikkiaaGreatDoorH00
import Derived.Test.YtfpdcfomfikkiaaGreatDoorH05
import Derived.ProofKit
import Derived.ShutString
import Derived.Carry
import Derived.SizedLaws
import Derived.OpenShut
import Derived.Deep.Onto
import Derived.Deep.Slices
import Derived.Lib.SmallJoins
set_option linter.unusedVariables false
set_option maxRecDepth 100000
namespace Go.Proofs.YtfpdcfomfikkiaaGreatDoor

/-- What stands ahead of a cut, and behind it, together. -/
def shP (l : List Int) (k : Nat) : Int := (l.take k).sum
def shQ (l : List Int) (k : Nat) : Int := (l.drop k).sum
theorem shPQ (l : List Int) (k : Nat) : shP l k + shQ l k = l.sum := by
  unfold shP shQ
  rw [← List.sum_append, List.take_append_drop]
def shG (l : List Int) (k : Nat) : Int := if shP l k ≤ shQ l k then shQ l k - shP l k else shP l k - shQ l k
def ShFit (l : List Int) (most : Int) (k : Nat) : Prop := shP l k ≤ most ∧ shQ l k ≤ most
instance (l : List Int) (most : Int) (k : Nat) : Decidable (ShFit l most k) := inferInstanceAs (Decidable (_ ∧ _))

theorem shP_zero (l : List Int) : shP l 0 = 0 := by simp [shP]
theorem shP_succ {l : List Int} {k : Nat} {x : Int} (h : l[k]? = some x) : shP l (k + 1) = shP l k + x := by
  unfold shP
  rw [List.take_add_one, h]
  simp
theorem shG_le (l : List Int) (k : Nat) : 0 ≤ shG l k := by unfold shG; split <;> omega

/-- The best cut of those from 1 on, below n. -/
structure ShBest (l : List Int) (most : Int) (n b : Nat) (d : Int) (f : Bool) : Prop where
  no : f = false → b = 0 ∧ d = 0 ∧ ∀ i, 1 ≤ i → i < n → ¬ ShFit l most i
  yes : f = true → 1 ≤ b ∧ b < n ∧ ShFit l most b ∧ d = shG l b ∧ ∀ i, 1 ≤ i → i < n → ShFit l most i → shG l b ≤ shG l i ∧ (i < b → shG l b < shG l i)

theorem ShBest.one (l : List Int) (most : Int) : ShBest l most 1 0 0 false := ⟨fun _ => ⟨rfl, rfl, fun i h1 h2 => by omega⟩, fun h => by cases h⟩
theorem ShBest.zero {l : List Int} {most : Int} {b : Nat} {d : Int} {f : Bool} (h : ShBest l most 1 b d f) : ShBest l most 0 b d f := by
  cases f
  · obtain ⟨h1, h2, h3⟩ := h.no rfl
    exact ⟨fun _ => ⟨h1, h2, fun i h4 h5 => by omega⟩, fun h => by cases h⟩
  · obtain ⟨h1, h2, _⟩ := h.yes rfl
    omega
theorem ShBest.skip {l : List Int} {most : Int} {n b : Nat} {d : Int} {f : Bool} (h : ShBest l most n b d f) (hs : ¬ ShFit l most n ∨ (f = true ∧ d ≤ shG l n)) : ShBest l most (n + 1) b d f := by
  cases f
  · obtain ⟨h1, h2, h3⟩ := h.no rfl
    have h4 : ¬ ShFit l most n := by rcases hs with h | ⟨h, _⟩; exact h; cases h
    refine ⟨fun _ => ⟨h1, h2, fun i h5 h6 => ?_⟩, fun h => by cases h⟩
    rcases Nat.lt_or_ge i n with h7 | h7
    · exact h3 i h5 h7
    · obtain rfl : i = n := by omega
      exact h4
  · obtain ⟨h1, h2, h3, h4, h5⟩ := h.yes rfl
    refine ⟨fun h => (by cases h), fun _ => ⟨h1, by omega, h3, h4, fun i h6 h7 h8 => ?_⟩⟩
    rcases Nat.lt_or_ge i n with h9 | h9
    · exact h5 i h6 h9 h8
    · obtain rfl : i = n := by omega
      rcases hs with h | ⟨_, h⟩
      · exact absurd h8 h
      · exact ⟨by omega, by omega⟩
theorem ShBest.take {l : List Int} {most : Int} {n b : Nat} {d : Int} {f : Bool} (h : ShBest l most n b d f) (hn : 1 ≤ n) (hf : ShFit l most n) (hs : f = false ∨ shG l n < d) : ShBest l most (n + 1) n (shG l n) true := by
  refine ⟨fun h => (by cases h), fun _ => ⟨hn, by omega, hf, rfl, fun i h6 h7 h8 => ?_⟩⟩
  rcases Nat.lt_or_ge i n with h9 | h9
  · cases f
    · exact absurd h8 ((h.no rfl).2.2 i h6 h9)
    · obtain ⟨h1, h2, h3, h4, h5⟩ := h.yes rfl
      have := (h5 i h6 h9 h8).1
      rcases hs with h | h
      · cases h
      · exact ⟨by omega, by omega⟩
  · obtain rfl : i = n := by omega
    exact ⟨by omega, by omega⟩
theorem ShBest.only {l : List Int} {most : Int} {n b b' : Nat} {d d' : Int} {f f' : Bool} (h : ShBest l most n b d f) (h' : ShBest l most n b' d' f') : b = b' ∧ f = f' := by
  cases f <;> cases f'
  · exact ⟨(h.no rfl).1.trans (h'.no rfl).1.symm, rfl⟩
  · obtain ⟨h1, h2, h3, h4, h5⟩ := h'.yes rfl
    exact absurd h3 ((h.no rfl).2.2 _ h1 h2)
  · obtain ⟨h1, h2, h3, h4, h5⟩ := h.yes rfl
    exact absurd h3 ((h'.no rfl).2.2 _ h1 h2)
  · obtain ⟨h1, h2, h3, h4, h5⟩ := h.yes rfl
    obtain ⟨g1, g2, g3, g4, g5⟩ := h'.yes rfl
    obtain ⟨a1, a2⟩ := h5 _ g1 g2 g3
    obtain ⟨c1, c2⟩ := g5 _ h1 h2 h3
    refine ⟨?_, rfl⟩
    rcases Nat.lt_trichotomy b b' with h | h | h
    · have := c2 h; omega
    · exact h
    · have := a2 h; omega

/-- What Cut answers. -/
def shRight (l : List Int) : Prop := l.length ≤ 4096 ∧ ∀ x ∈ l, 0 ≤ x ∧ x ≤ 1048576
instance (l : List Int) : Decidable (shRight l) := inferInstanceAs (Decidable (_ ∧ _))
def ShCut (l : List Int) (most : Int) (b : Nat) (f : Bool) : Prop :=
  (0 ≤ most ∧ shRight l → ∃ d, ShBest l most l.length b d f) ∧ (¬ (0 ≤ most ∧ shRight l) → b = 0 ∧ f = false)
theorem ShCut.only {l : List Int} {most : Int} {b b' : Nat} {f f' : Bool} (h : ShCut l most b f) (h' : ShCut l most b' f') : b = b' ∧ f = f' := by
  by_cases hc : 0 ≤ most ∧ shRight l
  · obtain ⟨d, h1⟩ := h.1 hc
    obtain ⟨d', h2⟩ := h'.1 hc
    exact h1.only h2
  · obtain ⟨rfl, rfl⟩ := h.2 hc
    obtain ⟨rfl, rfl⟩ := h'.2 hc
    exact ⟨rfl, rfl⟩
/-- A cut that is the only one, or the best by trial. -/
theorem ShCut.is {l : List Int} {most : Int} {b k : Nat} {f : Bool} (h : ShCut l most b f) (h0 : 0 ≤ most) (hr : shRight l) (hk : 1 ≤ k) (hkn : k < l.length) (hf : ShFit l most k)
    (hall : ∀ i, 1 ≤ i → i < l.length → i ≠ k → shG l k < shG l i) : b = k ∧ f = true := by
  obtain ⟨d, h1⟩ := h.1 ⟨h0, hr⟩
  cases f
  · exact absurd hf ((h1.no rfl).2.2 k hk hkn)
  · obtain ⟨g1, g2, g3, g4, g5⟩ := h1.yes rfl
    refine ⟨?_, rfl⟩
    rcases Nat.decEq b k with hne | he
    · have := hall b g1 g2 hne
      have := (g5 k hk hkn hf).1
      omega
    · exact he
theorem ShCut.two {x y most : Int} {b : Nat} {f : Bool} (h : ShCut [x, y] most b f) (h0 : 0 ≤ most) (hx : 0 ≤ x ∧ x ≤ most ∧ x ≤ 1048576) (hy : 0 ≤ y ∧ y ≤ most ∧ y ≤ 1048576) : b = 1 ∧ f = true :=
  h.is h0 ⟨by simp, by simp; omega⟩ (Nat.le_refl 1) (by simp) (by simp [ShFit, shP, shQ]; omega) (fun i h1 h2 h3 => by simp at h2; omega)
theorem ShCut.three {b : Nat} {f : Bool} (h : ShCut [3, 3, 4] 7 b f) : b = 2 ∧ f = true :=
  h.is (by decide) ⟨by decide, by decide⟩ (by decide) (by decide) (by decide) (fun i h1 h2 h3 => by
    obtain rfl : i = 1 := by simp at h2; omega
    decide)

theorem sum_bounds {l : List Int} {B : Int} (h : ∀ x ∈ l, 0 ≤ x ∧ x ≤ B) : 0 ≤ l.sum ∧ l.sum ≤ l.length * B := by
  induction l with
  | nil => simp
  | cons x t ih =>
    have h1 := h x (by simp)
    have h2 := ih fun y hy => h y (by simp [hy])
    have h3 : ((x :: t).length : Int) * B = t.length * B + B := by simp [Int.add_mul]
    rw [List.sum_cons]
    omega
theorem shP_bounds {l : List Int} {B : Int} (h : ∀ x ∈ l, 0 ≤ x ∧ x ≤ B) (hB : 0 ≤ B) (k : Nat) : 0 ≤ shP l k ∧ shP l k ≤ l.length * B := by
  have h1 := sum_bounds (l := l.take k) fun x hx => h x (List.mem_of_mem_take hx)
  have h2 := sum_bounds (l := l.drop k) fun x hx => h x (List.mem_of_mem_drop hx)
  have h3 := shPQ l k
  have h4 := sum_bounds h
  unfold shP shQ at *
  omega
theorem shQ_bounds {l : List Int} {B : Int} (h : ∀ x ∈ l, 0 ≤ x ∧ x ≤ B) (hB : 0 ≤ B) (k : Nat) : 0 ≤ shQ l k ∧ shQ l k ≤ l.length * B := by
  have h1 := sum_bounds (l := l.take k) fun x hx => h x (List.mem_of_mem_take hx)
  have h2 := sum_bounds (l := l.drop k) fun x hx => h x (List.mem_of_mem_drop hx)
  have h3 := shPQ l k
  have h4 := sum_bounds h
  unfold shP shQ at *
  omega

/-- Things of at most a third each, together above the most, without the last one not: both parts of the best cut are at least a third. -/
theorem sh_halves {l : List Int} {most b : Int} {k : Nat} {f : Bool} (h : ShCut l most k f) (h9 : 9 ≤ most) (hm : most ≤ 1048576) (hl : l.length ≤ 4096) (ht : ∀ x ∈ l, 0 ≤ x ∧ x ≤ most / 3) (ha : most < l.sum) (hb : l.sum ≤ most + most / 3) :
    f = true ∧ 1 ≤ k ∧ k < l.length ∧ shP l k ≤ most ∧ shQ l k ≤ most ∧ most - 2 ≤ 3 * shP l k ∧ most - 2 ≤ 3 * shQ l k := by
  obtain ⟨d, h1⟩ := h.1 ⟨by omega, hl, fun x hx => ⟨(ht x hx).1, by have := (ht x hx).2; omega⟩⟩
  -- the first cut whose part is at least a half
  have hex : ∃ i, i ≤ l.length ∧ l.sum ≤ 2 * shP l i ∧ ∀ j, j < i → 2 * shP l j < l.sum := by
    have key : ∀ n, n ≤ l.length → (∃ i, i ≤ n ∧ l.sum ≤ 2 * shP l i ∧ ∀ j, j < i → 2 * shP l j < l.sum) ∨ ∀ j, j ≤ n → 2 * shP l j < l.sum := by
      intro n
      induction n with
      | zero => intro _; refine .inr fun j hj => ?_; obtain rfl : j = 0 := by omega
                rw [shP_zero]; omega
      | succ n ih =>
        intro hn
        rcases ih (by omega) with ⟨i, h2, h3⟩ | h2
        · exact .inl ⟨i, by omega, h3⟩
        · rcases Int.lt_or_le (2 * shP l (n + 1)) l.sum with h3 | h3
          · refine .inr fun j hj => ?_
            rcases Nat.lt_or_ge n j with h4 | h4
            · obtain rfl : j = n + 1 := by omega
              exact h3
            · exact h2 j h4
          · exact .inl ⟨n + 1, Nat.le_refl _, h3, fun j hj => h2 j (by omega)⟩
    rcases key l.length (Nat.le_refl _) with h2 | h2
    · exact h2
    · have := h2 l.length (Nat.le_refl _)
      have h3 : shP l l.length = l.sum := by simp [shP]
      omega
  obtain ⟨i, hi, hi1, hi2⟩ := hex
  have hi0 : 1 ≤ i := by
    rcases Nat.eq_zero_or_pos i with h | h
    · subst h; rw [shP_zero] at hi1; omega
    · exact h
  obtain ⟨x, hx⟩ : ∃ x, l[i - 1]? = some x := ⟨_, List.getElem?_eq_getElem (by omega)⟩
  have hxm := ht x (List.mem_of_getElem? hx)
  have hs : shP l i = shP l (i - 1) + x := by
    have := shP_succ hx
    rwa [Nat.sub_add_cancel hi0] at this
  have hp := hi2 (i - 1) (by omega)
  have ex : ∃ j, 1 ≤ j ∧ j < l.length ∧ ShFit l most j ∧ shG l j ≤ most / 3 := by
    have go : ∀ j, j ≤ l.length → shG l j ≤ most / 3 → ∃ j, 1 ≤ j ∧ j < l.length ∧ ShFit l most j ∧ shG l j ≤ most / 3 := by
      intro j hj hg
      have e := shPQ l j
      have hg' := hg
      unfold shG at hg'
      refine ⟨j, ?_, ?_, ?_, hg⟩
      · rcases Nat.eq_zero_or_pos j with h | h
        · subst h; rw [shP_zero] at e hg'; split at hg' <;> omega
        · exact h
      · rcases Nat.lt_or_ge j l.length with h | h
        · exact h
        · have : shP l j = l.sum := by simp [shP, List.take_of_length_le h]
          split at hg' <;> omega
      · unfold ShFit
        split at hg' <;> omega
    have e1 := shPQ l i
    have e2 := shPQ l (i - 1)
    rcases Int.le_total (2 * shP l i - l.sum) (most / 3) with h | h
    · refine go i hi ?_
      unfold shG
      split <;> omega
    · refine go (i - 1) (by omega) ?_
      unfold shG
      split <;> omega
  obtain ⟨j, hj1, hj2, hj3, hj4⟩ := ex
  cases f
  · exact absurd hj3 ((h1.no rfl).2.2 j hj1 hj2)
  · obtain ⟨g1, g2, g3, g4, g5⟩ := h1.yes rfl
    have g6 := (g5 j hj1 hj2 hj3).1
    have e := shPQ l k
    have g7 : shG l k ≤ most / 3 := by omega
    unfold shG at g7
    unfold ShFit at g3
    refine ⟨rfl, g1, g2, g3.1, g3.2, ?_, ?_⟩ <;> split at g7 <;> omega
/-- Where all may stand together, there is a cut as soon as there are two. -/
theorem sh_small {l : List Int} {most : Int} {k : Nat} {f : Bool} (h : ShCut l most k f) (h0 : 0 ≤ most) (hl : l.length ≤ 4096) (ht : ∀ x ∈ l, 0 ≤ x ∧ x ≤ 1048576) (ha : l.sum ≤ most) : f = decide (1 < l.length) := by
  obtain ⟨d, h1⟩ := h.1 ⟨h0, hl, ht⟩
  cases f
  · have h2 := (h1.no rfl).2.2
    by_cases h3 : 1 < l.length
    · have h4 := h2 1 (Nat.le_refl _) h3
      exfalso
      apply h4
      have e := shPQ l 1
      have h5 := shP_bounds ht (by decide) 1
      have h6 := shQ_bounds ht (by decide) 1
      exact ⟨by omega, by omega⟩
    · simp [h3]
  · obtain ⟨g1, g2, _⟩ := h1.yes rfl
    simp; omega
end Go.Proofs.YtfpdcfomfikkiaaGreatDoor

set_option linter.unusedVariables false
set_option maxRecDepth 100000
namespace Go.Proofs.YtfpdcfomfikkiaaGreatDoor
open Go.ChangeShapes Go.WideShapes Go.ChangeAt Go.RowKit

structure KsOk (w : World) (q : Option Addr) (m c : Nat) (l : List Int) : Prop where
  hn : m = l.length
  h1 : m ≤ c
  h2 : c ≤ 9223372036854775807
  hl : Ks w q l

theorem KsOk.below {w w' : World} {q : Option Addr} {m c : Nat} {l : List Int} (h : KsOk w q m c l) (hb : Below w.heap.size w w') : KsOk w' q m c l := ⟨h.hn, h.h1, h.h2, h.hl.below hb⟩
theorem cells_one : Tryz.prog.cellsOf 3 = 1 := by kernel_rfl

theorem open_keep {H : Type} {enc : TypeId × Value → H} {W : World} {fuel : Nat} {cs : List Value} {x : DataW H × List MemPlace}
    (h : DataW.trod enc Tryz.prog W 0 (fun _ => true) true fuel 33 cs = some x) : ∃ (q : Option Addr) (m c : Nat) (l : List Int), cs = [.slice q m c] ∧ KsOk W q m c l := by
  rcases Deep.open_slice Tryz.underlying33 h with ⟨hcs, _⟩ | ⟨a, len, cap, m, n, D, Pl, hcs, _, hl, hm, hmm, hx, hi⟩
  · exact ⟨none, 0, 0, [], hcs, rfl, by omega, by omega, fun h => absurd rfl h⟩
  · simp only [if_true] at hmm
    obtain rfl := hmm
    have hcell : ∀ i, i < len → ∃ t : Int, W.cells? 0 (a.add (i * 1)) 1 = some [.int .i64 t] := by
      intro i hil
      obtain ⟨cs', h1, h2⟩ := hi i (by omega)
      obtain ⟨s, e0, _, w0⟩ := DataW.trod_int Tryz.underlying3 h2
      rw [cells_one, e0] at h1
      exact ⟨s, h1⟩
    obtain ⟨F, hF⟩ := Deep.choose_lt hcell
    unfold maxLen at hm
    refine ⟨some a, len, m, (List.range len).map F, hcs, by simp, hl, by omega, ?_⟩
    intro hne
    have h0 : 0 < len := by
      rcases Nat.eq_zero_or_pos len with h | h
      · subst h; simp at hne
      · exact h
    obtain ⟨b, o, s⟩ := a
    have hs : s = none := by
      obtain ⟨_, _, hc⟩ := World.cells?_some (hF 0 h0)
      have := World.cell?_spot ((hc 0 (by omega)).trans rfl)
      simpa [Addr.add] using this
    subst hs
    refine ⟨b, o, rfl, fun i t hit => ?_⟩
    rw [List.getElem?_map] at hit
    have hil : i < len := by
      rcases Nat.lt_or_ge i len with h | h
      · exact h
      · rw [List.getElem?_eq_none (by simpa using h)] at hit
        cases hit
    rw [List.getElem?_eq_getElem (by simpa using hil)] at hit
    simp only [List.getElem_range, Option.map_some, Option.some.injEq] at hit
    subst hit
    obtain ⟨_, _, hc⟩ := World.cells?_some (hF i hil)
    have c0 := hc 0 (by omega)
    rw [Deep.add_add, add_plain, Nat.mul_one, Nat.add_zero] at c0
    exact c0

end Go.Proofs.YtfpdcfomfikkiaaGreatDoor

set_option linter.unusedVariables false
set_option maxRecDepth 100000
namespace Go.Proofs.YtfpdcfomfikkiaaGreatDoor
open Go.RowKit

theorem ks_ok {w : World} {q : Option Addr} {c : Nat} {l : List Int} (h : KsOk w q l.length c l) : Ks w q l := h.hl

set_option maxHeartbeats 800000 in
theorem ssum_any {w : World} {q : Option Addr} {m c : Nat} {l : List Int} (h : KsOk w q m c l) (hb : ∀ x ∈ l, 0 ≤ x ∧ x ≤ 8589934592) (hl : l.length ≤ 4096) :
    Calls Tryz.prog 151 #[.slice q m c] w fun e w' => e = .returned (.int .i64 l.sum) ∧ w' = w := by
  obtain ⟨rfl, h1, h2, hk⟩ := h
  have HK := Lib.hid hk
  have HB := Lib.hid hb
  have hl2 : l.length < 9223372036854775808 := by omega
  clear hk hb
  go_enter Tryz.func151, Tryz.ntmps151
  go_wp2
  go_loopw [3, 8] (fun x i wr => ∃ j : Nat, x = .int .i64 (shP l j) ∧ i = .int .i64 (j : Int) ∧ j ≤ l.length ∧ wr = w) (fun _ i _ => l.length - (intOf i).toNat)
  case atStart => exact ⟨0, by rw [shP_zero], rfl, by omega, rfl⟩
  case round =>
    obtain ⟨j, rfl, rfl, hj, rfl⟩ := hrel
    by_cases hjl : j < l.length
    · obtain ⟨x, hx⟩ : ∃ x, l[j]? = some x := ⟨_, List.getElem?_eq_getElem hjl⟩
      obtain ⟨b, o, hq, hcell⟩ := HK.out.at hx
      have hs := Lib.hid (shP_succ hx)
      have hx1 := HB.out x (List.mem_of_getElem? hx)
      have hp := shP_bounds HB.out (by omega) j
      subst hq
      clear hx
      generalize shP l j = p at *
      go_wp2
      go_roundw
      case rel => exact ⟨j + 1, by rw [hs.out], by go_num, by omega, trivial⟩
      case measure => simp [intOf]; omega
    · obtain rfl : j = l.length := by omega
      have hs : Hid (shP l l.length = l.sum) := Lib.hid (by simp [shP])
      generalize shP l l.length = p at *
      go_wp2
      go_ret
      exact ⟨by rw [← hs.out]; rfl, rfl⟩

theorem shRight_any (l : List Int) : shRight l ↔ l.length ≤ 4096 ∧ ∀ x ∈ l, 0 ≤ x ∧ x ≤ 1048576 := Iff.rfl
def SrPost (w : World) (l : List Int) (e : Ending) (w' : World) : Prop := (∃ b : Bool, e = .returned (.bool b) ∧ (b = true ↔ shRight l)) ∧ w' = w
set_option maxHeartbeats 800000 in
theorem sright_any {w : World} {q : Option Addr} {m c : Nat} {l : List Int} (h : KsOk w q m c l) :
    Calls Tryz.prog 150 #[.slice q m c] w (SrPost w l) := by
  obtain ⟨rfl, h1, h2, hk⟩ := h
  have HK := Lib.hid hk
  have HR := Lib.hid (shRight_any l)
  by_cases hl : l.length ≤ 4096
  · have d1 : decide ((4096 : Int) < l.length) = false := decide_eq_false (by omega)
    clear hk
    go_enter Tryz.func150, Tryz.ntmps150
    go_wp2
    go_loopw [10] (fun i wr => ∃ j : Nat, i = .int .i64 (j : Int) ∧ j ≤ l.length ∧ (∀ x ∈ l.take j, 0 ≤ x ∧ x ≤ 1048576) ∧ wr = w) (fun i _ => l.length - (intOf i).toNat)
    case atStart => exact ⟨0, rfl, by omega, fun x hx => by simp at hx, rfl⟩
    case round =>
      obtain ⟨j, rfl, hj, hall, rfl⟩ := hrel
      have HA := Lib.hid hall
      clear hall
      by_cases hjl : j < l.length
      · obtain ⟨x, hx⟩ : ∃ x, l[j]? = some x := ⟨_, List.getElem?_eq_getElem hjl⟩
        obtain ⟨b, o, hq, hcell⟩ := HK.out.at hx
        have HX := Lib.hid hx
        subst hq
        clear hx
        by_cases hx0 : x < 0
        · have e1 : decide (x < 0) = true := decide_eq_true hx0
          go_wp2
          go_ret
          exact ⟨⟨false, rfl, fun h => (by cases h), fun h => by have := (HR.out.1 h).2 x (List.mem_of_getElem? HX.out); omega⟩, rfl⟩
        · have e1 : decide (x < 0) = false := decide_eq_false hx0
          by_cases hx1 : 1048576 < x
          · have e2 : decide (1048576 < x) = true := decide_eq_true hx1
            go_wp2
            go_ret
            exact ⟨⟨false, rfl, fun h => (by cases h), fun h => by have := (HR.out.1 h).2 x (List.mem_of_getElem? HX.out); omega⟩, rfl⟩
          · have e2 : decide (1048576 < x) = false := decide_eq_false hx1
            go_wp2
            go_roundw
            case rel =>
              refine ⟨j + 1, by go_num, by omega, ?_, trivial⟩
              intro y hy
              rw [List.take_add_one, HX.out] at hy
              rcases List.mem_append.1 hy with hy | hy
              · exact HA.out y hy
              · simp at hy
                subst hy
                omega
            case measure => simp [intOf]; omega
      · obtain rfl : j = l.length := by omega
        go_wp2
        go_ret
        refine ⟨⟨true, rfl, fun _ => HR.out.2 ⟨hl, fun x hx => HA.out x (by simpa using hx)⟩, fun _ => rfl⟩, rfl⟩
  · have d1 : decide ((4096 : Int) < l.length) = true := decide_eq_true (by omega)
    clear hk
    go_enter Tryz.func150, Tryz.ntmps150
    go_wp2
    go_ret
    exact ⟨⟨false, rfl, fun h => (by cases h), fun h => absurd (HR.out.1 h).1 hl⟩, rfl⟩

/-- Whether parts are so many together. -/
def withinS : Int → List Int → Bool
  | _, [] => true
  | left, p :: l => if p < 0 ∨ left < p then false else withinS (left - p) l
theorem within_step {v x : Int} {l : List Int} (h1 : 0 ≤ x) (h2 : x ≤ v) : withinS v (x :: l) = withinS (v - x) l := by
  conv => lhs; unfold withinS
  rw [if_neg (by omega)]
def fitsS (a b more most : Int) : Bool := decide (0 ≤ a ∧ 0 ≤ b ∧ 0 ≤ more ∧ a + b + more ≤ most)
theorem within_fits (a b more most : Int) : withinS most [a, b, more] = fitsS a b more most := by
  unfold fitsS
  by_cases h : 0 ≤ a ∧ 0 ≤ b ∧ 0 ≤ more ∧ a + b + more ≤ most
  · rw [decide_eq_true h]
    simp only [withinS]
    rw [if_neg (by omega), if_neg (by omega), if_neg (by omega)]
  · rw [decide_eq_false h]
    simp only [withinS]
    split
    · rfl
    · split
      · rfl
      · split
        · rfl
        · omega

end Go.Proofs.YtfpdcfomfikkiaaGreatDoor

set_option linter.unusedVariables false
set_option maxRecDepth 100000
namespace Go.Proofs.YtfpdcfomfikkiaaGreatDoor
open Go.RowKit

def shGap (x y : Int) : Int := if x ≤ y then y - x else x - y
def shIn (x y most : Int) : Bool := decide (x ≤ most ∧ y ≤ most)
theorem shGap_is (l : List Int) (k : Nat) : shGap (shP l k) (shQ l k) = shG l k := rfl
theorem shIn_is (l : List Int) (most : Int) (k : Nat) : shIn (shP l k) (shQ l k) most = true ↔ ShFit l most k := by
  unfold shIn ShFit
  exact decide_eq_true_iff
def ApPost (w : World) (a b most : Int) (e : Ending) (w' : World) : Prop := e = .returned (.tuple #[.int .i64 (shGap a b), .bool (shIn a b most)]) ∧ Below w.heap.size w w'

set_option maxHeartbeats 800000 in
theorem apart_any {w : World} {A M : Nat} {a all most : Int} (hA : w.cell? ⟨A, 0, none⟩ = some (.int .i64 all)) (hM : w.cell? ⟨M, 0, none⟩ = some (.int .i64 most)) (ha : 0 ≤ a ∧ a ≤ 8589934592) (hall : 0 ≤ all ∧ all ≤ 8589934592) :
    Calls Tryz.prog 152 #[.int .i64 a, .pointer (some ⟨A, 0, none⟩), .pointer (some ⟨M, 0, none⟩)] w (ApPost w a (all - a) most) := by
  obtain ⟨ha1, ha2⟩ := ha
  obtain ⟨hb1, hb2⟩ := hall
  have hd : Hid (∀ v b, v = shGap a (all - a) → b = shIn a (all - a) most → ApPost w a (all - a) most (.returned (.tuple #[.int .i64 v, .bool b])) w.drew) := Lib.hid fun v b h1 h2 => by
    subst h1 h2
    exact ⟨rfl, (Below.refl _ _).drew⟩
  have hg : Hid (shGap a (all - a) = if a ≤ all - a then all - a - a else a - (all - a)) := Lib.hid rfl
  have hi : Hid (shIn a (all - a) most = decide (a ≤ most ∧ all - a ≤ most)) := Lib.hid rfl
  go_enter Tryz.func152, Tryz.ntmps152
  go_wp2
  go_region
  all_goals go_wp2
  all_goals
    go_ret2
    refine hd.out _ _ ?_ ?_
    · rw [hg.out]
      split <;> omega
    · rw [hi.out]
      exact decide_eq_decide.2 (by omega)

/-- What Cut answers. -/
def ShCutPost (w : World) (l : List Int) (most : Int) (e : Ending) (w' : World) : Prop := ∃ (b : Nat) (f : Bool), e = .returned (.tuple #[.int .i64 (b : Int), .bool f]) ∧ ShCut l most b f ∧ Below w.heap.size w w'

theorem alloc_old {w : World} {R : Nat} {x : Obj} (h : w.heap[R]? = some x) (o : Obj) : (w.alloc o).heap[R]? = some x := by
  rw [Below.heap_alloc _ _ _ (Array.getElem?_eq_some_iff.1 h).1]
  exact h
theorem ks_two {w : World} (x y : Int) : KsOk (w.alloc (.cells #[.int .i64 x, .int .i64 y] 3)) (some ⟨w.heap.size, 0, none⟩) 2 2 [x, y] := by
  refine ⟨rfl, Nat.le_refl _, by omega, fun _ => ⟨w.heap.size, 0, rfl, fun i z hz => ?_⟩⟩
  match i, hz with
  | 0, hz => cases hz; exact Joins.cell_of_block (heap_alloc_new w _) 0
  | 1, hz => cases hz; exact Joins.cell_of_block (heap_alloc_new w _) 1

set_option maxHeartbeats 1600000 in
theorem shCut_any {w : World} {q : Option Addr} {m c : Nat} {l : List Int} (h : KsOk w q m c l) (most : Int) :
    Calls Tryz.prog 123 #[.slice q m c, .int .i64 most] w (ShCutPost w l most) := by
  have hmf : ∀ (fn : Fn) (first cap : Array Value) (w : World), (Instr.makeFunc fn first cap).run Tryz.prog w = .ok (.func fn first cap) w := fun _ _ _ _ => rfl
  have eg : ∀ args (w : World), (callFunc 152 args).run Tryz.prog w = .ok (.enter 152 args) w := fun _ _ => rfl
  have hb0 : Below w.heap.size w (w.alloc (.cells #[.int .i64 most] 3)) := (Below.refl _ _).alloc (Nat.le_refl _) _
  have HB0 := Lib.hid hb0
  have HR := Lib.hid (sright_any (h.below hb0))
  have HBAD : Hid (∀ w', (most < 0 ∨ ¬ shRight l) → Below w.heap.size w w' → ShCutPost w l most (.returned (.tuple #[.int .i64 0, .bool false])) w') := Lib.hid fun w' h1 h2 => ⟨0, false, rfl, ⟨fun h3 => by rcases h1 with h1 | h1; omega; exact absurd h3.2 h1, fun _ => ⟨rfl, rfl⟩⟩, h2⟩
  have HK := Lib.hid h
  obtain ⟨rfl, hc1, hc2, hk⟩ := h
  clear hk hb0
  by_cases h0 : most < 0
  · have e0 : decide (most < 0) = true := decide_eq_true h0
    go_enter Tryz.func123, Tryz.ntmps123
    go_wp2
    go_ret2
    exact HBAD.out _ (.inl h0) HB0.out
  · have e0 : decide (most < 0) = false := decide_eq_false h0
    go_enter Tryz.func123, Tryz.ntmps123
    go_wp2_with fail
    refine HR.out.mono ?_
    rintro e w1 ⟨⟨r, rfl, hr⟩, rfl⟩
    cases r
    · have hnr : ¬ shRight l := fun h => by have := hr.2 h; cases this
      have HNR := Lib.hid hnr
      clear hr hnr
      go_wp2
      go_ret2
      exact HBAD.out _ (.inr HNR.out) HB0.out
    · have hrr := hr.1 rfl
      clear hr HBAD
      obtain ⟨hl, hall⟩ := hrr
      have hall8 : ∀ x ∈ l, 0 ≤ x ∧ x ≤ 8589934592 := fun x hx => by have := hall x hx; omega
      have HS := Lib.hid (ssum_any (HK.out.below HB0.out) hall8 hl)
      have HALL := Lib.hid hall
      have hsum := sum_bounds hall
      have hsl : ∀ k, 0 ≤ shP l k ∧ shP l k ≤ 4294967296 := fun k => by have := shP_bounds hall (by omega) k; omega
      have HSL := Lib.hid hsl
      have hall' : 0 ≤ l.sum ∧ l.sum ≤ 8589934592 := by omega
      have HSUM := Lib.hid hall'
      obtain ⟨all, hal⟩ : ∃ all, all = l.sum := ⟨_, rfl⟩
      have HAL := Lib.hid hal
      rw [← hal] at HS HSUM
      clear hall hall8 hsum hall' hsl hal
      go_wp2_with fail
      refine HS.out.mono ?_
      rintro e w1 ⟨rfl, rfl⟩
      clear HS
      go_wp2
      obtain ⟨W2, hW2⟩ : ∃ W2, W2 = (w.alloc (.cells #[.int .i64 most] 3)).alloc (.cells #[.int .i64 all] 3) := ⟨_, rfl⟩
      have HB2 : Hid (Below w.heap.size w W2) := Lib.hid (by rw [hW2]; exact HB0.out.alloc HB0.out.size _)
      have HC2 : Hid (∀ w', Below W2.heap.size W2 w' → w'.cell? ⟨w.heap.size, 0, none⟩ = some (.int .i64 most) ∧ w'.cell? ⟨w.heap.size + 1, 0, none⟩ = some (.int .i64 all)) := Lib.hid fun w' hb => by
        have e1 : W2.cell? ⟨w.heap.size, 0, none⟩ = some (.int .i64 most) := by
          rw [hW2]
          exact Joins.cell_of_block (alloc_old (heap_alloc_new w _) _) 0
        have e2 : W2.cell? ⟨w.heap.size + 1, 0, none⟩ = some (.int .i64 all) := by
          rw [hW2]
          have h := heap_alloc_new (w.alloc (.cells #[.int .i64 most] 3)) (.cells #[.int .i64 all] 3)
          rw [show (w.alloc (.cells #[.int .i64 most] 3)).heap.size = w.heap.size + 1 by simp] at h
          exact Joins.cell_of_block h 0
        have h1 : w.heap.size < W2.heap.size := World.block_lt_of_cell? _ _ e1
        have h2 : w.heap.size + 1 < W2.heap.size := World.block_lt_of_cell? _ _ e2
        exact ⟨(hb.cell h1).trans e1, (hb.cell h2).trans e2⟩
      rw [← hW2]
      clear hW2 HB0 HR
      go_loopw [8, 9, 10, 11, 12] (fun x8 x9 x10 x11 x12 wr => ∃ (k b : Nat) (d : Int) (f : Bool), x12 = .int .i64 ((k + 1 : Nat) : Int) ∧ x11 = .int .i64 (shP l k) ∧ x8 = .int .i64 (b : Int) ∧ x9 = .int .i64 d ∧ x10 = .bool f ∧ (k = 0 ∨ k < l.length) ∧ ShBest l most (k + 1) b d f ∧ Below W2.heap.size W2 wr) (fun _ _ _ _ i _ => l.length + 1 - (intOf i).toNat)
      case atStart => exact ⟨0, 0, 0, false, rfl, by rw [shP_zero], rfl, rfl, rfl, .inl rfl, ShBest.one l most, Below.refl _ _⟩
      case round =>
        obtain ⟨k, b, d, f, rfl, rfl, rfl, rfl, rfl, hk, hbest, hb⟩ := hrel
        have HBEST := Lib.hid hbest
        have HB := Lib.hid hb
        obtain ⟨c0, c1⟩ := HC2.out wr hb
        have HC3 : Hid (∀ w', Below wr.heap.size wr w' → w'.cell? ⟨w.heap.size, 0, none⟩ = some (.int .i64 most) ∧ w'.cell? ⟨w.heap.size + 1, 0, none⟩ = some (.int .i64 all)) := Lib.hid fun w' hb' => HC2.out w' (hb.trans (hb'.mono hb.size))
        have hp := HSL.out k
        have hp' := HSL.out (k + 1)
        by_cases hkl : k + 1 < l.length
        · obtain ⟨x, hx⟩ : ∃ x, l[k]? = some x := ⟨_, List.getElem?_eq_getElem (by omega)⟩
          obtain ⟨bx, ox, hq, hcell⟩ := ((HK.out.hl.below HB2.out).below hb).at hx
          have hs := shP_succ hx
          have hx1 := HALL.out x (List.mem_of_getElem? hx)
          have HS3 : Hid (Calls Tryz.prog 151 #[.slice (some ⟨wr.heap.size, 0, none⟩) 2 2] (wr.alloc (.cells #[.int .i64 (shP l k), .int .i64 x] 3)) fun e w' => e = .returned (.int .i64 (shP l (k + 1))) ∧ w' = wr.alloc (.cells #[.int .i64 (shP l k), .int .i64 x] 3)) := Lib.hid (by
            have h1 := ssum_any (ks_two (w := wr) (shP l k) x) (by intro y hy; simp at hy; rcases hy with rfl | rfl <;> omega) (by simp)
            have h2 : [shP l k, x].sum = shP l (k + 1) := by simp [hs]
            rw [h2] at h1
            exact h1)
          have HA3 : Hid (Calls Tryz.prog 152 #[.int .i64 (shP l (k + 1)), .pointer (some ⟨w.heap.size + 1, 0, none⟩), .pointer (some ⟨w.heap.size, 0, none⟩)] (wr.alloc (.cells #[.int .i64 (shP l k), .int .i64 x] 3)) (ApPost (wr.alloc (.cells #[.int .i64 (shP l k), .int .i64 x] 3)) (shP l (k + 1)) (shQ l (k + 1)) most)) := Lib.hid (by
            obtain ⟨e1, e2⟩ := HC3.out _ ((Below.refl _ _).alloc (Nat.le_refl _) (.cells #[.int .i64 (shP l k), .int .i64 x] 3))
            have h1 := apart_any e2 e1 (a := shP l (k + 1)) (by omega) HSUM.out
            have h2 : all - shP l (k + 1) = shQ l (k + 1) := by have := shPQ l (k + 1); have := HAL.out; omega
            rw [h2] at h1
            exact h1)
          have HG := Lib.hid (shGap_is l (k + 1))
          have HI := Lib.hid (shIn_is l most (k + 1))
          have HB4 : Hid (Below W2.heap.size W2 (wr.alloc (.cells #[.int .i64 (shP l k), .int .i64 x] 3))) := Lib.hid (HB.out.alloc HB.out.size _)
          subst hq
          clear hs hx hbest hb HALL HSL
          obtain ⟨p1, hp1⟩ : ∃ p1, p1 = shP l (k + 1) := ⟨_, rfl⟩
          have HP1 := Lib.hid hp1
          rw [← hp1] at HS3 HA3 HG HI hp'
          generalize shP l k = p0 at *
          generalize shQ l (k + 1) = q1 at *
          clear hp1
          obtain ⟨g, hg⟩ : ∃ g, g = shGap p1 q1 := ⟨_, rfl⟩
          obtain ⟨fi, hfi⟩ : ∃ fi, fi = shIn p1 q1 most := ⟨_, rfl⟩
          unfold ApPost at HA3
          rw [← hg] at HA3 HG
          rw [← hfi] at HA3 HI
          clear hg hfi
          have hk1 : (((k + 1 : Nat) : Int)) = (k : Int) + 1 := by omega
          go_wp2_with fail
          refine HS3.out.mono ?_
          rintro e w3 ⟨rfl, rfl⟩
          go_wp2_with fail
          refine HA3.out.mono ?_
          rintro e w3 ⟨rfl, hb3⟩
          have HBN : Hid (Below W2.heap.size W2 w3) := Lib.hid (HB4.out.trans (hb3.mono HB4.out.size))
          clear hb3 HB4
          cases fi
          · have HN : Hid (ShBest l most (k + 1 + 1) b d f) := Lib.hid (HBEST.out.skip (.inl fun h => by have := HI.out.2 h; cases this))
            go_wp2
            go_roundw
            case rel => exact ⟨k + 1, b, d, f, by go_num, by rw [HP1.out], rfl, rfl, rfl, .inr hkl, HN.out, HBN.out⟩
            case measure => simp [intOf]; omega
          · have hfit := HI.out.1 rfl
            have HF := Lib.hid hfit
            clear hfit HI
            cases f
            · have HN : Hid (ShBest l most (k + 1 + 1) (k + 1) g true) := Lib.hid (by rw [HG.out]; exact HBEST.out.take (by omega) HF.out (.inl rfl))
              go_wp2
              go_roundw
              case rel => exact ⟨k + 1, k + 1, g, true, by go_num, by rw [HP1.out], by go_num, rfl, rfl, .inr hkl, HN.out, HBN.out⟩
              case measure => simp [intOf]; omega
            · by_cases hgd : g < d
              · have e9 : decide (g < d) = true := decide_eq_true hgd
                have HN : Hid (ShBest l most (k + 1 + 1) (k + 1) g true) := Lib.hid (by rw [HG.out]; exact HBEST.out.take (by omega) HF.out (.inr (by rw [← HG.out]; exact hgd)))
                go_wp2
                go_roundw
                case rel => exact ⟨k + 1, k + 1, g, true, by go_num, by rw [HP1.out], by go_num, rfl, rfl, .inr hkl, HN.out, HBN.out⟩
                case measure => simp [intOf]; omega
              · have e9 : decide (g < d) = false := decide_eq_false hgd
                have HN : Hid (ShBest l most (k + 1 + 1) b d true) := Lib.hid (HBEST.out.skip (.inr ⟨rfl, by rw [← HG.out]; omega⟩))
                go_wp2
                go_roundw
                case rel => exact ⟨k + 1, b, d, true, by go_num, by rw [HP1.out], rfl, rfl, rfl, .inr hkl, HN.out, HBN.out⟩
                case measure => simp [intOf]; omega
        · have HEND : Hid (ShCutPost w l most (.returned (.tuple #[.int .i64 (b : Int), .bool f])) wr) := Lib.hid (by
            refine ⟨b, f, rfl, ⟨fun _ => ⟨d, ?_⟩, fun h => absurd ⟨h0, hl, HALL.out⟩ h⟩, HB2.out.trans (HB.out.mono HB2.out.size)⟩
            have h1 := HBEST.out
            rcases hk with rfl | hk
            · rcases Nat.eq_zero_or_pos l.length with h2 | h2
              · rw [h2]; exact h1.zero
              · obtain h3 : l.length = 1 := by omega
                rw [h3]; exact h1
            · obtain h3 : l.length = k + 1 := by omega
              rw [h3]; exact h1)
          generalize shP l k = p0 at *
          clear hbest hb HALL HSL
          have hk1 : (((k + 1 : Nat) : Int)) = (k : Int) + 1 := by omega
          go_wp2
          go_ret2
          exact HEND.out

end Go.Proofs.YtfpdcfomfikkiaaGreatDoor

