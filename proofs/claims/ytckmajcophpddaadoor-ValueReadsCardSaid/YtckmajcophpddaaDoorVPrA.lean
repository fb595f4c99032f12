/-
  Print of an atom, of both sides: contracts for the walks.
-/
import Derived.Test.YtckmajcophpddaaDoorVQuo
import Derived.Test.YtckmajcophpddaaDoorVDig
import Derived.Test.YtckmajcophpddaaDoorVAt
import Derived.Test.YtckmajcophpddaaDoorFHex
import Derived.Test.YtckmajcophpddaaDoorShelf
set_option linter.unusedVariables false
set_option maxRecDepth 100000
namespace Go.Proofs.YtckmajcophpddaaDoor
open Go.RowKit

theorem gPow : Tryd.prog.globalNamed "internal/strconv.uint64pow10" = some 3 := by kernel_rfl
/-- What Print asks of the world: the two tables. -/
structure PW (w : World) : Prop where
  tab : Tab w
  pow : Lib.TabIs Tryd.prog w "internal/strconv.uint64pow10" .u64 Lib.pow10Tab
  lt : 3 < w.heap.size
theorem PW.below {w w' : World} (h : PW w) (hb : Below w.heap.size w w') : PW w' := by
  refine ⟨h.tab.below hb, ?_, Nat.lt_of_lt_of_le h.lt hb.size⟩
  have h1 := h.pow
  unfold Lib.TabIs World.var? at h1 ⊢
  rw [gPow, Option.bind_some] at h1 ⊢
  rw [hb.block 3 h.lt]
  exact h1
theorem grow_below (w : World) (k : Nat) (os : Array Obj) : Below w.heap.size w (Sort.grow (w.drewN k) os) := by
  refine ⟨rfl, rfl, rfl, ?_, fun i hi => ?_⟩
  · show w.heap.size ≤ (w.heap ++ os).size
    simp
  · show (w.heap ++ os)[i]? = w.heap[i]?
    rw [Array.getElem?_append_left hi]

theorem validA_no2 {k : Int} (n : Int) (f : Nat) (s : ByteArray) (h0 : k ≠ 0) (h1 : k ≠ 1) (h2 : k ≠ 2) (h3 : k ≠ 3) (h4 : k ≠ 4) (h5 : k ≠ 5) : validA k n f s = false := by
  unfold validA
  rw [if_neg h0, if_neg h1, if_neg h2, if_neg h3, if_neg (by omega)]

def prA (k n : Int) (f : Nat) (s : ByteArray) : List UInt8 :=
  if k = 0 then [110, 117, 108, 108]
  else if k = 1 then (if n = 0 then [102, 97, 108, 115, 101] else [116, 114, 117, 101])
  else if k = 2 then Lib.itoa n
  else if k = 3 then [48, 102] ++ (hexS (canonB f)).data.toList
  else if k = 5 then [120, 34] ++ escS s.data.toList ++ [34]
  else [34] ++ escS s.data.toList ++ [34]

def PrPost (w : World) (l : List UInt8) (e : Ending) (w' : World) : Prop := (∃ t : ByteArray, e = .returned (.string t) ∧ t.data.toList = l) ∧ Below w.heap.size w w'

theorem bytes_size (t : ByteArray) : t.size = t.data.toList.length := rfl

set_option maxHeartbeats 1600000 in
theorem printAtom_any {w : World} (hP : PW w) {k n : Int} {f : Nat} {s : ByteArray} (h : (⟨k, n, f, s⟩ : At).Ok) (hv : validA k n f s = true) :
    Calls Tryd.prog 15 #[.agg #[.int .i64 k, .int .i64 n, .float .f64 f, .string s]] w (PrPost w (prA k n f s)) := by
  have HB0 : Hid (Below w.heap.size w (w.alloc (.cells #[.int .i64 k, .int .i64 n, .float .f64 f, .string s] 24))) := Lib.hid ((Below.refl _ _).alloc (Nat.le_refl _) _)
  have hcase : k = 0 ∨ k = 1 ∨ k = 2 ∨ k = 3 ∨ k = 4 ∨ k = 5 := by
    by_cases h0 : k = 0; · exact .inl h0
    by_cases h1 : k = 1; · exact .inr (.inl h1)
    by_cases h2 : k = 2; · exact .inr (.inr (.inl h2))
    by_cases h3 : k = 3; · exact .inr (.inr (.inr (.inl h3)))
    by_cases h4 : k = 4; · exact .inr (.inr (.inr (.inr (.inl h4))))
    by_cases h5 : k = 5; · exact .inr (.inr (.inr (.inr (.inr h5))))
    rw [validA_no2 n f s h0 h1 h2 h3 h4 h5] at hv
    cases hv
  rcases hcase with rfl | rfl | rfl | rfl | rfl | rfl
  · clear hv
    go_enter Tryd.func15, Tryd.ntmps15
    go_wp2
    go_ret
    exact ⟨⟨_, rfl, rfl⟩, HB0.out⟩
  · clear hv
    by_cases h0 : n = 0
    · subst h0
      go_enter Tryd.func15, Tryd.ntmps15
      go_wp2
      go_ret
      exact ⟨⟨_, rfl, rfl⟩, HB0.out⟩
    · have hn : (n == 0) = false := by rw [beq_eq_false_iff_ne]; exact h0
      have HE : Hid (prA 1 n f s = [116, 114, 117, 101]) := Lib.hid (by unfold prA; rw [if_neg (by decide), if_pos rfl, if_neg h0])
      go_enter Tryd.func15, Tryd.ntmps15
      go_wp2
      go_ret
      exact ⟨⟨_, rfl, by rw [HE.out]⟩, HB0.out⟩
  · clear hv
    have HC : Hid (∀ w', Below w.heap.size w w' → Calls Tryd.prog 28 #[.int .i64 n] w' fun e w'' => e = .returned (.string ⟨(Lib.itoa n).toArray⟩) ∧ Below w'.heap.size w' w'') := Lib.hid fun w' hb => (Tryd.strconv_Itoa n h.n1 h.n2 w' (hP.below hb).pow).mono fun e w2 ⟨h1, k, os, h2⟩ => ⟨h1, by rw [h2]; exact grow_below _ _ _⟩
    have HE : Hid (prA 2 n f s = Lib.itoa n) := Lib.hid rfl
    clear hP h
    go_enter Tryd.func15, Tryd.ntmps15
    go_wp2_with fail
    with_reducible refine (HC.out _ HB0.out).mono ?_
    rintro e w1 ⟨rfl, hb1⟩
    have HB1 := Lib.hid (HB0.out.trans (hb1.mono HB0.out.size))
    clear hb1 HC
    go_wp2
    go_ret
    exact ⟨⟨_, rfl, by rw [HE.out]⟩, HB1.out⟩
  · clear hv
    have HC : Hid (∀ w', Below w.heap.size w w' → Calls Tryd.prog 29 #[.float .f64 f] w' fun e w'' => e = .returned (.string (hexS (canonB f))) ∧ Below w'.heap.size w' w'') := Lib.hid fun w' hb => hex_any (hP.below hb).tab f h.f1
    have HE : Hid (prA 3 n f s = [48, 102] ++ (hexS (canonB f)).data.toList) := Lib.hid rfl
    have HS : Hid ((hexS (canonB f)).size = 16) := Lib.hid (by show ((hexK 16 (canonB f)).toArray).size = 16; rw [List.size_toArray, hexK_length])
    clear hP h
    generalize hexS (canonB f) = t at *
    have hs := HS.out
    go_enter Tryd.func15, Tryd.ntmps15
    go_wp2_with fail
    with_reducible refine (HC.out _ HB0.out).mono ?_
    rintro e w1 ⟨rfl, hb1⟩
    have HB1 := Lib.hid (HB0.out.trans (hb1.mono HB0.out.size))
    clear hb1 HC
    go_wp2
    go_ret
    exact ⟨⟨_, rfl, by rw [HE.out, bytes_app]⟩, HB1.out⟩
  · have hsz : s.size ≤ 256 := by
      have h1 : (n == 0 && (f : Int) == 0 && decide (s.size ≤ 256)) = true := hv
      rw [Bool.and_eq_true] at h1
      exact of_decide_eq_true h1.2
    clear hv
    have HC : Hid (∀ w', Calls Tryd.prog 30 #[.string s] w' fun e w'' => (∃ t : ByteArray, e = .returned (.string t) ∧ t.data.toList = escS s.data.toList) ∧ Below w'.heap.size w' w'') := Lib.hid fun w' => escape_any s (by omega)
    have HE : Hid (prA 4 n f s = [34] ++ escS s.data.toList ++ [34]) := Lib.hid rfl
    have HL : Hid ((escS s.data.toList).length ≤ 1100) := Lib.hid (by have h1 := escS_len s.data.toList; have h2 : s.data.toList.length = s.size := rfl; omega)
    clear hP h hsz
    go_enter Tryd.func15, Tryd.ntmps15
    go_wp2_with fail
    with_reducible refine (HC.out _).mono ?_
    rintro e w1 ⟨⟨t, rfl, ht⟩, hb1⟩
    have HB1 := Lib.hid (HB0.out.trans (hb1.mono HB0.out.size))
    have hts : t.size ≤ 1100 := by rw [bytes_size, ht]; exact HL.out
    have HT := Lib.hid ht
    clear hb1 HC ht HL
    go_wp2
    go_ret
    exact ⟨⟨_, rfl, by rw [HE.out, bytes_app, bytes_app, HT.out]⟩, HB1.out⟩
  · have hsz : s.size ≤ 256 := by
      have h1 : (n == 0 && (f : Int) == 0 && decide (s.size ≤ 256)) = true := hv
      rw [Bool.and_eq_true] at h1
      exact of_decide_eq_true h1.2
    clear hv
    have HC : Hid (∀ w', Calls Tryd.prog 30 #[.string s] w' fun e w'' => (∃ t : ByteArray, e = .returned (.string t) ∧ t.data.toList = escS s.data.toList) ∧ Below w'.heap.size w' w'') := Lib.hid fun w' => escape_any s (by omega)
    have HE : Hid (prA 5 n f s = [120, 34] ++ escS s.data.toList ++ [34]) := Lib.hid rfl
    have HL : Hid ((escS s.data.toList).length ≤ 1100) := Lib.hid (by have h1 := escS_len s.data.toList; have h2 : s.data.toList.length = s.size := rfl; omega)
    clear hP h hsz
    go_enter Tryd.func15, Tryd.ntmps15
    go_wp2_with fail
    with_reducible refine (HC.out _).mono ?_
    rintro e w1 ⟨⟨t, rfl, ht⟩, hb1⟩
    have HB1 := Lib.hid (HB0.out.trans (hb1.mono HB0.out.size))
    have hts : t.size ≤ 1100 := by rw [bytes_size, ht]; exact HL.out
    have HT := Lib.hid ht
    clear hb1 HC ht HL
    go_wp2
    go_ret
    exact ⟨⟨_, rfl, by rw [HE.out, bytes_app, bytes_app, HT.out]⟩, HB1.out⟩

end Go.Proofs.YtckmajcophpddaaDoor
