/-
  meta.Seal.
  meta.Seal.
  meta.get.
-/
import Derived.Test.YtbbgdbnjmonbgaaGreatDoorH00
import Derived.Test.YtbbgdbnjmonbgaaGreatDoorH06
import Derived.Test.YtbbgdbnjmonbgaaGreatDoorH07
import Derived.StillTailTactics
set_option linter.unusedVariables false
set_option maxRecDepth 100000
namespace Go.Proofs.YtbbgdbnjmonbgaaGreatDoor
open Go.RowKit
theorem isNext_any {w : World} (n : Int) (b : Bool) (hb : b = decide (MNext n)) :
  Calls Tryz.prog 124 #[.int .i64 n] w fun e w' => e = .returned (.bool b) ∧ w = w' := by
 by_cases h1 : 1 ≤ n
 ·
  by_cases h2 : n ≤ 1152921504606846976
  ·
   obtain rfl : b = true := by rw [hb]; exact decide_eq_true ⟨h1, h2⟩
   clear hb
   go_enter Tryz.func124, Tryz.ntmps124
   go_wp2
   go_ret
   exact ⟨rfl, rfl⟩
  ·
   obtain rfl : b = false := by rw [hb]; exact decide_eq_false (fun h => h2 h.2)
   clear hb
   go_enter Tryz.func124, Tryz.ntmps124
   go_wp2
   go_ret
   exact ⟨rfl, rfl⟩
 ·
  obtain rfl : b = false := by rw [hb]; exact decide_eq_false (fun h => h1 h.1)
  clear hb
  go_enter Tryz.func124, Tryz.ntmps124
  go_wp2
  go_ret
  exact ⟨rfl, rfl⟩
theorem isRoot_any {w : World} (n : Int) (b : Bool) (hb : b = decide (MRoot n)) :
  Calls Tryz.prog 125 #[.int .i64 n] w fun e w' => e = .returned (.bool b) ∧ w = w' := by
 by_cases h0 : n = 0
 ·
  subst h0
  obtain rfl : b = true := by rw [hb]; decide
  clear hb
  go_enter Tryz.func125, Tryz.ntmps125
  go_wp2
  go_ret
  exact ⟨rfl, rfl⟩
 have hn0 : (n == 0) = false := by rw [beq_eq_false_iff_ne]; exact h0
 by_cases h1 : 2 ≤ n
 ·
  by_cases h2 : n < 4096
  ·
   obtain rfl : b = true := by rw [hb]; exact decide_eq_true (.inr ⟨h1, h2⟩)
   clear hb
   go_enter Tryz.func125, Tryz.ntmps125
   go_wp2
   go_ret
   exact ⟨rfl, rfl⟩
  ·
   obtain rfl : b = false := by rw [hb]; exact decide_eq_false (fun h => by rcases h with h | h; exact h0 h; exact h2 h.2)
   clear hb
   go_enter Tryz.func125, Tryz.ntmps125
   go_wp2
   go_ret
   exact ⟨rfl, rfl⟩
 ·
  obtain rfl : b = false := by rw [hb]; exact decide_eq_false (fun h => by rcases h with h | h; exact h0 h; exact h1 h.1)
  clear hb
  go_enter Tryz.func125, Tryz.ntmps125
  go_wp2
  go_ret
  exact ⟨rfl, rfl⟩
set_option maxHeartbeats 800000 in
theorem right_any {w : World} (g r n d : Int) (b : Bool) (hb : b = decide (MRight g r n d)) :
  Calls Tryz.prog 106 #[.agg #[.int .i64 g, .int .i64 r, .int .i64 n, .int .i64 d]] w fun e w' => e = .returned (.bool b) ∧ Below w.heap.size w w' := by
 have HG := Hq fun w : World => isNext_any (w := w) g (decide (MNext g)) rfl
 have HR := Hq fun w : World => isRoot_any (w := w) r (decide (MRoot r)) rfl
 have HN := Hq fun w : World => isNext_any (w := w) n (decide (MNext n)) rfl
 have HD := Hq fun w : World => isNext_any (w := w) d (decide (MNext d)) rfl
 have e : decide (MRight g r n d) = (decide (MNext g) && (decide (MRoot r) && (decide (MNext n) && decide (MNext d)))) := by
  rw [Bool.eq_iff_iff]
  simp only [decide_eq_true_eq, Bool.and_eq_true]
  exact Iff.rfl
 rw [e] at hb
 clear e
 generalize decide (MNext g) = bg at *
 generalize decide (MRoot r) = br at *
 generalize decide (MNext n) = bn at *
 generalize decide (MNext d) = bd at *
 have hz : Hid (Below w.heap.size w (w.alloc (.cells #[.int .i64 g, .int .i64 r, .int .i64 n, .int .i64 d] 49))) := Hq ((Below.refl _ _).alloc (Nat.le_refl _) _)
 cases bg
 ·
  obtain rfl : b = false := hb
  go_enter Tryz.func106, Tryz.ntmps106
  go_wp2_with fail
  with_reducible refine (HG.out _).mono ?_
  rintro e w1 ⟨rfl, rfl⟩
  go_wp2
  go_ret
  exact ⟨rfl, hz.out⟩
 cases br
 ·
  obtain rfl : b = false := hb
  go_enter Tryz.func106, Tryz.ntmps106
  go_wp2_with fail
  with_reducible refine (HG.out _).mono ?_
  rintro e w1 ⟨rfl, rfl⟩
  go_wp2_with fail
  with_reducible refine (HR.out _).mono ?_
  rintro e w1 ⟨rfl, rfl⟩
  go_wp2
  go_ret
  exact ⟨rfl, hz.out⟩
 cases bn
 ·
  obtain rfl : b = false := hb
  go_enter Tryz.func106, Tryz.ntmps106
  go_wp2_with fail
  with_reducible refine (HG.out _).mono ?_
  rintro e w1 ⟨rfl, rfl⟩
  go_wp2_with fail
  with_reducible refine (HR.out _).mono ?_
  rintro e w1 ⟨rfl, rfl⟩
  go_wp2_with fail
  with_reducible refine (HN.out _).mono ?_
  rintro e w1 ⟨rfl, rfl⟩
  go_wp2
  go_ret
  exact ⟨rfl, hz.out⟩
 ·
  obtain rfl : b = bd := hb
  go_enter Tryz.func106, Tryz.ntmps106
  go_wp2_with fail
  with_reducible refine (HG.out _).mono ?_
  rintro e w1 ⟨rfl, rfl⟩
  go_wp2_with fail
  with_reducible refine (HR.out _).mono ?_
  rintro e w1 ⟨rfl, rfl⟩
  go_wp2_with fail
  with_reducible refine (HN.out _).mono ?_
  rintro e w1 ⟨rfl, rfl⟩
  go_wp2_with fail
  with_reducible refine (HD.out _).mono ?_
  rintro e w1 ⟨rfl, rfl⟩
  go_wp2
  go_ret
  exact ⟨rfl, hz.out⟩
theorem make_cap32 {w : World} {ops : Array Oper} {rest : List Oper} {o : Oper} {a : Act} {Q : Exit → Act → World → Prop} (hg : o.guard = none) (l c : Operand) (hop : o.op = Op.makeSlice 33 l c)
  (hl : a.eval l = .int .i64 0) (hc : a.eval c = .int .i64 32)
  (hK : ∀ w', Own w' w.heap.size (.slice (some ⟨w.heap.size, 0, none⟩) 0 32) [] → Below w.heap.size w w' → wpList Tryz.prog ops Q rest (a.put o.dst (.slice (some ⟨w.heap.size, 0, none⟩) 0 32)) w') :
  wpList Tryz.prog ops Q (o :: rest) a w := by
 obtain ⟨i, hi, hz0, hz1, hz2⟩ := info_parts info_u8
 refine wpList_make_own w hg l c _ hop w.heap.size 5 i (.int .u8 0) 1 Tryz.underlying33 hi hz0 hz1 .i64 .i64 32 32 hl hc rfl (by rw [hz2]; decide) (by decide) (Nat.le_refl _) ?_
 intro w' h1 h2
 exact hK w' h1 ((Below.refl _ _).grown h2 (Nat.le_refl _) (fun k hk => by cases hk))
def Is (w : World) (g : Nat) (xs : List Nat) : Prop := ∀ i (h : i < xs.length), w.cell? ⟨g, i, none⟩ = some (.int .i64 (xs[i] : Nat))
theorem Is.below {w w' : World} {g : Nat} {xs : List Nat} (h : Is w g xs) (hb : Below w.heap.size w w') : Is w' g xs := fun i hi => by
 have h1 := h i hi
 rw [hb.cell (World.block_lt_of_cell? _ _ h1)]
 exact h1
def flatB : List Nat → List UInt8
 | [] => []
 | x :: xs => leB 8 x ++ flatB xs
theorem flatB_append (xs ys : List Nat) : flatB (xs ++ ys) = flatB xs ++ flatB ys := by
 induction xs with
 | nil => rfl
 | cons x xs ih => rw [List.cons_append, flatB, ih, flatB, List.append_assoc]
theorem flatB_length (xs : List Nat) : (flatB xs).length = 8 * xs.length := by
 induction xs with
 | nil => rfl
 | cons x xs ih => rw [flatB, List.length_append, leB_length, ih, List.length_cons]; omega
theorem flatB_snoc {xs : List Nat} {j : Nat} (h : j < xs.length) : flatB (xs.take (j + 1)) = flatB (xs.take j) ++ leB 8 xs[j] := by
 rw [List.take_add_one, List.getElem?_eq_getElem h, flatB_append]
 simp [flatB]
def PutPostM (w : World) (l : List UInt8) (e : Ending) (w' : World) : Prop := ∃ v, e = .returned v ∧ Own w' w.heap.size v l ∧ Below w.heap.size w w'
set_option maxHeartbeats 1600000 in
theorem mput_any {w : World} {g : Nat} {xs : List Nat} (hx : Is w g xs) (h4 : xs.length = 4) (hb : ∀ x ∈ xs, x < 9223372036854775808) :
  Calls Tryz.prog 108 #[.slice (some ⟨g, 0, none⟩) 4 4] w (PutPostM w (flatB xs)) := by
 have HX := Hq hx
 have HN := Hq h4
 have HB := Hq hb
 clear hx h4 hb
 go_enter Tryz.func108, Tryz.ntmps108
 go_wp2_with (refine make_cap32 rfl _ _ rfl rfl rfl ?_; intro w1 h1 hb1; have H1 := Hq h1; have HB1 := Hq hb1; clear h1 hb1)
 go_loopw [3, 5, 6, 13, 17] (fun v _ _ i _ wr => ∃ j : Nat, i = .int .i64 j ∧ j ≤ 4 ∧ Own wr w.heap.size v (flatB (xs.take j)) ∧ Below w.heap.size w wr) (fun _ _ _ i _ _ => 4 - (intOf i).toNat)
 case atStart => exact ⟨0, rfl, by omega, H1.out, HB1.out⟩
 case round =>
  obtain ⟨j, rfl, hj, hown, hb⟩ := hrel
  obtain ⟨w2, hw2⟩ : ∃ w2, w2 = wr := ⟨_, rfl⟩
  subst hw2
  have HO := Hq hown
  have HW := Hq hb
  clear hown hb
  by_cases hjk : j < 4
  ·
   have hdj : decide ((j : Int) < 4) = true := decide_eq_true (by omega)
   have hjl : j < xs.length := by have := HN.out; omega
   have HS := Hq (flatB_snoc hjl)
   have hcell := (HX.out.below HW.out) j hjl
   have HXB : Hid (xs[j] < 9223372036854775808) := Hq (HB.out _ (List.getElem_mem hjl))
   have HL : Hid ((flatB (xs.take j)).length ≤ 32) := Hq (by rw [flatB_length, List.length_take]; omega)
   generalize xs[j] = x at *
   generalize flatB (xs.take j) = l at *
   go_wp2
   go_loopw [3, 6, 17] (fun v _ i wr => ∃ k : Nat, i = .int .i64 k ∧ k ≤ 8 ∧ Own wr w.heap.size v (l ++ leB k x) ∧ Below w.heap.size w wr) (fun _ _ i _ => 8 - (intOf i).toNat)
   case atStart => exact ⟨0, rfl, by omega, by rw [leB, List.append_nil]; exact HO.out, HW.out⟩
   case round =>
    obtain ⟨k, rfl, hk, hown, hb⟩ := hrel
    have HO2 := Hq hown
    have HW2 := Hq hb
    clear hown hb
    by_cases hk8 : k < 8
    ·
     have HS2 := Hq (leB_snoc k x)
     have HBY : Hid ((x : Int) / 2 ^ (8 * k) % 256 = ((UInt8.ofNat (x / 256 ^ k)).toNat : Int)) := Hq (by
      have h1 : (x : Int) / 2 ^ (8 * k) = ((x / 256 ^ k : Nat) : Int) := by rw [pow8, Int.natCast_ediv, Int.natCast_pow]; rfl
      rw [h1, u8_ofNat]
      omega)
     have HLE : Hid ((l ++ leB k x).length ≤ 100) := Hq (by rw [List.length_append, leB_length]; have := HL.out; omega)
     go_wp2_with (at_builtin; refine app_own rfl (.tmp 20) (.tmp 26) rfl rfl (HO2.out.alloc _) (m := [UInt8.ofNat (x / 256 ^ k)]) rfl rfl (Bs.one _ _ _ rfl HBY.out) (fun h => by cases h) (by have := HLE.out; simp at this ⊢; omega) (by have := HW2.out.size; simp; omega) ?_; intro v3 w3 ho3 hb3; have HO3 := Hq ho3; have HB3 := Hq ((HW2.out.alloc HW2.out.size _).trans hb3); clear ho3 hb3)
     go_roundw
     case rel => exact ⟨k + 1, by go_num, by omega, by rw [HS2.out, ← List.append_assoc]; exact HO3.out, HB3.out⟩
     case measure => simp [intOf]; omega
    ·
     have HJ : Hid (l ++ leB k x = flatB (xs.take (j + 1))) := Hq (by rw [show k = 8 from by omega, HS.out])
     go_wp2
     go_roundw
     case rel => exact ⟨j + 1, by go_num, by omega, by rw [← HJ.out]; exact HO2.out, HW2.out⟩
     case measure => simp [intOf]; omega
  ·
   have HJ : Hid (flatB (xs.take j) = flatB xs) := Hq (by rw [List.take_of_length_le (by have := HN.out; omega)])
   go_wp2
   go_ret
   exact ⟨_, rfl, by rw [← HJ.out]; exact HO.out, HW.out⟩
end Go.Proofs.YtbbgdbnjmonbgaaGreatDoor

set_option linter.unusedVariables false
set_option maxRecDepth 100000
namespace Go.Proofs.YtbbgdbnjmonbgaaGreatDoor
open Go.RowKit
def MSealPost (w : World) (l : List UInt8) (no : Nat) (e : Ending) (w' : World) : Prop := ∃ v, e = .returned (.tuple #[v, .int .i64 (no : Int), .int .i64 0]) ∧ Own w' w.heap.size v l ∧ Below w.heap.size w w'
def MSealBad (w : World) (e : Ending) (w' : World) : Prop := e = .returned (.tuple #[.slice none 0 0, .int .i64 0, .int .i64 2]) ∧ Below w.heap.size w w'
set_option maxHeartbeats 800000 in
theorem mseal_bad {w : World} (g r n d : Int) (h : ¬ MRight g r n d) :
  Calls Tryz.prog 72 #[.agg #[.int .i64 g, .int .i64 r, .int .i64 n, .int .i64 d]] w (MSealBad w) := by
 have HC := Hq fun w : World => right_any (w := w) g r n d false (decide_eq_false h).symm
 clear h
 have hz : Hid (Below w.heap.size w (w.alloc (.cells #[.int .i64 g, .int .i64 r, .int .i64 n, .int .i64 d] 49))) := Hq ((Below.refl _ _).alloc (Nat.le_refl _) _)
 go_enter Tryz.func72, Tryz.ntmps72
 go_wp2_with fail
 with_reducible refine (HC.out _).mono ?_
 rintro e w1 ⟨rfl, hb⟩
 have HB := Hq (hz.out.trans (hb.mono (by simp)))
 clear hb
 go_wp2
 exact bodyPost_ret (v := .tuple #[.slice none 0 0, .int .i64 0, .int .i64 2]) (by simp [results, Tryz.results72, go_sem]) rfl ⟨rfl, HB.out⟩
theorem Is.new (w : World) (t : TypeId) (a b c d : Nat) {g : Nat} (hg : g = w.heap.size) : Is (w.alloc (.cells #[.int .i64 a, .int .i64 b, .int .i64 c, .int .i64 d] t)) g [a, b, c, d] := by
 subst hg
 intro i hi
 rw [jC (heap_alloc_new w _)]
 rcases i with _ | _ | _ | _ | i
 ·
  rfl
 ·
  rfl
 ·
  rfl
 ·
  rfl
 ·
  simp at hi; omega
set_option maxHeartbeats 3200000 in
theorem mseal_ok {w : World} (hT : Tab w) {g r n d : Nat} (h : MRight g r n d) :
  Calls Tryz.prog 72 #[.agg #[.int .i64 g, .int .i64 r, .int .i64 n, .int .i64 d]] w (MSealPost w (mPage g r n d) (g % 2)) := by
 have HC := Hq fun w : World => right_any (w := w) g r n d true (decide_eq_true h).symm
 have hb := h.b
 have HF : Hid (flatB [r, n, d, g] = metaB g r n d) := Hq (by simp [flatB, metaB])
 have HL : Hid (32 = (metaB g r n d).length) := Hq (metaB_length g r n d).symm
 have HPG : Hid (pageB 1 (g % 2) g (metaB g r n d) = mPage g r n d) := Hq rfl
 have HPL : Hid ((mPage g r n d).length = 512) := Hq (mPage_length g r n d)
 obtain ⟨m, hm⟩ : ∃ m, m = g % 2 := ⟨_, rfl⟩
 have hmi : (g : Int) % 2 = (m : Int) := by omega
 have HM : Hid (m < 4096) := Hq (by omega)
 have HG : Hid (g ≤ 1152921504606846976) := Hq (by omega)
 have HXS : Hid (∀ x ∈ [r, n, d, g], x < 9223372036854775808) := Hq (by
  intro x hx
  simp only [List.mem_cons, List.not_mem_nil, or_false] at hx
  omega)
 rw [← hm] at HPG ⊢
 clear h hm hb
 generalize mPage g r n d = z at *
 generalize metaB g r n d = y at *
 obtain ⟨W0, hW0⟩ : ∃ W0, W0 = w.alloc (.cells #[.int .i64 g, .int .i64 r, .int .i64 n, .int .i64 d] 49) := ⟨_, rfl⟩
 have HZ : Hid (Below w.heap.size w W0) := Hq (by rw [hW0]; exact (Below.refl _ _).alloc (Nat.le_refl _) _)
 have HK : Hid (∀ w', Below W0.heap.size W0 w' → w'.cell? ⟨w.heap.size, 0, none⟩ = some (.int .i64 (g : Int)) ∧ w'.cell? ⟨w.heap.size, 1, none⟩ = some (.int .i64 (r : Int)) ∧ w'.cell? ⟨w.heap.size, 2, none⟩ = some (.int .i64 (n : Int)) ∧ w'.cell? ⟨w.heap.size, 3, none⟩ = some (.int .i64 (d : Int))) := Hq fun w' hb => by
  have h1 : w'.heap[w.heap.size]? = some (.cells #[.int .i64 g, .int .i64 r, .int .i64 n, .int .i64 d] 49 (0, 0)) := by
   rw [hb.block w.heap.size (by rw [hW0]; simp), hW0]
   exact heap_alloc_new w _
  exact ⟨jC h1 0, jC h1 1, jC h1 2, jC h1 3⟩
 have HT : Hid (Tab W0) := Hq (hT.below hT.lt HZ.out)
 clear hT
 go_enter Tryz.func72, Tryz.ntmps72
 go_wp2_with fail
 rw [← hW0]
 clear hW0
 with_reducible refine (HC.out _).mono ?_
 rintro e w1 ⟨rfl, hb1⟩
 have HB1 := Hq hb1
 have HT1 : Hid (∀ w', Below w1.heap.size w1 w' → Tab w') := Hq fun w' hb => by
  have h1 := HT.out.below HT.out.lt HB1.out
  exact h1.below h1.lt hb
 have HK1 : Hid (∀ w', Below w1.heap.size w1 w' → w'.cell? ⟨w.heap.size, 0, none⟩ = some (.int .i64 (g : Int)) ∧ w'.cell? ⟨w.heap.size, 1, none⟩ = some (.int .i64 (r : Int)) ∧ w'.cell? ⟨w.heap.size, 2, none⟩ = some (.int .i64 (n : Int)) ∧ w'.cell? ⟨w.heap.size, 3, none⟩ = some (.int .i64 (d : Int))) := Hq fun w' hb => HK.out w' (HB1.out.trans (hb.mono HB1.out.size))
 have HZ1 : Hid (Below w.heap.size w w1) := Hq (HZ.out.trans (HB1.out.mono HZ.out.size))
 obtain ⟨k0, k1, k2, k3⟩ := HK1.out w1 (Below.refl _ _)
 have HP : Hid (Calls Tryz.prog 108 #[.slice (some ⟨w1.heap.size, 0, none⟩) 4 4] (w1.alloc (.cells #[.int .i64 r, .int .i64 n, .int .i64 d, .int .i64 g] 3)).drew (PutPostM (w1.alloc (.cells #[.int .i64 r, .int .i64 n, .int .i64 d, .int .i64 g] 3)).drew y)) := Hq (by
  have h1 := mput_any ((Is.new w1 3 r n d g rfl).below (Below.refl _ _).drew) rfl HXS.out
  rw [HF.out] at h1
  exact h1)
 have HS : Hid (∀ w' p c, Below w1.heap.size w1 w' → Bs w' p y → 32 ≤ c → c ≤ 9223372036854775807 → Calls Tryz.prog 107 #[.int .u8 1, .int .i64 (m : Int), .int .i64 (g : Int), .slice p 32 c] w' (LayPost w' z)) := Hq fun w' p c hb hp h32 hc => by
  have h1 := seal_ok (HT1.out w' hb) 1 (no := m) (gen := g) HM.out HG.out hp HL.out h32 hc (by omega)
  rw [HPG.out] at h1
  exact h1
 clear hb1 HC HK HB1 HT HZ
 go_wp2_with fail
 clear k0 k1 k2 k3
 go_region_held3 (fun w' => w'.cell? ⟨w.heap.size, 0, none⟩ = some (.int .i64 (g : Int)) ∧ w'.cell? ⟨w.heap.size, 1, none⟩ = some (.int .i64 (r : Int)) ∧ w'.cell? ⟨w.heap.size, 2, none⟩ = some (.int .i64 (n : Int)) ∧ w'.cell? ⟨w.heap.size, 3, none⟩ = some (.int .i64 (d : Int)))
  (first | exact HK1.out _ (Below.refl _ _).drew | exact HK1.out _ (Below.refl _ _).drew | exact HK1.out _ ((Below.refl _ _).alloc (Nat.le_refl _) _).drew | exact HK1.out _ HB2.out | exact HK1.out _ HB3.out)
  (first
   | (go_at_call 108; (with_reducible refine HP.out.mono ?_); rintro e w2 ⟨v2, rfl, h2, hb2⟩; obtain ⟨p2, c2, rfl, j1, j2, j3, j4⟩ := h2.form HL.out; have HB2 : Hid (Below w1.heap.size w1 w2) := Hq (((Below.refl w1.heap.size w1).alloc (Nat.le_refl _) _).drew.trans (hb2.mono (by simp))); have H2 := Hq j3; have J1 := Hq j1; have J2 := Hq j2; clear h2 hb2 j1 j2 j3 j4)
   | (go_at_call 107; (with_reducible refine (HS.out _ _ _ HB2.out H2.out J1.out J2.out).mono ?_); rintro e w3 ⟨rfl, h3, hb3⟩; have HB3 : Hid (Below w1.heap.size w1 w3) := Hq (HB2.out.trans (hb3.mono HB2.out.size)); have H3 := Hq h3; clear h3 hb3))
 go_wp2
 refine bodyPost_ret (v := .tuple #[.slice (some ⟨w2.heap.size, 0, none⟩) 512 512, .int .i64 (m : Int), .int .i64 0]) (by simp [results, Tryz.results72, go_sem]) rfl ⟨_, rfl, ?_, HZ1.out.trans (HB3.out.mono HZ1.out.size)⟩
 exact H3.out.own (by have h1 := HB2.out.size; have h2 := HZ1.out.size; omega) HPL.out.symm (by rw [HPL.out]; omega)
end Go.Proofs.YtbbgdbnjmonbgaaGreatDoor

set_option linter.unusedVariables false
set_option maxRecDepth 100000
namespace Go.Proofs.YtbbgdbnjmonbgaaGreatDoor
open Go.RowKit
def wAt (l : List UInt8) (k : Nat) : Int := IntKind.i64.wrap (leV ((l.drop (8 * k)).take 8) : Nat)
theorem wAt_lt {l : List UInt8} {k : Nat} (h : leV ((l.drop (8 * k)).take 8) < 9223372036854775808) : wAt l k = (leV ((l.drop (8 * k)).take 8) : Nat) := by
 unfold wAt
 rw [IntKind.wrap_i64]
 omega
theorem wAt_nil (k : Nat) : wAt [] k = 0 := by
 unfold wAt
 rw [List.drop_nil, List.take_nil]
 rfl
theorem wAt_same {l : List UInt8} {j k q : Nat} (hq : 8 * q ≤ j) (hj : j < 8 * q + 8) (hk : k ≠ q) : wAt (l.take (j + 1)) k = wAt (l.take j) k := by
 have e : ((l.take (j + 1)).drop (8 * k)).take 8 = ((l.take j).drop (8 * k)).take 8 := by
  rcases Nat.lt_or_gt_of_ne hk with h | h
  ·
   rw [List.drop_take, List.drop_take, List.take_take, List.take_take, Nat.min_eq_left (by omega), Nat.min_eq_left (by omega)]
  ·
   rw [List.drop_eq_nil_of_le (by rw [List.length_take]; omega), List.drop_eq_nil_of_le (by rw [List.length_take]; omega)]
 unfold wAt
 rw [e]
theorem part_at {l : List UInt8} {j q r : Nat} (hj : j = 8 * q + r) (hr : r < 8) : ((l.take j).drop (8 * q)).take 8 = (l.drop (8 * q)).take r := by
 subst hj
 rw [List.drop_take, List.take_take, Nat.min_eq_right (by omega)]
 congr 1
 omega
theorem part_next {l : List UInt8} {j q r : Nat} (hj : j = 8 * q + r) (hr : r < 8) (hl : j < l.length) : leV (((l.take (j + 1)).drop (8 * q)).take 8) = leV ((l.drop (8 * q)).take r) + 256 ^ r * l[j].toNat := by
 subst hj
 have e : ((l.take (8 * q + r + 1)).drop (8 * q)).take 8 = (l.drop (8 * q)).take (r + 1) := by
  rw [List.drop_take, List.take_take, Nat.min_eq_right (by omega)]
  congr 1
  omega
 rw [e, leV_snoc (by rw [List.length_drop]; omega), List.getElem_drop]
theorem part_lt {l : List UInt8} (q : Nat) {r : Nat} (hr : r < 8) : leV ((l.drop (8 * q)).take r) < 256 ^ r := by
 have h1 := leV_lt ((l.drop (8 * q)).take r)
 have h2 : (256 : Nat) ^ ((l.drop (8 * q)).take r).length ≤ 256 ^ r := Nat.pow_le_pow_right (by decide) (by rw [List.length_take]; omega)
 omega
theorem ofInt_wrap (z : Int) : BitVec.ofInt 64 (IntKind.i64.wrap z) = BitVec.ofInt 64 z := by
 apply BitVec.eq_of_toNat_eq
 rw [BitVec.toNat_ofInt, BitVec.toNat_ofInt, IntKind.wrap_i64]
 omega
theorem wrap64_i64 (z : Int) : wrap64 z = IntKind.i64.wrap z := by
 rw [IntKind.wrap_i64]
 unfold wrap64
 omega
theorem or_int {s d r : Nat} (hs : s < 256 ^ r) (hd : d < 256) (hr : r < 8) : bits .or .i64 (s : Int) (wrap64 ((d : Int) * 2 ^ (8 * r))) = IntKind.i64.wrap ((s + 256 ^ r * d : Nat) : Int) := by
 have h0 : (256 : Nat) ^ r ≤ 256 ^ 7 := Nat.pow_le_pow_right (by decide) (by omega)
 have h1 : (256 : Nat) ^ 7 = 72057594037927936 := by decide
 have h2 : 256 ^ r * d ≤ 256 ^ 7 * 255 := Nat.mul_le_mul h0 (by omega)
 have h3 : ((d : Int) * 2 ^ (8 * r)) = ((256 ^ r * d : Nat) : Int) := by
  rw [pow8, Int.natCast_mul, Int.natCast_pow, Int.mul_comm]
  rfl
 have h4 := Nat.two_pow_add_eq_or_of_lt (i := 8 * r) (b := s) (by rw [← pow8]; exact hs) d
 have h5 : ∀ k : Nat, k < 18446744073709551616 → (BitVec.ofInt 64 (k : Int)).toNat = k := fun k hk => by rw [BitVec.ofInt_natCast, BitVec.toNat_ofNat]; exact Nat.mod_eq_of_lt (by omega)
 rw [wrap64_i64]
 show IntKind.i64.wrap (((BitVec.ofInt 64 (s : Int) ||| BitVec.ofInt 64 (IntKind.i64.wrap ((d : Int) * 2 ^ (8 * r)))).toNat : Nat) : Int) = _
 rw [ofInt_wrap, h3, BitVec.toNat_or, h5 s (by omega), h5 _ (by omega), Nat.or_comm, pow8, ← h4, Nat.add_comm]
def arrC (l : List UInt8) : Array Value := #[.int .i64 (wAt l 0), .int .i64 (wAt l 1), .int .i64 (wAt l 2), .int .i64 (wAt l 3)]
theorem arrC_nil : arrC [] = #[.int .i64 0, .int .i64 0, .int .i64 0, .int .i64 0] := by simp only [arrC, wAt_nil]
theorem arrC_step {l : List UInt8} {j q r : Nat} (hj : j = 8 * q + r) (hr : r < 8) (hq : q < 4) (hl : j < l.length) :
  arrC (l.take (j + 1)) = (arrC (l.take j)).setIfInBounds q (.int .i64 (IntKind.i64.wrap ((leV ((l.drop (8 * q)).take r) + 256 ^ r * l[j].toNat : Nat) : Int))) := by
 have hs : ∀ k, k ≠ q → wAt (l.take (j + 1)) k = wAt (l.take j) k := fun k hk => wAt_same (q := q) (by omega) (by omega) hk
 have hn : wAt (l.take (j + 1)) q = IntKind.i64.wrap ((leV ((l.drop (8 * q)).take r) + 256 ^ r * l[j].toNat : Nat) : Int) := by
  unfold wAt
  rw [part_next hj hr hl]
 rw [← hn]
 unfold arrC
 rcases (show q = 0 ∨ q = 1 ∨ q = 2 ∨ q = 3 from by omega) with rfl | rfl | rfl | rfl
 ·
  rw [hs 1 (by decide), hs 2 (by decide), hs 3 (by decide)]; rfl
 ·
  rw [hs 0 (by decide), hs 2 (by decide), hs 3 (by decide)]; rfl
 ·
  rw [hs 0 (by decide), hs 1 (by decide), hs 3 (by decide)]; rfl
 ·
  rw [hs 0 (by decide), hs 1 (by decide), hs 2 (by decide)]; rfl
theorem arrC_at {l : List UInt8} {j q r : Nat} (hj : j = 8 * q + r) (hr : r < 8) (hq : q < 4) : (arrC (l.take j))[q]? = some (.int .i64 (leV ((l.drop (8 * q)).take r) : Nat)) := by
 have h1 := part_lt (l := l) q hr
 have h0 : (256 : Nat) ^ r ≤ 256 ^ 7 := Nat.pow_le_pow_right (by decide) (by omega)
 have h2 : (256 : Nat) ^ 7 = 72057594037927936 := by decide
 have hn : wAt (l.take j) q = (leV ((l.drop (8 * q)).take r) : Nat) := by
  rw [wAt_lt (by rw [part_at hj hr]; omega), part_at hj hr]
 rw [← hn]
 unfold arrC
 rcases (show q = 0 ∨ q = 1 ∨ q = 2 ∨ q = 3 from by omega) with rfl | rfl | rfl | rfl <;> rfl
set_option maxHeartbeats 3200000 in
theorem mget_short {w : World} {p : Option Addr} {l : List UInt8} (hl : Bs w p l) {n c : Nat} (hn : n = l.length) (hnc : n ≤ c) (hc : c ≤ 9223372036854775807) (h32 : n ≤ 32) :
  Calls Tryz.prog 111 #[.slice p n c] w fun e w' => e = .returned (.agg #[.int .i64 (wAt (l.take 32) 3), .int .i64 (wAt (l.take 32) 0), .int .i64 (wAt (l.take 32) 1), .int .i64 (wAt (l.take 32) 2)]) ∧ Below w.heap.size w w' := by
 have HN := Hq hn
 have HL := Hq hl
 have HE : Hid (l.take n = l.take 32) := Hq (by rw [List.take_of_length_le (by omega), List.take_of_length_le (by omega)])
 clear hl hn
 go_enter Tryz.func111, Tryz.ntmps111
 go_wp2_with fail
 go_loopw [4, 5, 12] (fun _ _ i wr => ∃ j : Nat, i = .int .i64 j ∧ j ≤ n ∧ wr.heap[w.heap.size + 1]? = some (.cells (arrC (l.take j)) 196 (0, 0)) ∧ wr.heap[w.heap.size]? = some (.cells #[.int .i64 0, .int .i64 0, .int .i64 0, .int .i64 0] 49 (0, 0)) ∧ Below w.heap.size w wr) (fun _ _ i _ => n - (intOf i).toNat)
 case atStart =>
  obtain ⟨b0, b1, b2, b3⟩ := boxes w #[.int .i64 0, .int .i64 0, .int .i64 0, .int .i64 0] #[.int .i64 0, .int .i64 0, .int .i64 0, .int .i64 0] 49 196
  exact ⟨0, rfl, by omega, by rw [List.take_zero, arrC_nil]; exact b1, b0, b2⟩
 case round =>
  obtain ⟨j, rfl, hj, hA, hR, hb⟩ := hrel
  by_cases hjm : j < n
  ·
   obtain ⟨q, r, hjq, hr, hq⟩ : ∃ q r, j = 8 * q + r ∧ r < 8 ∧ q < 4 := ⟨j / 8, j % 8, by omega, by omega, by omega⟩
   have hjl : j < l.length := by have := HN.out; omega
   obtain ⟨b, o, rfl, hbl, hcells⟩ := HL.out.at (by omega)
   have hx : wr.cell? ⟨b, o + j, none⟩ = some (.int .u8 (l[j].toNat : Int)) := by rw [hb.cell (p := ⟨b, o + j, none⟩) hbl]; exact hcells j hjl
   have HST := Hq (arrC_step hjq hr hq hjl)
   have hat := arrC_at (l := l) hjq hr hq
   have hlt := part_lt (l := l) q hr
   have hcl : l[j].toNat < 256 := l[j].toNat_lt
   have HOR := Hq (or_int hlt hcl hr)
   have hce : wr.cell? ⟨w.heap.size + 1, q, none⟩ = some (.int .i64 (leV ((l.drop (8 * q)).take r) : Nat)) := by rw [jC hA]; exact hat
   have hfr : wr.frozen? ⟨w.heap.size + 1, q, none⟩ = false := jU hA q
   have HA := Hq hA
   have HR := Hq hR
   have HB := Hq hb
   have HJQ := Hq hjq
   clear hcells hA hR hb hat hlt
   generalize leV ((l.drop (8 * q)).take r) = s at *
   generalize l[j].toNat = d at *
   have q1 : (j : Int) / 8 = (q : Int) := by omega
   have q2 : (j : Int).tdiv 8 = (q : Int) := by rw [Int.tdiv_eq_ediv_of_nonneg (by omega)]; exact q1
   have q3 : (j : Int) % 8 = (r : Int) := by omega
   have q4 : (j : Int).tmod 8 = (r : Int) := by rw [Int.tmod_eq_emod_of_nonneg (by omega)]; exact q3
   have q5 : IntKind.i64.wrap (8 * (r : Int)) = ((8 * r : Nat) : Int) := by rw [IntWalk.i64_in _ (by omega)]; omega
   have q6 : (q : Int) < 4 := by omega
   have q9 : ¬ ((8 * r : Nat) : Int) < 0 := by omega
   have q7 : IntKind.i64.wrap (q : Int) = (q : Int) := IntWalk.i64_in _ (by omega)
   have q8 : IntKind.i64.wrap (d : Int) = (d : Int) := IntWalk.i64_in _ (by omega)
   clear hjq
   go_wp2_with fail
   go_still_tail 12, (by kernel_rfl)
   change wpList _ _ _ _ _ wr.drew
   go_wp2_with fail
   go_roundw
   case rel =>
    refine ⟨j + 1, by go_num, by omega, ?_, ?_, ?_⟩
    ·
     rw [HST.out, ← HOR.out]
     exact heap_setCell_same wr (w.heap.size + 1) q _ _ _ HA.out
    ·
     exact (heap_setCell_other wr ⟨w.heap.size + 1, q, none⟩ w.heap.size _ (show w.heap.size ≠ w.heap.size + 1 from by omega)).trans HR.out
    ·
     exact (HB.out.setCell (show w.heap.size ≤ w.heap.size + 1 from by omega) _).drew
   case measure => simp [intOf]; omega
  ·
   have HJ : Hid (l.take j = l.take 32) := Hq (by first | exact (congrArg (fun k => l.take k) (show j = n from by omega)).trans HE.out | exact congrArg (fun k => l.take k) (show j = 32 from by omega))
   have HA := Hq hA
   have HB := Hq hb
   clear hA
   rw [HJ.out] at HA
   have a0 : wr.cell? ⟨w.heap.size + 1, 0, none⟩ = some (.int .i64 (wAt (l.take 32) 0)) := by rw [jC HA.out]; rfl
   have a1 : wr.cell? ⟨w.heap.size + 1, 1, none⟩ = some (.int .i64 (wAt (l.take 32) 1)) := by rw [jC HA.out]; rfl
   have a2 : wr.cell? ⟨w.heap.size + 1, 2, none⟩ = some (.int .i64 (wAt (l.take 32) 2)) := by rw [jC HA.out]; rfl
   have a3 : wr.cell? ⟨w.heap.size + 1, 3, none⟩ = some (.int .i64 (wAt (l.take 32) 3)) := by rw [jC HA.out]; rfl
   have c0 : wr.cell? ⟨w.heap.size, 0, none⟩ = some (.int .i64 0) := by rw [jC hR]; rfl
   have c1 : wr.cell? ⟨w.heap.size, 1, none⟩ = some (.int .i64 0) := by rw [jC hR]; rfl
   have c2 : wr.cell? ⟨w.heap.size, 2, none⟩ = some (.int .i64 0) := by rw [jC hR]; rfl
   have c3 : wr.cell? ⟨w.heap.size, 3, none⟩ = some (.int .i64 0) := by rw [jC hR]; rfl
   have z : ∀ i, wr.frozen? ⟨w.heap.size, i, none⟩ = false := fun i => jU hR i
   have z0 := z 0
   have z1 := z 1
   have z2 := z 2
   have z3 := z 3
   obtain ⟨y0, hy0⟩ : ∃ y, y = wAt (l.take 32) 0 := ⟨_, rfl⟩
   rw [← hy0] at a0
   have HY0 := Hq hy0
   clear hy0
   obtain ⟨y1, hy1⟩ : ∃ y, y = wAt (l.take 32) 1 := ⟨_, rfl⟩
   rw [← hy1] at a1
   have HY1 := Hq hy1
   clear hy1
   obtain ⟨y2, hy2⟩ : ∃ y, y = wAt (l.take 32) 2 := ⟨_, rfl⟩
   rw [← hy2] at a2
   have HY2 := Hq hy2
   clear hy2
   obtain ⟨y3, hy3⟩ : ∃ y, y = wAt (l.take 32) 3 := ⟨_, rfl⟩
   rw [← hy3] at a3
   have HY3 := Hq hy3
   clear hy3
   clear hR hb z
   go_wp2_with fail
   refine bodyPost_ret (v := .agg #[.int .i64 y3, .int .i64 y0, .int .i64 y1, .int .i64 y2]) (by simp [results, Tryz.results111, go_sem, c0, c1, c2, c3]) rfl ⟨by rw [HY0.out, HY1.out, HY2.out, HY3.out], ?_⟩
   exact (((HB.out.setCell (Nat.le_refl _) _).setCell (Nat.le_refl _) _).setCell (Nat.le_refl _) _).setCell (Nat.le_refl _) _
set_option maxHeartbeats 3200000 in
theorem mget_long {w : World} {p : Option Addr} {l : List UInt8} (hl : Bs w p l) {n c : Nat} (hn : n = l.length) (hnc : n ≤ c) (hc : c ≤ 9223372036854775807) (h32 : 32 < n) :
  Calls Tryz.prog 111 #[.slice p n c] w fun e w' => e = .returned (.agg #[.int .i64 (wAt (l.take 32) 3), .int .i64 (wAt (l.take 32) 0), .int .i64 (wAt (l.take 32) 1), .int .i64 (wAt (l.take 32) 2)]) ∧ Below w.heap.size w w' := by
 have HN := Hq hn
 have HL := Hq hl
 have HE : Hid (l.take 32 = l.take 32) := Hq rfl
 clear hl hn
 go_enter Tryz.func111, Tryz.ntmps111
 go_wp2_with fail
 go_loopw [4, 5, 12] (fun _ _ i wr => ∃ j : Nat, i = .int .i64 j ∧ j ≤ 32 ∧ wr.heap[w.heap.size + 1]? = some (.cells (arrC (l.take j)) 196 (0, 0)) ∧ wr.heap[w.heap.size]? = some (.cells #[.int .i64 0, .int .i64 0, .int .i64 0, .int .i64 0] 49 (0, 0)) ∧ Below w.heap.size w wr) (fun _ _ i _ => 32 - (intOf i).toNat)
 case atStart =>
  obtain ⟨b0, b1, b2, b3⟩ := boxes w #[.int .i64 0, .int .i64 0, .int .i64 0, .int .i64 0] #[.int .i64 0, .int .i64 0, .int .i64 0, .int .i64 0] 49 196
  exact ⟨0, rfl, by omega, by rw [List.take_zero, arrC_nil]; exact b1, b0, b2⟩
 case round =>
  obtain ⟨j, rfl, hj, hA, hR, hb⟩ := hrel
  by_cases hjm : j < 32
  ·
   obtain ⟨q, r, hjq, hr, hq⟩ : ∃ q r, j = 8 * q + r ∧ r < 8 ∧ q < 4 := ⟨j / 8, j % 8, by omega, by omega, by omega⟩
   have hjl : j < l.length := by have := HN.out; omega
   obtain ⟨b, o, rfl, hbl, hcells⟩ := HL.out.at (by omega)
   have hx : wr.cell? ⟨b, o + j, none⟩ = some (.int .u8 (l[j].toNat : Int)) := by rw [hb.cell (p := ⟨b, o + j, none⟩) hbl]; exact hcells j hjl
   have HST := Hq (arrC_step hjq hr hq hjl)
   have hat := arrC_at (l := l) hjq hr hq
   have hlt := part_lt (l := l) q hr
   have hcl : l[j].toNat < 256 := l[j].toNat_lt
   have HOR := Hq (or_int hlt hcl hr)
   have hce : wr.cell? ⟨w.heap.size + 1, q, none⟩ = some (.int .i64 (leV ((l.drop (8 * q)).take r) : Nat)) := by rw [jC hA]; exact hat
   have hfr : wr.frozen? ⟨w.heap.size + 1, q, none⟩ = false := jU hA q
   have HA := Hq hA
   have HR := Hq hR
   have HB := Hq hb
   have HJQ := Hq hjq
   clear hcells hA hR hb hat hlt
   generalize leV ((l.drop (8 * q)).take r) = s at *
   generalize l[j].toNat = d at *
   have q1 : (j : Int) / 8 = (q : Int) := by omega
   have q2 : (j : Int).tdiv 8 = (q : Int) := by rw [Int.tdiv_eq_ediv_of_nonneg (by omega)]; exact q1
   have q3 : (j : Int) % 8 = (r : Int) := by omega
   have q4 : (j : Int).tmod 8 = (r : Int) := by rw [Int.tmod_eq_emod_of_nonneg (by omega)]; exact q3
   have q5 : IntKind.i64.wrap (8 * (r : Int)) = ((8 * r : Nat) : Int) := by rw [IntWalk.i64_in _ (by omega)]; omega
   have q6 : (q : Int) < 4 := by omega
   have q9 : ¬ ((8 * r : Nat) : Int) < 0 := by omega
   have q7 : IntKind.i64.wrap (q : Int) = (q : Int) := IntWalk.i64_in _ (by omega)
   have q8 : IntKind.i64.wrap (d : Int) = (d : Int) := IntWalk.i64_in _ (by omega)
   clear hjq
   go_wp2_with fail
   go_still_tail 12, (by kernel_rfl)
   change wpList _ _ _ _ _ wr.drew
   go_wp2_with fail
   go_roundw
   case rel =>
    refine ⟨j + 1, by go_num, by omega, ?_, ?_, ?_⟩
    ·
     rw [HST.out, ← HOR.out]
     exact heap_setCell_same wr (w.heap.size + 1) q _ _ _ HA.out
    ·
     exact (heap_setCell_other wr ⟨w.heap.size + 1, q, none⟩ w.heap.size _ (show w.heap.size ≠ w.heap.size + 1 from by omega)).trans HR.out
    ·
     exact (HB.out.setCell (show w.heap.size ≤ w.heap.size + 1 from by omega) _).drew
   case measure => simp [intOf]; omega
  ·
   have HJ : Hid (l.take j = l.take 32) := Hq (by first | exact (congrArg (fun k => l.take k) (show j = 32 from by omega)).trans HE.out | exact congrArg (fun k => l.take k) (show j = 32 from by omega))
   have HA := Hq hA
   have HB := Hq hb
   clear hA
   rw [HJ.out] at HA
   have a0 : wr.cell? ⟨w.heap.size + 1, 0, none⟩ = some (.int .i64 (wAt (l.take 32) 0)) := by rw [jC HA.out]; rfl
   have a1 : wr.cell? ⟨w.heap.size + 1, 1, none⟩ = some (.int .i64 (wAt (l.take 32) 1)) := by rw [jC HA.out]; rfl
   have a2 : wr.cell? ⟨w.heap.size + 1, 2, none⟩ = some (.int .i64 (wAt (l.take 32) 2)) := by rw [jC HA.out]; rfl
   have a3 : wr.cell? ⟨w.heap.size + 1, 3, none⟩ = some (.int .i64 (wAt (l.take 32) 3)) := by rw [jC HA.out]; rfl
   have c0 : wr.cell? ⟨w.heap.size, 0, none⟩ = some (.int .i64 0) := by rw [jC hR]; rfl
   have c1 : wr.cell? ⟨w.heap.size, 1, none⟩ = some (.int .i64 0) := by rw [jC hR]; rfl
   have c2 : wr.cell? ⟨w.heap.size, 2, none⟩ = some (.int .i64 0) := by rw [jC hR]; rfl
   have c3 : wr.cell? ⟨w.heap.size, 3, none⟩ = some (.int .i64 0) := by rw [jC hR]; rfl
   have z : ∀ i, wr.frozen? ⟨w.heap.size, i, none⟩ = false := fun i => jU hR i
   have z0 := z 0
   have z1 := z 1
   have z2 := z 2
   have z3 := z 3
   obtain ⟨y0, hy0⟩ : ∃ y, y = wAt (l.take 32) 0 := ⟨_, rfl⟩
   rw [← hy0] at a0
   have HY0 := Hq hy0
   clear hy0
   obtain ⟨y1, hy1⟩ : ∃ y, y = wAt (l.take 32) 1 := ⟨_, rfl⟩
   rw [← hy1] at a1
   have HY1 := Hq hy1
   clear hy1
   obtain ⟨y2, hy2⟩ : ∃ y, y = wAt (l.take 32) 2 := ⟨_, rfl⟩
   rw [← hy2] at a2
   have HY2 := Hq hy2
   clear hy2
   obtain ⟨y3, hy3⟩ : ∃ y, y = wAt (l.take 32) 3 := ⟨_, rfl⟩
   rw [← hy3] at a3
   have HY3 := Hq hy3
   clear hy3
   clear hR hb z
   go_wp2_with fail
   refine bodyPost_ret (v := .agg #[.int .i64 y3, .int .i64 y0, .int .i64 y1, .int .i64 y2]) (by simp [results, Tryz.results111, go_sem, c0, c1, c2, c3]) rfl ⟨by rw [HY0.out, HY1.out, HY2.out, HY3.out], ?_⟩
   exact (((HB.out.setCell (Nat.le_refl _) _).setCell (Nat.le_refl _) _).setCell (Nat.le_refl _) _).setCell (Nat.le_refl _) _
theorem mget_any {w : World} {p : Option Addr} {l : List UInt8} (hl : Bs w p l) {n c : Nat} (hn : n = l.length) (hnc : n ≤ c) (hc : c ≤ 9223372036854775807) :
  Calls Tryz.prog 111 #[.slice p n c] w fun e w' => e = .returned (.agg #[.int .i64 (wAt (l.take 32) 3), .int .i64 (wAt (l.take 32) 0), .int .i64 (wAt (l.take 32) 1), .int .i64 (wAt (l.take 32) 2)]) ∧ Below w.heap.size w w' := by
 by_cases h : n ≤ 32
 ·
  exact mget_short hl hn hnc hc h
 ·
  exact mget_long hl hn hnc hc (by omega)
end Go.Proofs.YtbbgdbnjmonbgaaGreatDoor

