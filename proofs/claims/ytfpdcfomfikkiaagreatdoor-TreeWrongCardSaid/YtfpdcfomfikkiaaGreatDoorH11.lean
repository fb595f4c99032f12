/-
  meta.get: a contract for the walks.
  meta.Open: contracts for the walks.
-/
import Derived.Test.YtfpdcfomfikkiaaGreatDoorH10
import Derived.StillTailTactics
set_option linter.unusedVariables false
set_option maxRecDepth 100000
namespace Go.Proofs.YtfpdcfomfikkiaaGreatDoor
open Go.RowKit

/-- The k-th number that stands in bytes, as an int. -/
def wAt (l : List UInt8) (k : Nat) : Int := IntKind.i64.wrap (leV ((l.drop (8 * k)).take 8) : Nat)
theorem wAt_lt {l : List UInt8} {k : Nat} (h : leV ((l.drop (8 * k)).take 8) < 9223372036854775808) : wAt l k = (leV ((l.drop (8 * k)).take 8) : Nat) := by
  unfold wAt
  rw [IntKind.wrap_i64]
  omega
theorem wAt_nil (k : Nat) : wAt [] k = 0 := by
  unfold wAt
  rw [List.drop_nil, List.take_nil]
  rfl
theorem wAt_same {l : List UInt8} {j k q : Nat} (hq : 8 * q ≤ j) (hj : j < 8 * q + 8) (hk : k ≠ q) : wAt (l.take (j + 1)) k = wAt (l.take j) k := by
  have e : ((l.take (j + 1)).drop (8 * k)).take 8 = ((l.take j).drop (8 * k)).take 8 := by
    rcases Nat.lt_or_gt_of_ne hk with h | h
    · rw [List.drop_take, List.drop_take, List.take_take, List.take_take, Nat.min_eq_left (by omega), Nat.min_eq_left (by omega)]
    · rw [List.drop_eq_nil_of_le (by rw [List.length_take]; omega), List.drop_eq_nil_of_le (by rw [List.length_take]; omega)]
  unfold wAt
  rw [e]
theorem part_at {l : List UInt8} {j q r : Nat} (hj : j = 8 * q + r) (hr : r < 8) : ((l.take j).drop (8 * q)).take 8 = (l.drop (8 * q)).take r := by
  subst hj
  rw [List.drop_take, List.take_take, Nat.min_eq_right (by omega)]
  congr 1
  omega
theorem part_next {l : List UInt8} {j q r : Nat} (hj : j = 8 * q + r) (hr : r < 8) (hl : j < l.length) : leV (((l.take (j + 1)).drop (8 * q)).take 8) = leV ((l.drop (8 * q)).take r) + 256 ^ r * l[j].toNat := by
  subst hj
  have e : ((l.take (8 * q + r + 1)).drop (8 * q)).take 8 = (l.drop (8 * q)).take (r + 1) := by
    rw [List.drop_take, List.take_take, Nat.min_eq_right (by omega)]
    congr 1
    omega
  rw [e, leV_snoc (by rw [List.length_drop]; omega), List.getElem_drop]
theorem part_lt {l : List UInt8} (q : Nat) {r : Nat} (hr : r < 8) : leV ((l.drop (8 * q)).take r) < 256 ^ r := by
  have h1 := leV_lt ((l.drop (8 * q)).take r)
  have h2 : (256 : Nat) ^ ((l.drop (8 * q)).take r).length ≤ 256 ^ r := Nat.pow_le_pow_right (by decide) (by rw [List.length_take]; omega)
  omega

theorem ofInt_wrap (z : Int) : BitVec.ofInt 64 (IntKind.i64.wrap z) = BitVec.ofInt 64 z := by
  apply BitVec.eq_of_toNat_eq
  rw [BitVec.toNat_ofInt, BitVec.toNat_ofInt, IntKind.wrap_i64]
  omega
theorem wrap64_i64 (z : Int) : wrap64 z = IntKind.i64.wrap z := by
  rw [IntKind.wrap_i64]
  unfold wrap64
  omega
theorem or_int {s d r : Nat} (hs : s < 256 ^ r) (hd : d < 256) (hr : r < 8) : bits .or .i64 (s : Int) (wrap64 ((d : Int) * 2 ^ (8 * r))) = IntKind.i64.wrap ((s + 256 ^ r * d : Nat) : Int) := by
  have h0 : (256 : Nat) ^ r ≤ 256 ^ 7 := Nat.pow_le_pow_right (by decide) (by omega)
  have h1 : (256 : Nat) ^ 7 = 72057594037927936 := by decide
  have h2 : 256 ^ r * d ≤ 256 ^ 7 * 255 := Nat.mul_le_mul h0 (by omega)
  have h3 : ((d : Int) * 2 ^ (8 * r)) = ((256 ^ r * d : Nat) : Int) := by
    rw [pow8, Int.natCast_mul, Int.natCast_pow, Int.mul_comm]
    rfl
  have h4 := Nat.two_pow_add_eq_or_of_lt (i := 8 * r) (b := s) (by rw [← pow8]; exact hs) d
  have h5 : ∀ k : Nat, k < 18446744073709551616 → (BitVec.ofInt 64 (k : Int)).toNat = k := fun k hk => by rw [BitVec.ofInt_natCast, BitVec.toNat_ofNat]; exact Nat.mod_eq_of_lt (by omega)
  rw [wrap64_i64]
  show IntKind.i64.wrap (((BitVec.ofInt 64 (s : Int) ||| BitVec.ofInt 64 (IntKind.i64.wrap ((d : Int) * 2 ^ (8 * r)))).toNat : Nat) : Int) = _
  rw [ofInt_wrap, h3, BitVec.toNat_or, h5 s (by omega), h5 _ (by omega), Nat.or_comm, pow8, ← h4, Nat.add_comm]

def arrC (l : List UInt8) : Array Value := #[.int .i64 (wAt l 0), .int .i64 (wAt l 1), .int .i64 (wAt l 2), .int .i64 (wAt l 3)]
theorem arrC_nil : arrC [] = #[.int .i64 0, .int .i64 0, .int .i64 0, .int .i64 0] := by simp only [arrC, wAt_nil]
theorem arrC_step {l : List UInt8} {j q r : Nat} (hj : j = 8 * q + r) (hr : r < 8) (hq : q < 4) (hl : j < l.length) :
    arrC (l.take (j + 1)) = (arrC (l.take j)).setIfInBounds q (.int .i64 (IntKind.i64.wrap ((leV ((l.drop (8 * q)).take r) + 256 ^ r * l[j].toNat : Nat) : Int))) := by
  have hs : ∀ k, k ≠ q → wAt (l.take (j + 1)) k = wAt (l.take j) k := fun k hk => wAt_same (q := q) (by omega) (by omega) hk
  have hn : wAt (l.take (j + 1)) q = IntKind.i64.wrap ((leV ((l.drop (8 * q)).take r) + 256 ^ r * l[j].toNat : Nat) : Int) := by
    unfold wAt
    rw [part_next hj hr hl]
  rw [← hn]
  unfold arrC
  rcases (show q = 0 ∨ q = 1 ∨ q = 2 ∨ q = 3 from by omega) with rfl | rfl | rfl | rfl
  · rw [hs 1 (by decide), hs 2 (by decide), hs 3 (by decide)]; rfl
  · rw [hs 0 (by decide), hs 2 (by decide), hs 3 (by decide)]; rfl
  · rw [hs 0 (by decide), hs 1 (by decide), hs 3 (by decide)]; rfl
  · rw [hs 0 (by decide), hs 1 (by decide), hs 2 (by decide)]; rfl
theorem arrC_at {l : List UInt8} {j q r : Nat} (hj : j = 8 * q + r) (hr : r < 8) (hq : q < 4) : (arrC (l.take j))[q]? = some (.int .i64 (leV ((l.drop (8 * q)).take r) : Nat)) := by
  have h1 := part_lt (l := l) q hr
  have h0 : (256 : Nat) ^ r ≤ 256 ^ 7 := Nat.pow_le_pow_right (by decide) (by omega)
  have h2 : (256 : Nat) ^ 7 = 72057594037927936 := by decide
  have hn : wAt (l.take j) q = (leV ((l.drop (8 * q)).take r) : Nat) := by
    rw [wAt_lt (by rw [part_at hj hr]; omega), part_at hj hr]
  rw [← hn]
  unfold arrC
  rcases (show q = 0 ∨ q = 1 ∨ q = 2 ∨ q = 3 from by omega) with rfl | rfl | rfl | rfl <;> rfl

set_option maxHeartbeats 3200000 in
theorem mget_short {w : World} {p : Option Addr} {l : List UInt8} (hl : Bs w p l) {n c : Nat} (hn : n = l.length) (hnc : n ≤ c) (hc : c ≤ 9223372036854775807) (h32 : n ≤ 32) :
    Calls Tryz.prog 105 #[.slice p n c] w fun e w' => e = .returned (.agg #[.int .i64 (wAt (l.take 32) 3), .int .i64 (wAt (l.take 32) 0), .int .i64 (wAt (l.take 32) 1), .int .i64 (wAt (l.take 32) 2)]) ∧ Below w.heap.size w w' := by
  have HN := Lib.hid hn
  have HL := Lib.hid hl
  have HE : Hid (l.take n = l.take 32) := Lib.hid (by rw [List.take_of_length_le (by omega), List.take_of_length_le (by omega)])
  clear hl hn
  go_enter Tryz.func105, Tryz.ntmps105
  go_wp2_with fail
  go_loopw [4, 5, 12] (fun _ _ i wr => ∃ j : Nat, i = .int .i64 j ∧ j ≤ n ∧ wr.heap[w.heap.size + 1]? = some (.cells (arrC (l.take j)) 207 (0, 0)) ∧ wr.heap[w.heap.size]? = some (.cells #[.int .i64 0, .int .i64 0, .int .i64 0, .int .i64 0] 57 (0, 0)) ∧ Below w.heap.size w wr) (fun _ _ i _ => n - (intOf i).toNat)
  case atStart =>
    obtain ⟨b0, b1, b2, b3⟩ := boxes w #[.int .i64 0, .int .i64 0, .int .i64 0, .int .i64 0] #[.int .i64 0, .int .i64 0, .int .i64 0, .int .i64 0] 57 207
    exact ⟨0, rfl, by omega, by rw [List.take_zero, arrC_nil]; exact b1, b0, b2⟩
  case round =>
    obtain ⟨j, rfl, hj, hA, hR, hb⟩ := hrel
    by_cases hjm : j < n
    · obtain ⟨q, r, hjq, hr, hq⟩ : ∃ q r, j = 8 * q + r ∧ r < 8 ∧ q < 4 := ⟨j / 8, j % 8, by omega, by omega, by omega⟩
      have hjl : j < l.length := by have := HN.out; omega
      obtain ⟨b, o, rfl, hbl, hcells⟩ := HL.out.at (by omega)
      have hx : wr.cell? ⟨b, o + j, none⟩ = some (.int .u8 (l[j].toNat : Int)) := by rw [hb.cell (p := ⟨b, o + j, none⟩) hbl]; exact hcells j hjl
      have HST := Lib.hid (arrC_step hjq hr hq hjl)
      have hat := arrC_at (l := l) hjq hr hq
      have hlt := part_lt (l := l) q hr
      have hcl : l[j].toNat < 256 := l[j].toNat_lt
      have HOR := Lib.hid (or_int hlt hcl hr)
      have hce : wr.cell? ⟨w.heap.size + 1, q, none⟩ = some (.int .i64 (leV ((l.drop (8 * q)).take r) : Nat)) := by rw [Joins.cell_of_block hA]; exact hat
      have hfr : wr.frozen? ⟨w.heap.size + 1, q, none⟩ = false := Joins.unfrozen_of_block hA q
      have HA := Lib.hid hA
      have HR := Lib.hid hR
      have HB := Lib.hid hb
      have HJQ := Lib.hid hjq
      clear hcells hA hR hb hat hlt
      generalize leV ((l.drop (8 * q)).take r) = s at *
      generalize l[j].toNat = d at *
      have q1 : (j : Int) / 8 = (q : Int) := by omega
      have q2 : (j : Int).tdiv 8 = (q : Int) := by rw [Int.tdiv_eq_ediv_of_nonneg (by omega)]; exact q1
      have q3 : (j : Int) % 8 = (r : Int) := by omega
      have q4 : (j : Int).tmod 8 = (r : Int) := by rw [Int.tmod_eq_emod_of_nonneg (by omega)]; exact q3
      have q5 : IntKind.i64.wrap (8 * (r : Int)) = ((8 * r : Nat) : Int) := by rw [IntWalk.i64_in _ (by omega)]; omega
      have q6 : (q : Int) < 4 := by omega
      have q9 : ¬ ((8 * r : Nat) : Int) < 0 := by omega
      have q7 : IntKind.i64.wrap (q : Int) = (q : Int) := IntWalk.i64_in _ (by omega)
      have q8 : IntKind.i64.wrap (d : Int) = (d : Int) := IntWalk.i64_in _ (by omega)
      clear hjq
      go_wp2_with fail
      go_still_tail 12, (by kernel_rfl)
      change wpList _ _ _ _ _ wr.drew
      go_wp2_with fail
      go_roundw
      case rel =>
        refine ⟨j + 1, by go_num, by omega, ?_, ?_, ?_⟩
        · rw [HST.out, ← HOR.out]
          exact heap_setCell_same wr (w.heap.size + 1) q _ _ _ HA.out
        · exact (heap_setCell_other wr ⟨w.heap.size + 1, q, none⟩ w.heap.size _ (show w.heap.size ≠ w.heap.size + 1 from by omega)).trans HR.out
        · exact (HB.out.setCell (show w.heap.size ≤ w.heap.size + 1 from by omega) _).drew
      case measure => simp [intOf]; omega
    · have HJ : Hid (l.take j = l.take 32) := Lib.hid (by first | exact (congrArg (fun k => l.take k) (show j = n from by omega)).trans HE.out | exact congrArg (fun k => l.take k) (show j = 32 from by omega))
      have HA := Lib.hid hA
      have HB := Lib.hid hb
      clear hA
      rw [HJ.out] at HA
      have a0 : wr.cell? ⟨w.heap.size + 1, 0, none⟩ = some (.int .i64 (wAt (l.take 32) 0)) := by rw [Joins.cell_of_block HA.out]; rfl
      have a1 : wr.cell? ⟨w.heap.size + 1, 1, none⟩ = some (.int .i64 (wAt (l.take 32) 1)) := by rw [Joins.cell_of_block HA.out]; rfl
      have a2 : wr.cell? ⟨w.heap.size + 1, 2, none⟩ = some (.int .i64 (wAt (l.take 32) 2)) := by rw [Joins.cell_of_block HA.out]; rfl
      have a3 : wr.cell? ⟨w.heap.size + 1, 3, none⟩ = some (.int .i64 (wAt (l.take 32) 3)) := by rw [Joins.cell_of_block HA.out]; rfl
      have c0 : wr.cell? ⟨w.heap.size, 0, none⟩ = some (.int .i64 0) := by rw [Joins.cell_of_block hR]; rfl
      have c1 : wr.cell? ⟨w.heap.size, 1, none⟩ = some (.int .i64 0) := by rw [Joins.cell_of_block hR]; rfl
      have c2 : wr.cell? ⟨w.heap.size, 2, none⟩ = some (.int .i64 0) := by rw [Joins.cell_of_block hR]; rfl
      have c3 : wr.cell? ⟨w.heap.size, 3, none⟩ = some (.int .i64 0) := by rw [Joins.cell_of_block hR]; rfl
      have z : ∀ i, wr.frozen? ⟨w.heap.size, i, none⟩ = false := fun i => Joins.unfrozen_of_block hR i
      have z0 := z 0
      have z1 := z 1
      have z2 := z 2
      have z3 := z 3
      obtain ⟨y0, hy0⟩ : ∃ y, y = wAt (l.take 32) 0 := ⟨_, rfl⟩
      rw [← hy0] at a0
      have HY0 := Lib.hid hy0
      clear hy0
      obtain ⟨y1, hy1⟩ : ∃ y, y = wAt (l.take 32) 1 := ⟨_, rfl⟩
      rw [← hy1] at a1
      have HY1 := Lib.hid hy1
      clear hy1
      obtain ⟨y2, hy2⟩ : ∃ y, y = wAt (l.take 32) 2 := ⟨_, rfl⟩
      rw [← hy2] at a2
      have HY2 := Lib.hid hy2
      clear hy2
      obtain ⟨y3, hy3⟩ : ∃ y, y = wAt (l.take 32) 3 := ⟨_, rfl⟩
      rw [← hy3] at a3
      have HY3 := Lib.hid hy3
      clear hy3
      clear hR hb z
      go_wp2_with fail
      refine bodyPost_ret (v := .agg #[.int .i64 y3, .int .i64 y0, .int .i64 y1, .int .i64 y2]) (by simp [results, Tryz.results105, go_sem, c0, c1, c2, c3]) rfl ⟨by rw [HY0.out, HY1.out, HY2.out, HY3.out], ?_⟩
      exact (((HB.out.setCell (Nat.le_refl _) _).setCell (Nat.le_refl _) _).setCell (Nat.le_refl _) _).setCell (Nat.le_refl _) _

set_option maxHeartbeats 3200000 in
theorem mget_long {w : World} {p : Option Addr} {l : List UInt8} (hl : Bs w p l) {n c : Nat} (hn : n = l.length) (hnc : n ≤ c) (hc : c ≤ 9223372036854775807) (h32 : 32 < n) :
    Calls Tryz.prog 105 #[.slice p n c] w fun e w' => e = .returned (.agg #[.int .i64 (wAt (l.take 32) 3), .int .i64 (wAt (l.take 32) 0), .int .i64 (wAt (l.take 32) 1), .int .i64 (wAt (l.take 32) 2)]) ∧ Below w.heap.size w w' := by
  have HN := Lib.hid hn
  have HL := Lib.hid hl
  have HE : Hid (l.take 32 = l.take 32) := Lib.hid rfl
  clear hl hn
  go_enter Tryz.func105, Tryz.ntmps105
  go_wp2_with fail
  go_loopw [4, 5, 12] (fun _ _ i wr => ∃ j : Nat, i = .int .i64 j ∧ j ≤ 32 ∧ wr.heap[w.heap.size + 1]? = some (.cells (arrC (l.take j)) 207 (0, 0)) ∧ wr.heap[w.heap.size]? = some (.cells #[.int .i64 0, .int .i64 0, .int .i64 0, .int .i64 0] 57 (0, 0)) ∧ Below w.heap.size w wr) (fun _ _ i _ => 32 - (intOf i).toNat)
  case atStart =>
    obtain ⟨b0, b1, b2, b3⟩ := boxes w #[.int .i64 0, .int .i64 0, .int .i64 0, .int .i64 0] #[.int .i64 0, .int .i64 0, .int .i64 0, .int .i64 0] 57 207
    exact ⟨0, rfl, by omega, by rw [List.take_zero, arrC_nil]; exact b1, b0, b2⟩
  case round =>
    obtain ⟨j, rfl, hj, hA, hR, hb⟩ := hrel
    by_cases hjm : j < 32
    · obtain ⟨q, r, hjq, hr, hq⟩ : ∃ q r, j = 8 * q + r ∧ r < 8 ∧ q < 4 := ⟨j / 8, j % 8, by omega, by omega, by omega⟩
      have hjl : j < l.length := by have := HN.out; omega
      obtain ⟨b, o, rfl, hbl, hcells⟩ := HL.out.at (by omega)
      have hx : wr.cell? ⟨b, o + j, none⟩ = some (.int .u8 (l[j].toNat : Int)) := by rw [hb.cell (p := ⟨b, o + j, none⟩) hbl]; exact hcells j hjl
      have HST := Lib.hid (arrC_step hjq hr hq hjl)
      have hat := arrC_at (l := l) hjq hr hq
      have hlt := part_lt (l := l) q hr
      have hcl : l[j].toNat < 256 := l[j].toNat_lt
      have HOR := Lib.hid (or_int hlt hcl hr)
      have hce : wr.cell? ⟨w.heap.size + 1, q, none⟩ = some (.int .i64 (leV ((l.drop (8 * q)).take r) : Nat)) := by rw [Joins.cell_of_block hA]; exact hat
      have hfr : wr.frozen? ⟨w.heap.size + 1, q, none⟩ = false := Joins.unfrozen_of_block hA q
      have HA := Lib.hid hA
      have HR := Lib.hid hR
      have HB := Lib.hid hb
      have HJQ := Lib.hid hjq
      clear hcells hA hR hb hat hlt
      generalize leV ((l.drop (8 * q)).take r) = s at *
      generalize l[j].toNat = d at *
      have q1 : (j : Int) / 8 = (q : Int) := by omega
      have q2 : (j : Int).tdiv 8 = (q : Int) := by rw [Int.tdiv_eq_ediv_of_nonneg (by omega)]; exact q1
      have q3 : (j : Int) % 8 = (r : Int) := by omega
      have q4 : (j : Int).tmod 8 = (r : Int) := by rw [Int.tmod_eq_emod_of_nonneg (by omega)]; exact q3
      have q5 : IntKind.i64.wrap (8 * (r : Int)) = ((8 * r : Nat) : Int) := by rw [IntWalk.i64_in _ (by omega)]; omega
      have q6 : (q : Int) < 4 := by omega
      have q9 : ¬ ((8 * r : Nat) : Int) < 0 := by omega
      have q7 : IntKind.i64.wrap (q : Int) = (q : Int) := IntWalk.i64_in _ (by omega)
      have q8 : IntKind.i64.wrap (d : Int) = (d : Int) := IntWalk.i64_in _ (by omega)
      clear hjq
      go_wp2_with fail
      go_still_tail 12, (by kernel_rfl)
      change wpList _ _ _ _ _ wr.drew
      go_wp2_with fail
      go_roundw
      case rel =>
        refine ⟨j + 1, by go_num, by omega, ?_, ?_, ?_⟩
        · rw [HST.out, ← HOR.out]
          exact heap_setCell_same wr (w.heap.size + 1) q _ _ _ HA.out
        · exact (heap_setCell_other wr ⟨w.heap.size + 1, q, none⟩ w.heap.size _ (show w.heap.size ≠ w.heap.size + 1 from by omega)).trans HR.out
        · exact (HB.out.setCell (show w.heap.size ≤ w.heap.size + 1 from by omega) _).drew
      case measure => simp [intOf]; omega
    · have HJ : Hid (l.take j = l.take 32) := Lib.hid (by first | exact (congrArg (fun k => l.take k) (show j = 32 from by omega)).trans HE.out | exact congrArg (fun k => l.take k) (show j = 32 from by omega))
      have HA := Lib.hid hA
      have HB := Lib.hid hb
      clear hA
      rw [HJ.out] at HA
      have a0 : wr.cell? ⟨w.heap.size + 1, 0, none⟩ = some (.int .i64 (wAt (l.take 32) 0)) := by rw [Joins.cell_of_block HA.out]; rfl
      have a1 : wr.cell? ⟨w.heap.size + 1, 1, none⟩ = some (.int .i64 (wAt (l.take 32) 1)) := by rw [Joins.cell_of_block HA.out]; rfl
      have a2 : wr.cell? ⟨w.heap.size + 1, 2, none⟩ = some (.int .i64 (wAt (l.take 32) 2)) := by rw [Joins.cell_of_block HA.out]; rfl
      have a3 : wr.cell? ⟨w.heap.size + 1, 3, none⟩ = some (.int .i64 (wAt (l.take 32) 3)) := by rw [Joins.cell_of_block HA.out]; rfl
      have c0 : wr.cell? ⟨w.heap.size, 0, none⟩ = some (.int .i64 0) := by rw [Joins.cell_of_block hR]; rfl
      have c1 : wr.cell? ⟨w.heap.size, 1, none⟩ = some (.int .i64 0) := by rw [Joins.cell_of_block hR]; rfl
      have c2 : wr.cell? ⟨w.heap.size, 2, none⟩ = some (.int .i64 0) := by rw [Joins.cell_of_block hR]; rfl
      have c3 : wr.cell? ⟨w.heap.size, 3, none⟩ = some (.int .i64 0) := by rw [Joins.cell_of_block hR]; rfl
      have z : ∀ i, wr.frozen? ⟨w.heap.size, i, none⟩ = false := fun i => Joins.unfrozen_of_block hR i
      have z0 := z 0
      have z1 := z 1
      have z2 := z 2
      have z3 := z 3
      obtain ⟨y0, hy0⟩ : ∃ y, y = wAt (l.take 32) 0 := ⟨_, rfl⟩
      rw [← hy0] at a0
      have HY0 := Lib.hid hy0
      clear hy0
      obtain ⟨y1, hy1⟩ : ∃ y, y = wAt (l.take 32) 1 := ⟨_, rfl⟩
      rw [← hy1] at a1
      have HY1 := Lib.hid hy1
      clear hy1
      obtain ⟨y2, hy2⟩ : ∃ y, y = wAt (l.take 32) 2 := ⟨_, rfl⟩
      rw [← hy2] at a2
      have HY2 := Lib.hid hy2
      clear hy2
      obtain ⟨y3, hy3⟩ : ∃ y, y = wAt (l.take 32) 3 := ⟨_, rfl⟩
      rw [← hy3] at a3
      have HY3 := Lib.hid hy3
      clear hy3
      clear hR hb z
      go_wp2_with fail
      refine bodyPost_ret (v := .agg #[.int .i64 y3, .int .i64 y0, .int .i64 y1, .int .i64 y2]) (by simp [results, Tryz.results105, go_sem, c0, c1, c2, c3]) rfl ⟨by rw [HY0.out, HY1.out, HY2.out, HY3.out], ?_⟩
      exact (((HB.out.setCell (Nat.le_refl _) _).setCell (Nat.le_refl _) _).setCell (Nat.le_refl _) _).setCell (Nat.le_refl _) _

theorem mget_any {w : World} {p : Option Addr} {l : List UInt8} (hl : Bs w p l) {n c : Nat} (hn : n = l.length) (hnc : n ≤ c) (hc : c ≤ 9223372036854775807) :
    Calls Tryz.prog 105 #[.slice p n c] w fun e w' => e = .returned (.agg #[.int .i64 (wAt (l.take 32) 3), .int .i64 (wAt (l.take 32) 0), .int .i64 (wAt (l.take 32) 1), .int .i64 (wAt (l.take 32) 2)]) ∧ Below w.heap.size w w' := by
  by_cases h : n ≤ 32
  · exact mget_short hl hn hnc hc h
  · exact mget_long hl hn hnc hc (by omega)

end Go.Proofs.YtfpdcfomfikkiaaGreatDoor

set_option linter.unusedVariables false
set_option maxRecDepth 100000
namespace Go.Proofs.YtfpdcfomfikkiaaGreatDoor
open Go.RowKit

/-- What Open tells. -/
def MOpPost (w : World) (G R N D E : Nat) (e : Ending) (w' : World) : Prop :=
  e = .returned (.tuple #[.agg #[.int .i64 (G : Int), .int .i64 (R : Int), .int .i64 (N : Int), .int .i64 (D : Int)], .int .i64 (E : Int)]) ∧ Below w.heap.size w w'

theorem mres_cell {w w1 : World} {cs : Array Value} {t : TypeId} (hb : Below (w.alloc (.cells cs t)).heap.size (w.alloc (.cells cs t)) w1) (i : Nat) : w1.cell? ⟨w.heap.size, i, none⟩ = cs[i]? ∧ w1.frozen? ⟨w.heap.size, i, none⟩ = false := by
  have h := hb.block w.heap.size (by simp)
  have h2 := heap_alloc_new w (.cells cs t)
  rw [h2] at h
  exact ⟨Joins.cell_of_block h i, Joins.unfrozen_of_block h i⟩

/-- The numbers within, where it is a Meta's page. -/
theorem w_of {l : List UInt8} {no : Int} (h : openE l no = 0) (hm : MOk l no) : wAt ((fIn l).take 32) 3 = (fG l : Nat) ∧ wAt ((fIn l).take 32) 0 = (fR l : Nat) ∧ wAt ((fIn l).take 32) 1 = (fN l : Nat) ∧ wAt ((fIn l).take 32) 2 = (fD l : Nat) := by
  obtain ⟨a1, a2, a3, a4, a5⟩ := hm
  have hb := a5.b
  have e : (fIn l).take 32 = fIn l := List.take_of_length_le (by omega)
  have e3 : ((fIn l).drop (8 * 3)).take 8 = (fIn l).drop 24 := List.take_of_length_le (by rw [List.length_drop]; omega)
  rw [e]
  refine ⟨?_, ?_, ?_, ?_⟩
  · rw [wAt_lt (by rw [e3]; show fG l < _; omega), e3]; rfl
  · have h0 : ((fIn l).drop (8 * 0)).take 8 = (fIn l).take 8 := rfl
    rw [wAt_lt (by rw [h0]; show fR l < _; omega), h0]; rfl
  · rw [wAt_lt (by show fN l < _; omega)]; rfl
  · rw [wAt_lt (by show fD l < _; omega)]; rfl

theorem ok_of {l : List UInt8} {no : Int} (h : openE l no = 0) {g r n d : Nat} (hr : MRight g r n d) (hp : mPage g r n d = l) : MOk l no := by
  obtain ⟨q1, q2, q3, q4, q5, q6, q7⟩ := page_own hr
  refine (again_page h).2 ?_
  rw [← hp, q2, q3, q4, q5, q6]
  exact ⟨hr, metaB_length _ _ _ _, rfl⟩

set_option maxHeartbeats 1600000 in
theorem mopen_err {w : World} (hT : Tab w) {p : Option Addr} {l : List UInt8} (hl : Bs w p l) {n c : Nat} (hn : n = l.length) (hnc : n ≤ c) (hc : c ≤ 9223372036854775807) (no : Int) (h : openE l no ≠ 0) :
    Calls Tryz.prog 80 #[.slice p n c, .int .i64 no] w (MOpPost w 0 0 0 0 (openE l no)) := by
  obtain ⟨W0, hW0⟩ : ∃ W0, W0 = w.alloc (.cells #[.int .i64 0, .int .i64 0, .int .i64 0, .int .i64 0] 57) := ⟨_, rfl⟩
  have HZ : Hid (Below w.heap.size w W0) := Lib.hid (by rw [hW0]; exact (Below.refl _ _).alloc (Nat.le_refl _) _)
  have HR : Hid (∀ w', Below W0.heap.size W0 w' → ∀ i, w'.cell? ⟨w.heap.size, i, none⟩ = (#[.int .i64 0, .int .i64 0, .int .i64 0, .int .i64 0] : Array Value)[i]? ∧ w'.frozen? ⟨w.heap.size, i, none⟩ = false) := Lib.hid fun w' hb i => by rw [hW0] at hb; exact mres_cell hb i
  have HC := Lib.hid (pOpen_any (hT.below hT.lt HZ.out) (hl.below HZ.out) hn hnc hc no)
  obtain ⟨x, hx⟩ : ∃ x, x = openE l no := ⟨_, rfl⟩
  have hx0 : x ≠ 0 := by rw [hx]; exact h
  have HP : Hid (∀ e w', OpenPost W0 l no e w' → e = .returned (.tuple #[.int .u8 0, .int .i64 0, .slice none 0 0, .int .i64 (x : Int)]) ∧ Below W0.heap.size W0 w') := Lib.hid fun e w' hp => by
    rcases hp with ⟨h1, h2, h3⟩ | ⟨h1, _⟩
    · rw [hx]; exact ⟨h2, h3⟩
    · exact absurd h1 h
  rw [← hx]
  clear hT hl hn hnc hc h hx
  have hx1 : ((x : Int) == 0) = false := by rw [beq_eq_false_iff_ne]; omega
  have hx2 : ((x : Int) != 0) = true := by rw [bne_iff_ne]; omega
  have hx3 : ¬ (x : Int) = 0 := by omega
  go_enter Tryz.func80, Tryz.ntmps80
  go_wp2_with fail
  rw [← hW0]
  clear hW0
  with_reducible refine HC.out.mono ?_
  intro e w1 hp
  obtain ⟨rfl, hb1⟩ := HP.out _ _ hp
  have HB1 := Lib.hid hb1
  obtain ⟨c0, z0⟩ := HR.out _ hb1 0
  obtain ⟨c1, z1⟩ := HR.out _ hb1 1
  obtain ⟨c2, z2⟩ := HR.out _ hb1 2
  obtain ⟨c3, z3⟩ := HR.out _ hb1 3
  clear hb1 hp HC HP HR
  replace c0 : w1.cell? ⟨w.heap.size, 0, none⟩ = some (.int .i64 0) := c0
  replace c1 : w1.cell? ⟨w.heap.size, 1, none⟩ = some (.int .i64 0) := c1
  replace c2 : w1.cell? ⟨w.heap.size, 2, none⟩ = some (.int .i64 0) := c2
  replace c3 : w1.cell? ⟨w.heap.size, 3, none⟩ = some (.int .i64 0) := c3
  go_wp2_with fail
  refine bodyPost_ret (v := .tuple #[.agg #[.int .i64 0, .int .i64 0, .int .i64 0, .int .i64 0], .int .i64 (x : Int)]) (by simp [results, Tryz.results80, go_sem, c0, c1, c2, c3]) rfl ⟨rfl, ?_⟩
  exact ((((HZ.out.trans (HB1.out.mono HZ.out.size)).setCell (Nat.le_refl _) _).setCell (Nat.le_refl _) _).setCell (Nat.le_refl _) _).setCell (Nat.le_refl _) _

/-- What follows page.Open, where there is a page: in one of three ways. -/
inductive MWay (l : List UInt8) (no : Int) (g r n d : Int) : Prop
  | bad (h : ¬ MRight g r n d)
  | not (g' r' n' d' : Nat) (hg : g = g') (hr : r = r') (hn : n = n') (hd : d = d') (h : MRight g' r' n' d') (hp : mPage g' r' n' d' ≠ l)
  | yes (g' r' n' d' : Nat) (hg : g = g') (hr : r = r') (hn : n = n') (hd : d = d') (h : MRight g' r' n' d') (hp : mPage g' r' n' d' = l)

theorem MWay.of (l : List UInt8) (no : Int) (g r n d : Int) : MWay l no g r n d := by
  by_cases h : MRight g r n d
  · obtain ⟨g', r', n', d', rfl, rfl, rfl, rfl⟩ := h.nat
    by_cases hp : mPage g' r' n' d' = l
    · exact .yes g' r' n' d' rfl rfl rfl rfl h hp
    · exact .not g' r' n' d' rfl rfl rfl rfl h hp
  · exact .bad h

set_option maxHeartbeats 3200000 in
theorem mopen_page {w : World} (hT : Tab w) {p : Option Addr} {l : List UInt8} (hl : Bs w p l) {n c : Nat} (hn : n = l.length) (hnc : n ≤ c) (hc : c ≤ 9223372036854775807) (no : Int) (h : openE l no = 0) :
    Calls Tryz.prog 80 #[.slice p n c, .int .i64 no] w (MOpPost w (mG l no) (mR l no) (mN l no) (mD l no) (mE l no)) := by
  obtain ⟨W0, hW0⟩ : ∃ W0, W0 = w.alloc (.cells #[.int .i64 0, .int .i64 0, .int .i64 0, .int .i64 0] 57) := ⟨_, rfl⟩
  have HZ : Hid (Below w.heap.size w W0) := Lib.hid (by rw [hW0]; exact (Below.refl _ _).alloc (Nat.le_refl _) _)
  have HR : Hid (∀ w', Below W0.heap.size W0 w' → ∀ i, w'.cell? ⟨w.heap.size, i, none⟩ = (#[.int .i64 0, .int .i64 0, .int .i64 0, .int .i64 0] : Array Value)[i]? ∧ w'.frozen? ⟨w.heap.size, i, none⟩ = false) := Lib.hid fun w' hb i => by rw [hW0] at hb; exact mres_cell hb i
  have HS : Hid (w.heap.size < W0.heap.size) := Lib.hid (by rw [hW0]; simp)
  have HC := Lib.hid (pOpen_any (hT.below hT.lt HZ.out) (hl.below HZ.out) hn hnc hc no)
  have HP : Hid (∀ e w', OpenPost W0 l no e w' → ∃ (u : UInt8) (q : Option Addr) (k cc : Nat), e = .returned (.tuple #[.int .u8 (u.toNat : Int), .int .i64 (fGen l : Nat), .slice q k cc, .int .i64 0]) ∧ k = (fIn l).length ∧ k ≤ cc ∧ cc ≤ 9223372036854775807 ∧ Bs w' q (fIn l) ∧ Below W0.heap.size W0 w') := Lib.hid fun e w' hp => by
    rcases hp with ⟨h1, _⟩ | ⟨_, u, v, _, rfl, hv, hb⟩
    · exact absurd h h1
    · obtain ⟨q, cc, rfl, j1, j2, j3, _⟩ := hv.form rfl
      exact ⟨u, q, _, cc, rfl, rfl, j1, j2, j3, hb⟩
  have HT : Hid (∀ w', Below w.heap.size w w' → Tab w') := Lib.hid fun w' hb => hT.below hT.lt hb
  have HL : Hid (∀ w', Below w.heap.size w w' → Bs w' p l) := Lib.hid fun w' hb => hl.below hb
  have HN := Lib.hid hn
  have hl512 : l.length = 512 := (openE_zero.1 h).1
  obtain rfl : n = 512 := by omega
  clear hT hl hn hl512
  have HH := Lib.hid h
  clear h
  go_enter Tryz.func80, Tryz.ntmps80
  go_wp2_with fail
  rw [← hW0]
  clear hW0
  with_reducible refine HC.out.mono ?_
  intro e w1 hp
  obtain ⟨u, q, k, cc, rfl, hk, j1, j2, j3, hb1⟩ := HP.out _ _ hp
  have HB1 := Lib.hid hb1
  have HG := Lib.hid (mget_any j3 hk j1 j2)
  clear hp HC HP hk j1 j2 j3 hb1
  have HY : Hid (MOk l no → wAt ((fIn l).take 32) 3 = (fG l : Nat) ∧ wAt ((fIn l).take 32) 0 = (fR l : Nat) ∧ wAt ((fIn l).take 32) 1 = (fN l : Nat) ∧ wAt ((fIn l).take 32) 2 = (fD l : Nat)) := Lib.hid (w_of HH.out)
  generalize wAt ((fIn l).take 32) 3 = y3 at *
  generalize wAt ((fIn l).take 32) 0 = y0 at *
  generalize wAt ((fIn l).take 32) 1 = y1 at *
  generalize wAt ((fIn l).take 32) 2 = y2 at *
  have HW := Lib.hid (MWay.of l no y3 y0 y1 y2)
  go_wp2_with fail
  with_reducible refine HG.out.mono ?_
  rintro e w2 ⟨rfl, hb2⟩
  have HB2 := Lib.hid (HB1.out.trans (hb2.mono HB1.out.size))
  clear hb2 HG HB1
  go_wp2_with fail
  obtain ⟨W3, hW3⟩ : ∃ W3, W3 = w2.alloc (.cells #[.int .i64 y3, .int .i64 y0, .int .i64 y1, .int .i64 y2] 57) := ⟨_, rfl⟩
  rw [← hW3]
  have HB3 : Hid (Below W0.heap.size W0 W3) := Lib.hid (by rw [hW3]; exact HB2.out.alloc HB2.out.size _)
  have HM : Hid (∀ w', Below W3.heap.size W3 w' → ∀ i, w'.cell? ⟨w2.heap.size, i, none⟩ = (#[.int .i64 y3, .int .i64 y0, .int .i64 y1, .int .i64 y2] : Array Value)[i]? ∧ w'.frozen? ⟨w2.heap.size, i, none⟩ = false) := Lib.hid fun w' hb i => by rw [hW3] at hb; exact mres_cell hb i
  have HR3 : Hid (∀ w', Below W3.heap.size W3 w' → ∀ i, w'.cell? ⟨w.heap.size, i, none⟩ = (#[.int .i64 0, .int .i64 0, .int .i64 0, .int .i64 0] : Array Value)[i]? ∧ w'.frozen? ⟨w.heap.size, i, none⟩ = false) := Lib.hid fun w' hb i => HR.out w' (HB3.out.trans (hb.mono HB3.out.size)) i
  have HZ3 : Hid (Below w.heap.size w W3) := Lib.hid (HZ.out.trans (HB3.out.mono HZ.out.size))
  have HH0 := HH.out
  clear hW3 HR HB2 HB3 HZ
  rcases HW.out with hbad | ⟨g, r, n, d, rfl, rfl, rfl, rfl, hr, hp⟩ | ⟨g, r, n, d, rfl, rfl, rfl, rfl, hr, hp⟩
  · have hno : ¬ MOk l no := fun hm => by
      obtain ⟨e3, e0, e1, e2⟩ := HY.out hm
      have h5 := hm.2.2.2
      rw [← h5.1] at h5
      rw [e3, e0, e1, e2] at hbad
      exact hbad h5.2
    have hE := mE_not HH0 hno
    have hne : mE l no ≠ 0 := by rw [hE]; decide
    obtain ⟨m1, m2, m3, m4⟩ := m_none hne
    have HX : Hid (mG l no = 0 ∧ mR l no = 0 ∧ mN l no = 0 ∧ mD l no = 0 ∧ mE l no = 11) := Lib.hid ⟨m1, m2, m3, m4, hE⟩
    have HC := Lib.hid (mseal_bad (w := W3) y3 y0 y1 y2 hbad)
    clear HW HY HH HH0 hno hE hne m1 m2 m3 m4 hbad HN HL HT HM
    with_reducible refine HC.out.mono ?_
    rintro e w4 ⟨rfl, hb4⟩
    have HB4 := Lib.hid hb4
    obtain ⟨c0, z0⟩ := HR3.out _ hb4 0
    obtain ⟨c1, z1⟩ := HR3.out _ hb4 1
    obtain ⟨c2, z2⟩ := HR3.out _ hb4 2
    obtain ⟨c3, z3⟩ := HR3.out _ hb4 3
    clear hb4 HC HR3
    replace c0 : w4.cell? ⟨w.heap.size, 0, none⟩ = some (.int .i64 0) := c0
    replace c1 : w4.cell? ⟨w.heap.size, 1, none⟩ = some (.int .i64 0) := c1
    replace c2 : w4.cell? ⟨w.heap.size, 2, none⟩ = some (.int .i64 0) := c2
    replace c3 : w4.cell? ⟨w.heap.size, 3, none⟩ = some (.int .i64 0) := c3
    go_wp2_with fail
    refine bodyPost_ret (v := .tuple #[.agg #[.int .i64 0, .int .i64 0, .int .i64 0, .int .i64 0], .int .i64 11]) (by simp [results, Tryz.results80, go_sem, c0, c1, c2, c3]) rfl ⟨by obtain ⟨x1, x2, x3, x4, x5⟩ := HX.out; rw [x1, x2, x3, x4, x5]; rfl, ?_⟩
    exact ((((HZ3.out.trans (HB4.out.mono HZ3.out.size)).setCell (Nat.le_refl _) _).setCell (Nat.le_refl _) _).setCell (Nat.le_refl _) _).setCell (Nat.le_refl _) _
  · have hno : ¬ MOk l no := fun hm => by
      obtain ⟨e3, e0, e1, e2⟩ := HY.out hm
      obtain ⟨_, _, h5⟩ := (again_page HH0).1 hm
      have i3 : g = fG l := by omega
      have i0 : r = fR l := by omega
      have i1 : n = fN l := by omega
      have i2 : d = fD l := by omega
      rw [← i3, ← i0, ← i1, ← i2] at h5
      exact hp h5
    have hE := mE_not HH0 hno
    have hne : mE l no ≠ 0 := by rw [hE]; decide
    obtain ⟨m1, m2, m3, m4⟩ := m_none hne
    have HX : Hid (mG l no = 0 ∧ mR l no = 0 ∧ mN l no = 0 ∧ mD l no = 0 ∧ mE l no = 11) := Lib.hid ⟨m1, m2, m3, m4, hE⟩
    have HC := Lib.hid (mseal_ok (HT.out W3 HZ3.out) hr)
    have HML := Lib.hid (mPage_length g r n d).symm
    have HPL := Lib.hid hp
    clear HW HY HH HH0 hno hE hne m1 m2 m3 m4 hp hr HT HM
    generalize mPage g r n d = z at *
    with_reducible refine HC.out.mono ?_
    rintro e w4 ⟨v4, rfl, h4, hb4⟩
    have HB4 := Lib.hid hb4
    obtain ⟨p4, c4, rfl, j1, j2, j3, _⟩ := h4.form HML.out
    have HQ : Hid (∀ w' c', w' = w4 → Calls Tryz.prog 106 #[.slice p4 512 c', .slice p 512 c] w' fun e w' => e = .returned (.bool false) ∧ w4 = w') := Lib.hid fun w' c' hw => by
      subst hw
      have h1 := bequal_any (c := c') (d := c) j3 (HL.out w' (HZ3.out.trans (hb4.mono HZ3.out.size))) HML.out HN.out
      rw [decide_eq_false HPL.out] at h1
      exact h1.mono fun e w2 ⟨a, b⟩ => ⟨a, b.symm⟩
    obtain ⟨c0, z0⟩ := HR3.out _ hb4 0
    obtain ⟨c1, z1⟩ := HR3.out _ hb4 1
    obtain ⟨c2, z2⟩ := HR3.out _ hb4 2
    obtain ⟨c3, z3⟩ := HR3.out _ hb4 3
    clear hb4 HC HR3 h4 j1 j2 j3
    replace c0 : w4.cell? ⟨w.heap.size, 0, none⟩ = some (.int .i64 0) := c0
    replace c1 : w4.cell? ⟨w.heap.size, 1, none⟩ = some (.int .i64 0) := c1
    replace c2 : w4.cell? ⟨w.heap.size, 2, none⟩ = some (.int .i64 0) := c2
    replace c3 : w4.cell? ⟨w.heap.size, 3, none⟩ = some (.int .i64 0) := c3
    go_wp2_with fail
    with_reducible refine (HQ.out _ _ rfl).mono ?_
    rintro e w5 ⟨rfl, rfl⟩
    go_wp2_with fail
    refine bodyPost_ret (v := .tuple #[.agg #[.int .i64 0, .int .i64 0, .int .i64 0, .int .i64 0], .int .i64 11]) (by simp [results, Tryz.results80, go_sem, c0, c1, c2, c3]) rfl ⟨by obtain ⟨x1, x2, x3, x4, x5⟩ := HX.out; rw [x1, x2, x3, x4, x5]; rfl, ?_⟩
    exact ((((HZ3.out.trans (HB4.out.mono HZ3.out.size)).setCell (Nat.le_refl _) _).setCell (Nat.le_refl _) _).setCell (Nat.le_refl _) _).setCell (Nat.le_refl _) _
  · have hok : MOk l no := ok_of HH0 hr hp
    have hE : mE l no = 0 := mE_zero.2 ⟨HH0, hok⟩
    obtain ⟨m1, m2, m3, m4⟩ := m_some hE
    obtain ⟨q1, q2, q3, q4, q5, _⟩ := page_own hr
    rw [hp] at q1 q2 q3 q4 q5
    have HX : Hid (mG l no = g ∧ mR l no = r ∧ mN l no = n ∧ mD l no = d ∧ mE l no = 0) := Lib.hid ⟨m1.trans q1, m2.trans q3, m3.trans q4, m4.trans q5, hE⟩
    have HC := Lib.hid (mseal_ok (HT.out W3 HZ3.out) hr)
    have HML := Lib.hid (mPage_length g r n d).symm
    have HPL := Lib.hid hp
    clear HW HY HH HH0 hok hE m1 m2 m3 m4 hp hr HT q1 q2 q3 q4 q5
    generalize mPage g r n d = z at *
    with_reducible refine HC.out.mono ?_
    rintro e w4 ⟨v4, rfl, h4, hb4⟩
    have HB4 := Lib.hid hb4
    obtain ⟨p4, c4, rfl, j1, j2, j3, _⟩ := h4.form HML.out
    have HQ : Hid (∀ w' c', w' = w4 → Calls Tryz.prog 106 #[.slice p4 512 c', .slice p 512 c] w' fun e w' => e = .returned (.bool true) ∧ w4 = w') := Lib.hid fun w' c' hw => by
      subst hw
      have h1 := bequal_any (c := c') (d := c) j3 (HL.out w' (HZ3.out.trans (hb4.mono HZ3.out.size))) HML.out HN.out
      rw [decide_eq_true HPL.out] at h1
      exact h1.mono fun e w2 ⟨a, b⟩ => ⟨a, b.symm⟩
    obtain ⟨c0, z0⟩ := HR3.out _ hb4 0
    obtain ⟨c1, z1⟩ := HR3.out _ hb4 1
    obtain ⟨c2, z2⟩ := HR3.out _ hb4 2
    obtain ⟨c3, z3⟩ := HR3.out _ hb4 3
    obtain ⟨b0, _⟩ := HM.out _ hb4 0
    obtain ⟨b1, _⟩ := HM.out _ hb4 1
    obtain ⟨b2, _⟩ := HM.out _ hb4 2
    obtain ⟨b3, _⟩ := HM.out _ hb4 3
    clear hb4 HC HR3 h4 j1 j2 j3 HM
    replace c0 : w4.cell? ⟨w.heap.size, 0, none⟩ = some (.int .i64 0) := c0
    replace c1 : w4.cell? ⟨w.heap.size, 1, none⟩ = some (.int .i64 0) := c1
    replace c2 : w4.cell? ⟨w.heap.size, 2, none⟩ = some (.int .i64 0) := c2
    replace c3 : w4.cell? ⟨w.heap.size, 3, none⟩ = some (.int .i64 0) := c3
    replace b0 : w4.cell? ⟨w2.heap.size, 0, none⟩ = some (.int .i64 (g : Int)) := b0
    replace b1 : w4.cell? ⟨w2.heap.size, 1, none⟩ = some (.int .i64 (r : Int)) := b1
    replace b2 : w4.cell? ⟨w2.heap.size, 2, none⟩ = some (.int .i64 (n : Int)) := b2
    replace b3 : w4.cell? ⟨w2.heap.size, 3, none⟩ = some (.int .i64 (d : Int)) := b3
    go_wp2_with fail
    with_reducible refine (HQ.out _ _ rfl).mono ?_
    rintro e w5 ⟨rfl, rfl⟩
    go_wp2_with fail
    refine bodyPost_ret (v := .tuple #[.agg #[.int .i64 (g : Int), .int .i64 (r : Int), .int .i64 (n : Int), .int .i64 (d : Int)], .int .i64 0]) (by simp [results, Tryz.results80, go_sem, c0, c1, c2, c3]) rfl ⟨by obtain ⟨x1, x2, x3, x4, x5⟩ := HX.out; rw [x1, x2, x3, x4, x5]; rfl, ?_⟩
    exact ((((HZ3.out.trans (HB4.out.mono HZ3.out.size)).setCell (Nat.le_refl _) _).setCell (Nat.le_refl _) _).setCell (Nat.le_refl _) _).setCell (Nat.le_refl _) _

theorem mopen_any {w : World} (hT : Tab w) {p : Option Addr} {l : List UInt8} (hl : Bs w p l) {n c : Nat} (hn : n = l.length) (hnc : n ≤ c) (hc : c ≤ 9223372036854775807) (no : Int) :
    Calls Tryz.prog 80 #[.slice p n c, .int .i64 no] w (MOpPost w (mG l no) (mR l no) (mN l no) (mD l no) (mE l no)) := by
  by_cases h : openE l no = 0
  · exact mopen_page hT hl hn hnc hc no h
  · have hE := mE_bad h
    have hne : mE l no ≠ 0 := by rw [hE]; exact h
    obtain ⟨m1, m2, m3, m4⟩ := m_none hne
    rw [m1, m2, m3, m4, hE]
    exact mopen_err hT hl hn hnc hc no h

end Go.Proofs.YtfpdcfomfikkiaaGreatDoor

