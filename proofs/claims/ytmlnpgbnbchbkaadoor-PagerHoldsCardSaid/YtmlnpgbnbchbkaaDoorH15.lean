/-
  meta.Seal: contracts for the walks.
  meta.get: a contract for the walks.
-/
import Derived.Test.YtmlnpgbnbchbkaaDoorH14
import Derived.StillTailTactics
set_option linter.unusedVariables false
set_option maxRecDepth 100000
namespace Go.Proofs.YtmlnpgbnbchbkaaDoor
open Go.RowKit

def MSealPost (w : World) (l : List UInt8) (no : Nat) (e : Ending) (w' : World) : Prop := ∃ v, e = .returned (.tuple #[v, .int .i64 (no : Int), .int .i64 0]) ∧ Own w' w.heap.size v l ∧ Below w.heap.size w w'
def MSealBad (w : World) (e : Ending) (w' : World) : Prop := e = .returned (.tuple #[.slice none 0 0, .int .i64 0, .int .i64 2]) ∧ Below w.heap.size w w'

set_option maxHeartbeats 800000 in
theorem mseal_bad {w : World} (g r n d : Int) (h : ¬ MRight g r n d) :
    Calls Tryd.prog 49 #[.agg #[.int .i64 g, .int .i64 r, .int .i64 n, .int .i64 d]] w (MSealBad w) := by
  have HC := Lib.hid fun w : World => right_any (w := w) g r n d false (decide_eq_false h).symm
  clear h
  have hz : Hid (Below w.heap.size w (w.alloc (.cells #[.int .i64 g, .int .i64 r, .int .i64 n, .int .i64 d] 49))) := Lib.hid ((Below.refl _ _).alloc (Nat.le_refl _) _)
  go_enter Tryd.func49, Tryd.ntmps49
  go_wp2_with fail
  with_reducible refine (HC.out _).mono ?_
  rintro e w1 ⟨rfl, hb⟩
  have HB := Lib.hid (hz.out.trans (hb.mono (by simp)))
  clear hb
  go_wp2
  exact bodyPost_ret (v := .tuple #[.slice none 0 0, .int .i64 0, .int .i64 2]) (by simp [results, Tryd.results49, go_sem]) rfl ⟨rfl, HB.out⟩

theorem Is.new (w : World) (t : TypeId) (a b c d : Nat) {g : Nat} (hg : g = w.heap.size) : Is (w.alloc (.cells #[.int .i64 a, .int .i64 b, .int .i64 c, .int .i64 d] t)) g [a, b, c, d] := by
  subst hg
  intro i hi
  rw [Joins.cell_of_block (heap_alloc_new w _)]
  rcases i with _ | _ | _ | _ | i
  · rfl
  · rfl
  · rfl
  · rfl
  · simp at hi; omega

set_option maxHeartbeats 3200000 in
theorem mseal_ok {w : World} (hT : Tab w) {g r n d : Nat} (h : MRight g r n d) :
    Calls Tryd.prog 49 #[.agg #[.int .i64 g, .int .i64 r, .int .i64 n, .int .i64 d]] w (MSealPost w (mPage g r n d) (g % 2)) := by
  have HC := Lib.hid fun w : World => right_any (w := w) g r n d true (decide_eq_true h).symm
  have hb := h.b
  have HF : Hid (flatB [r, n, d, g] = metaB g r n d) := Lib.hid (by simp [flatB, metaB])
  have HL : Hid (32 = (metaB g r n d).length) := Lib.hid (metaB_length g r n d).symm
  have HPG : Hid (pageB 1 (g % 2) g (metaB g r n d) = mPage g r n d) := Lib.hid rfl
  have HPL : Hid ((mPage g r n d).length = 512) := Lib.hid (mPage_length g r n d)
  obtain ⟨m, hm⟩ : ∃ m, m = g % 2 := ⟨_, rfl⟩
  have hmi : (g : Int) % 2 = (m : Int) := by omega
  have HM : Hid (m < 4096) := Lib.hid (by omega)
  have HG : Hid (g ≤ 1152921504606846976) := Lib.hid (by omega)
  have HXS : Hid (∀ x ∈ [r, n, d, g], x < 9223372036854775808) := Lib.hid (by
    intro x hx
    simp only [List.mem_cons, List.not_mem_nil, or_false] at hx
    omega)
  rw [← hm] at HPG ⊢
  clear h hm hb
  generalize mPage g r n d = z at *
  generalize metaB g r n d = y at *
  obtain ⟨W0, hW0⟩ : ∃ W0, W0 = w.alloc (.cells #[.int .i64 g, .int .i64 r, .int .i64 n, .int .i64 d] 49) := ⟨_, rfl⟩
  have HZ : Hid (Below w.heap.size w W0) := Lib.hid (by rw [hW0]; exact (Below.refl _ _).alloc (Nat.le_refl _) _)
  have HK : Hid (∀ w', Below W0.heap.size W0 w' → w'.cell? ⟨w.heap.size, 0, none⟩ = some (.int .i64 (g : Int)) ∧ w'.cell? ⟨w.heap.size, 1, none⟩ = some (.int .i64 (r : Int)) ∧ w'.cell? ⟨w.heap.size, 2, none⟩ = some (.int .i64 (n : Int)) ∧ w'.cell? ⟨w.heap.size, 3, none⟩ = some (.int .i64 (d : Int))) := Lib.hid fun w' hb => by
    have h1 : w'.heap[w.heap.size]? = some (.cells #[.int .i64 g, .int .i64 r, .int .i64 n, .int .i64 d] 49 (0, 0)) := by
      rw [hb.block w.heap.size (by rw [hW0]; simp), hW0]
      exact heap_alloc_new w _
    exact ⟨Joins.cell_of_block h1 0, Joins.cell_of_block h1 1, Joins.cell_of_block h1 2, Joins.cell_of_block h1 3⟩
  have HT : Hid (Tab W0) := Lib.hid (hT.below hT.lt HZ.out)
  clear hT
  go_enter Tryd.func49, Tryd.ntmps49
  go_wp2_with fail
  rw [← hW0]
  clear hW0
  with_reducible refine (HC.out _).mono ?_
  rintro e w1 ⟨rfl, hb1⟩
  have HB1 := Lib.hid hb1
  have HT1 : Hid (∀ w', Below w1.heap.size w1 w' → Tab w') := Lib.hid fun w' hb => by
    have h1 := HT.out.below HT.out.lt HB1.out
    exact h1.below h1.lt hb
  have HK1 : Hid (∀ w', Below w1.heap.size w1 w' → w'.cell? ⟨w.heap.size, 0, none⟩ = some (.int .i64 (g : Int)) ∧ w'.cell? ⟨w.heap.size, 1, none⟩ = some (.int .i64 (r : Int)) ∧ w'.cell? ⟨w.heap.size, 2, none⟩ = some (.int .i64 (n : Int)) ∧ w'.cell? ⟨w.heap.size, 3, none⟩ = some (.int .i64 (d : Int))) := Lib.hid fun w' hb => HK.out w' (HB1.out.trans (hb.mono HB1.out.size))
  have HZ1 : Hid (Below w.heap.size w w1) := Lib.hid (HZ.out.trans (HB1.out.mono HZ.out.size))
  obtain ⟨k0, k1, k2, k3⟩ := HK1.out w1 (Below.refl _ _)
  have HP : Hid (Calls Tryd.prog 72 #[.slice (some ⟨w1.heap.size, 0, none⟩) 4 4] (w1.alloc (.cells #[.int .i64 r, .int .i64 n, .int .i64 d, .int .i64 g] 3)).drew (PutPostM (w1.alloc (.cells #[.int .i64 r, .int .i64 n, .int .i64 d, .int .i64 g] 3)).drew y)) := Lib.hid (by
    have h1 := mput_any ((Is.new w1 3 r n d g rfl).below (Below.refl _ _).drew) rfl HXS.out
    rw [HF.out] at h1
    exact h1)
  have HS : Hid (∀ w' p c, Below w1.heap.size w1 w' → Bs w' p y → 32 ≤ c → c ≤ 9223372036854775807 → Calls Tryd.prog 62 #[.int .u8 1, .int .i64 (m : Int), .int .i64 (g : Int), .slice p 32 c] w' (LayPost w' z)) := Lib.hid fun w' p c hb hp h32 hc => by
    have h1 := seal_ok (HT1.out w' hb) 1 (no := m) (gen := g) HM.out HG.out hp HL.out h32 hc (by omega)
    rw [HPG.out] at h1
    exact h1
  clear hb1 HC HK HB1 HT HZ
  go_wp2_with fail
  clear k0 k1 k2 k3
  go_region_held3 (fun w' => w'.cell? ⟨w.heap.size, 0, none⟩ = some (.int .i64 (g : Int)) ∧ w'.cell? ⟨w.heap.size, 1, none⟩ = some (.int .i64 (r : Int)) ∧ w'.cell? ⟨w.heap.size, 2, none⟩ = some (.int .i64 (n : Int)) ∧ w'.cell? ⟨w.heap.size, 3, none⟩ = some (.int .i64 (d : Int)))
    (first | exact HK1.out _ (Below.refl _ _).drew | exact HK1.out _ (Below.refl _ _).drew | exact HK1.out _ ((Below.refl _ _).alloc (Nat.le_refl _) _).drew | exact HK1.out _ HB2.out | exact HK1.out _ HB3.out)
    (first
      | (go_at_call 72; (with_reducible refine HP.out.mono ?_); rintro e w2 ⟨v2, rfl, h2, hb2⟩; obtain ⟨p2, c2, rfl, j1, j2, j3, j4⟩ := h2.form HL.out; have HB2 : Hid (Below w1.heap.size w1 w2) := Lib.hid (((Below.refl w1.heap.size w1).alloc (Nat.le_refl _) _).drew.trans (hb2.mono (by simp))); have H2 := Lib.hid j3; have J1 := Lib.hid j1; have J2 := Lib.hid j2; clear h2 hb2 j1 j2 j3 j4)
      | (go_at_call 62; (with_reducible refine (HS.out _ _ _ HB2.out H2.out J1.out J2.out).mono ?_); rintro e w3 ⟨rfl, h3, hb3⟩; have HB3 : Hid (Below w1.heap.size w1 w3) := Lib.hid (HB2.out.trans (hb3.mono HB2.out.size)); have H3 := Lib.hid h3; clear h3 hb3))
  go_wp2
  refine bodyPost_ret (v := .tuple #[.slice (some ⟨w2.heap.size, 0, none⟩) 512 512, .int .i64 (m : Int), .int .i64 0]) (by simp [results, Tryd.results49, go_sem]) rfl ⟨_, rfl, ?_, HZ1.out.trans (HB3.out.mono HZ1.out.size)⟩
  exact H3.out.own (by have h1 := HB2.out.size; have h2 := HZ1.out.size; omega) HPL.out.symm (by rw [HPL.out]; omega)

end Go.Proofs.YtmlnpgbnbchbkaaDoor

set_option linter.unusedVariables false
set_option maxRecDepth 100000
namespace Go.Proofs.YtmlnpgbnbchbkaaDoor
open Go.RowKit

/-- The k-th number that stands in bytes, as an int. -/
def wAt (l : List UInt8) (k : Nat) : Int := IntKind.i64.wrap (leV ((l.drop (8 * k)).take 8) : Nat)
theorem wAt_lt {l : List UInt8} {k : Nat} (h : leV ((l.drop (8 * k)).take 8) < 9223372036854775808) : wAt l k = (leV ((l.drop (8 * k)).take 8) : Nat) := by
  unfold wAt
  rw [IntKind.wrap_i64]
  omega
theorem wAt_nil (k : Nat) : wAt [] k = 0 := by
  unfold wAt
  rw [List.drop_nil, List.take_nil]
  rfl
theorem wAt_same {l : List UInt8} {j k q : Nat} (hq : 8 * q ≤ j) (hj : j < 8 * q + 8) (hk : k ≠ q) : wAt (l.take (j + 1)) k = wAt (l.take j) k := by
  have e : ((l.take (j + 1)).drop (8 * k)).take 8 = ((l.take j).drop (8 * k)).take 8 := by
    rcases Nat.lt_or_gt_of_ne hk with h | h
    · rw [List.drop_take, List.drop_take, List.take_take, List.take_take, Nat.min_eq_left (by omega), Nat.min_eq_left (by omega)]
    · rw [List.drop_eq_nil_of_le (by rw [List.length_take]; omega), List.drop_eq_nil_of_le (by rw [List.length_take]; omega)]
  unfold wAt
  rw [e]
theorem part_at {l : List UInt8} {j q r : Nat} (hj : j = 8 * q + r) (hr : r < 8) : ((l.take j).drop (8 * q)).take 8 = (l.drop (8 * q)).take r := by
  subst hj
  rw [List.drop_take, List.take_take, Nat.min_eq_right (by omega)]
  congr 1
  omega
theorem part_next {l : List UInt8} {j q r : Nat} (hj : j = 8 * q + r) (hr : r < 8) (hl : j < l.length) : leV (((l.take (j + 1)).drop (8 * q)).take 8) = leV ((l.drop (8 * q)).take r) + 256 ^ r * l[j].toNat := by
  subst hj
  have e : ((l.take (8 * q + r + 1)).drop (8 * q)).take 8 = (l.drop (8 * q)).take (r + 1) := by
    rw [List.drop_take, List.take_take, Nat.min_eq_right (by omega)]
    congr 1
    omega
  rw [e, leV_snoc (by rw [List.length_drop]; omega), List.getElem_drop]
theorem part_lt {l : List UInt8} (q : Nat) {r : Nat} (hr : r < 8) : leV ((l.drop (8 * q)).take r) < 256 ^ r := by
  have h1 := leV_lt ((l.drop (8 * q)).take r)
  have h2 : (256 : Nat) ^ ((l.drop (8 * q)).take r).length ≤ 256 ^ r := Nat.pow_le_pow_right (by decide) (by rw [List.length_take]; omega)
  omega

theorem ofInt_wrap (z : Int) : BitVec.ofInt 64 (IntKind.i64.wrap z) = BitVec.ofInt 64 z := by
  apply BitVec.eq_of_toNat_eq
  rw [BitVec.toNat_ofInt, BitVec.toNat_ofInt, IntKind.wrap_i64]
  omega
theorem wrap64_i64 (z : Int) : wrap64 z = IntKind.i64.wrap z := by
  rw [IntKind.wrap_i64]
  unfold wrap64
  omega
theorem or_int {s d r : Nat} (hs : s < 256 ^ r) (hd : d < 256) (hr : r < 8) : bits .or .i64 (s : Int) (wrap64 ((d : Int) * 2 ^ (8 * r))) = IntKind.i64.wrap ((s + 256 ^ r * d : Nat) : Int) := by
  have h0 : (256 : Nat) ^ r ≤ 256 ^ 7 := Nat.pow_le_pow_right (by decide) (by omega)
  have h1 : (256 : Nat) ^ 7 = 72057594037927936 := by decide
  have h2 : 256 ^ r * d ≤ 256 ^ 7 * 255 := Nat.mul_le_mul h0 (by omega)
  have h3 : ((d : Int) * 2 ^ (8 * r)) = ((256 ^ r * d : Nat) : Int) := by
    rw [pow8, Int.natCast_mul, Int.natCast_pow, Int.mul_comm]
    rfl
  have h4 := Nat.two_pow_add_eq_or_of_lt (i := 8 * r) (b := s) (by rw [← pow8]; exact hs) d
  have h5 : ∀ k : Nat, k < 18446744073709551616 → (BitVec.ofInt 64 (k : Int)).toNat = k := fun k hk => by rw [BitVec.ofInt_natCast, BitVec.toNat_ofNat]; exact Nat.mod_eq_of_lt (by omega)
  rw [wrap64_i64]
  show IntKind.i64.wrap (((BitVec.ofInt 64 (s : Int) ||| BitVec.ofInt 64 (IntKind.i64.wrap ((d : Int) * 2 ^ (8 * r)))).toNat : Nat) : Int) = _
  rw [ofInt_wrap, h3, BitVec.toNat_or, h5 s (by omega), h5 _ (by omega), Nat.or_comm, pow8, ← h4, Nat.add_comm]

def arrC (l : List UInt8) : Array Value := #[.int .i64 (wAt l 0), .int .i64 (wAt l 1), .int .i64 (wAt l 2), .int .i64 (wAt l 3)]
theorem arrC_nil : arrC [] = #[.int .i64 0, .int .i64 0, .int .i64 0, .int .i64 0] := by simp only [arrC, wAt_nil]
theorem arrC_step {l : List UInt8} {j q r : Nat} (hj : j = 8 * q + r) (hr : r < 8) (hq : q < 4) (hl : j < l.length) :
    arrC (l.take (j + 1)) = (arrC (l.take j)).setIfInBounds q (.int .i64 (IntKind.i64.wrap ((leV ((l.drop (8 * q)).take r) + 256 ^ r * l[j].toNat : Nat) : Int))) := by
  have hs : ∀ k, k ≠ q → wAt (l.take (j + 1)) k = wAt (l.take j) k := fun k hk => wAt_same (q := q) (by omega) (by omega) hk
  have hn : wAt (l.take (j + 1)) q = IntKind.i64.wrap ((leV ((l.drop (8 * q)).take r) + 256 ^ r * l[j].toNat : Nat) : Int) := by
    unfold wAt
    rw [part_next hj hr hl]
  rw [← hn]
  unfold arrC
  rcases (show q = 0 ∨ q = 1 ∨ q = 2 ∨ q = 3 from by omega) with rfl | rfl | rfl | rfl
  · rw [hs 1 (by decide), hs 2 (by decide), hs 3 (by decide)]; rfl
  · rw [hs 0 (by decide), hs 2 (by decide), hs 3 (by decide)]; rfl
  · rw [hs 0 (by decide), hs 1 (by decide), hs 3 (by decide)]; rfl
  · rw [hs 0 (by decide), hs 1 (by decide), hs 2 (by decide)]; rfl
theorem arrC_at {l : List UInt8} {j q r : Nat} (hj : j = 8 * q + r) (hr : r < 8) (hq : q < 4) : (arrC (l.take j))[q]? = some (.int .i64 (leV ((l.drop (8 * q)).take r) : Nat)) := by
  have h1 := part_lt (l := l) q hr
  have h0 : (256 : Nat) ^ r ≤ 256 ^ 7 := Nat.pow_le_pow_right (by decide) (by omega)
  have h2 : (256 : Nat) ^ 7 = 72057594037927936 := by decide
  have hn : wAt (l.take j) q = (leV ((l.drop (8 * q)).take r) : Nat) := by
    rw [wAt_lt (by rw [part_at hj hr]; omega), part_at hj hr]
  rw [← hn]
  unfold arrC
  rcases (show q = 0 ∨ q = 1 ∨ q = 2 ∨ q = 3 from by omega) with rfl | rfl | rfl | rfl <;> rfl

set_option maxHeartbeats 3200000 in
theorem mget_short {w : World} {p : Option Addr} {l : List UInt8} (hl : Bs w p l) {n c : Nat} (hn : n = l.length) (hnc : n ≤ c) (hc : c ≤ 9223372036854775807) (h32 : n ≤ 32) :
    Calls Tryd.prog 74 #[.slice p n c] w fun e w' => e = .returned (.agg #[.int .i64 (wAt (l.take 32) 3), .int .i64 (wAt (l.take 32) 0), .int .i64 (wAt (l.take 32) 1), .int .i64 (wAt (l.take 32) 2)]) ∧ Below w.heap.size w w' := by
  have HN := Lib.hid hn
  have HL := Lib.hid hl
  have HE : Hid (l.take n = l.take 32) := Lib.hid (by rw [List.take_of_length_le (by omega), List.take_of_length_le (by omega)])
  clear hl hn
  go_enter Tryd.func74, Tryd.ntmps74
  go_wp2_with fail
  go_loopw [4, 5, 12] (fun _ _ i wr => ∃ j : Nat, i = .int .i64 j ∧ j ≤ n ∧ wr.heap[w.heap.size + 1]? = some (.cells (arrC (l.take j)) 124 (0, 0)) ∧ wr.heap[w.heap.size]? = some (.cells #[.int .i64 0, .int .i64 0, .int .i64 0, .int .i64 0] 49 (0, 0)) ∧ Below w.heap.size w wr) (fun _ _ i _ => n - (intOf i).toNat)
  case atStart =>
    obtain ⟨b0, b1, b2, b3⟩ := boxes w #[.int .i64 0, .int .i64 0, .int .i64 0, .int .i64 0] #[.int .i64 0, .int .i64 0, .int .i64 0, .int .i64 0] 49 124
    exact ⟨0, rfl, by omega, by rw [List.take_zero, arrC_nil]; exact b1, b0, b2⟩
  case round =>
    obtain ⟨j, rfl, hj, hA, hR, hb⟩ := hrel
    by_cases hjm : j < n
    · obtain ⟨q, r, hjq, hr, hq⟩ : ∃ q r, j = 8 * q + r ∧ r < 8 ∧ q < 4 := ⟨j / 8, j % 8, by omega, by omega, by omega⟩
      have hjl : j < l.length := by have := HN.out; omega
      obtain ⟨b, o, rfl, hbl, hcells⟩ := HL.out.at (by omega)
      have hx : wr.cell? ⟨b, o + j, none⟩ = some (.int .u8 (l[j].toNat : Int)) := by rw [hb.cell (p := ⟨b, o + j, none⟩) hbl]; exact hcells j hjl
      have HST := Lib.hid (arrC_step hjq hr hq hjl)
      have hat := arrC_at (l := l) hjq hr hq
      have hlt := part_lt (l := l) q hr
      have hcl : l[j].toNat < 256 := l[j].toNat_lt
      have HOR := Lib.hid (or_int hlt hcl hr)
      have hce : wr.cell? ⟨w.heap.size + 1, q, none⟩ = some (.int .i64 (leV ((l.drop (8 * q)).take r) : Nat)) := by rw [Joins.cell_of_block hA]; exact hat
      have hfr : wr.frozen? ⟨w.heap.size + 1, q, none⟩ = false := Joins.unfrozen_of_block hA q
      have HA := Lib.hid hA
      have HR := Lib.hid hR
      have HB := Lib.hid hb
      have HJQ := Lib.hid hjq
      clear hcells hA hR hb hat hlt
      generalize leV ((l.drop (8 * q)).take r) = s at *
      generalize l[j].toNat = d at *
      have q1 : (j : Int) / 8 = (q : Int) := by omega
      have q2 : (j : Int).tdiv 8 = (q : Int) := by rw [Int.tdiv_eq_ediv_of_nonneg (by omega)]; exact q1
      have q3 : (j : Int) % 8 = (r : Int) := by omega
      have q4 : (j : Int).tmod 8 = (r : Int) := by rw [Int.tmod_eq_emod_of_nonneg (by omega)]; exact q3
      have q5 : IntKind.i64.wrap (8 * (r : Int)) = ((8 * r : Nat) : Int) := by rw [IntWalk.i64_in _ (by omega)]; omega
      have q6 : (q : Int) < 4 := by omega
      have q9 : ¬ ((8 * r : Nat) : Int) < 0 := by omega
      have q7 : IntKind.i64.wrap (q : Int) = (q : Int) := IntWalk.i64_in _ (by omega)
      have q8 : IntKind.i64.wrap (d : Int) = (d : Int) := IntWalk.i64_in _ (by omega)
      clear hjq
      go_wp2_with fail
      go_still_tail 12, (by kernel_rfl)
      change wpList _ _ _ _ _ wr.drew
      go_wp2_with fail
      go_roundw
      case rel =>
        refine ⟨j + 1, by go_num, by omega, ?_, ?_, ?_⟩
        · rw [HST.out, ← HOR.out]
          exact heap_setCell_same wr (w.heap.size + 1) q _ _ _ HA.out
        · exact (heap_setCell_other wr ⟨w.heap.size + 1, q, none⟩ w.heap.size _ (show w.heap.size ≠ w.heap.size + 1 from by omega)).trans HR.out
        · exact (HB.out.setCell (show w.heap.size ≤ w.heap.size + 1 from by omega) _).drew
      case measure => simp [intOf]; omega
    · have HJ : Hid (l.take j = l.take 32) := Lib.hid (by first | exact (congrArg (fun k => l.take k) (show j = n from by omega)).trans HE.out | exact congrArg (fun k => l.take k) (show j = 32 from by omega))
      have HA := Lib.hid hA
      have HB := Lib.hid hb
      clear hA
      rw [HJ.out] at HA
      have a0 : wr.cell? ⟨w.heap.size + 1, 0, none⟩ = some (.int .i64 (wAt (l.take 32) 0)) := by rw [Joins.cell_of_block HA.out]; rfl
      have a1 : wr.cell? ⟨w.heap.size + 1, 1, none⟩ = some (.int .i64 (wAt (l.take 32) 1)) := by rw [Joins.cell_of_block HA.out]; rfl
      have a2 : wr.cell? ⟨w.heap.size + 1, 2, none⟩ = some (.int .i64 (wAt (l.take 32) 2)) := by rw [Joins.cell_of_block HA.out]; rfl
      have a3 : wr.cell? ⟨w.heap.size + 1, 3, none⟩ = some (.int .i64 (wAt (l.take 32) 3)) := by rw [Joins.cell_of_block HA.out]; rfl
      have c0 : wr.cell? ⟨w.heap.size, 0, none⟩ = some (.int .i64 0) := by rw [Joins.cell_of_block hR]; rfl
      have c1 : wr.cell? ⟨w.heap.size, 1, none⟩ = some (.int .i64 0) := by rw [Joins.cell_of_block hR]; rfl
      have c2 : wr.cell? ⟨w.heap.size, 2, none⟩ = some (.int .i64 0) := by rw [Joins.cell_of_block hR]; rfl
      have c3 : wr.cell? ⟨w.heap.size, 3, none⟩ = some (.int .i64 0) := by rw [Joins.cell_of_block hR]; rfl
      have z : ∀ i, wr.frozen? ⟨w.heap.size, i, none⟩ = false := fun i => Joins.unfrozen_of_block hR i
      have z0 := z 0
      have z1 := z 1
      have z2 := z 2
      have z3 := z 3
      obtain ⟨y0, hy0⟩ : ∃ y, y = wAt (l.take 32) 0 := ⟨_, rfl⟩
      rw [← hy0] at a0
      have HY0 := Lib.hid hy0
      clear hy0
      obtain ⟨y1, hy1⟩ : ∃ y, y = wAt (l.take 32) 1 := ⟨_, rfl⟩
      rw [← hy1] at a1
      have HY1 := Lib.hid hy1
      clear hy1
      obtain ⟨y2, hy2⟩ : ∃ y, y = wAt (l.take 32) 2 := ⟨_, rfl⟩
      rw [← hy2] at a2
      have HY2 := Lib.hid hy2
      clear hy2
      obtain ⟨y3, hy3⟩ : ∃ y, y = wAt (l.take 32) 3 := ⟨_, rfl⟩
      rw [← hy3] at a3
      have HY3 := Lib.hid hy3
      clear hy3
      clear hR hb z
      go_wp2_with fail
      refine bodyPost_ret (v := .agg #[.int .i64 y3, .int .i64 y0, .int .i64 y1, .int .i64 y2]) (by simp [results, Tryd.results74, go_sem, c0, c1, c2, c3]) rfl ⟨by rw [HY0.out, HY1.out, HY2.out, HY3.out], ?_⟩
      exact (((HB.out.setCell (Nat.le_refl _) _).setCell (Nat.le_refl _) _).setCell (Nat.le_refl _) _).setCell (Nat.le_refl _) _

set_option maxHeartbeats 3200000 in
theorem mget_long {w : World} {p : Option Addr} {l : List UInt8} (hl : Bs w p l) {n c : Nat} (hn : n = l.length) (hnc : n ≤ c) (hc : c ≤ 9223372036854775807) (h32 : 32 < n) :
    Calls Tryd.prog 74 #[.slice p n c] w fun e w' => e = .returned (.agg #[.int .i64 (wAt (l.take 32) 3), .int .i64 (wAt (l.take 32) 0), .int .i64 (wAt (l.take 32) 1), .int .i64 (wAt (l.take 32) 2)]) ∧ Below w.heap.size w w' := by
  have HN := Lib.hid hn
  have HL := Lib.hid hl
  have HE : Hid (l.take 32 = l.take 32) := Lib.hid rfl
  clear hl hn
  go_enter Tryd.func74, Tryd.ntmps74
  go_wp2_with fail
  go_loopw [4, 5, 12] (fun _ _ i wr => ∃ j : Nat, i = .int .i64 j ∧ j ≤ 32 ∧ wr.heap[w.heap.size + 1]? = some (.cells (arrC (l.take j)) 124 (0, 0)) ∧ wr.heap[w.heap.size]? = some (.cells #[.int .i64 0, .int .i64 0, .int .i64 0, .int .i64 0] 49 (0, 0)) ∧ Below w.heap.size w wr) (fun _ _ i _ => 32 - (intOf i).toNat)
  case atStart =>
    obtain ⟨b0, b1, b2, b3⟩ := boxes w #[.int .i64 0, .int .i64 0, .int .i64 0, .int .i64 0] #[.int .i64 0, .int .i64 0, .int .i64 0, .int .i64 0] 49 124
    exact ⟨0, rfl, by omega, by rw [List.take_zero, arrC_nil]; exact b1, b0, b2⟩
  case round =>
    obtain ⟨j, rfl, hj, hA, hR, hb⟩ := hrel
    by_cases hjm : j < 32
    · obtain ⟨q, r, hjq, hr, hq⟩ : ∃ q r, j = 8 * q + r ∧ r < 8 ∧ q < 4 := ⟨j / 8, j % 8, by omega, by omega, by omega⟩
      have hjl : j < l.length := by have := HN.out; omega
      obtain ⟨b, o, rfl, hbl, hcells⟩ := HL.out.at (by omega)
      have hx : wr.cell? ⟨b, o + j, none⟩ = some (.int .u8 (l[j].toNat : Int)) := by rw [hb.cell (p := ⟨b, o + j, none⟩) hbl]; exact hcells j hjl
      have HST := Lib.hid (arrC_step hjq hr hq hjl)
      have hat := arrC_at (l := l) hjq hr hq
      have hlt := part_lt (l := l) q hr
      have hcl : l[j].toNat < 256 := l[j].toNat_lt
      have HOR := Lib.hid (or_int hlt hcl hr)
      have hce : wr.cell? ⟨w.heap.size + 1, q, none⟩ = some (.int .i64 (leV ((l.drop (8 * q)).take r) : Nat)) := by rw [Joins.cell_of_block hA]; exact hat
      have hfr : wr.frozen? ⟨w.heap.size + 1, q, none⟩ = false := Joins.unfrozen_of_block hA q
      have HA := Lib.hid hA
      have HR := Lib.hid hR
      have HB := Lib.hid hb
      have HJQ := Lib.hid hjq
      clear hcells hA hR hb hat hlt
      generalize leV ((l.drop (8 * q)).take r) = s at *
      generalize l[j].toNat = d at *
      have q1 : (j : Int) / 8 = (q : Int) := by omega
      have q2 : (j : Int).tdiv 8 = (q : Int) := by rw [Int.tdiv_eq_ediv_of_nonneg (by omega)]; exact q1
      have q3 : (j : Int) % 8 = (r : Int) := by omega
      have q4 : (j : Int).tmod 8 = (r : Int) := by rw [Int.tmod_eq_emod_of_nonneg (by omega)]; exact q3
      have q5 : IntKind.i64.wrap (8 * (r : Int)) = ((8 * r : Nat) : Int) := by rw [IntWalk.i64_in _ (by omega)]; omega
      have q6 : (q : Int) < 4 := by omega
      have q9 : ¬ ((8 * r : Nat) : Int) < 0 := by omega
      have q7 : IntKind.i64.wrap (q : Int) = (q : Int) := IntWalk.i64_in _ (by omega)
      have q8 : IntKind.i64.wrap (d : Int) = (d : Int) := IntWalk.i64_in _ (by omega)
      clear hjq
      go_wp2_with fail
      go_still_tail 12, (by kernel_rfl)
      change wpList _ _ _ _ _ wr.drew
      go_wp2_with fail
      go_roundw
      case rel =>
        refine ⟨j + 1, by go_num, by omega, ?_, ?_, ?_⟩
        · rw [HST.out, ← HOR.out]
          exact heap_setCell_same wr (w.heap.size + 1) q _ _ _ HA.out
        · exact (heap_setCell_other wr ⟨w.heap.size + 1, q, none⟩ w.heap.size _ (show w.heap.size ≠ w.heap.size + 1 from by omega)).trans HR.out
        · exact (HB.out.setCell (show w.heap.size ≤ w.heap.size + 1 from by omega) _).drew
      case measure => simp [intOf]; omega
    · have HJ : Hid (l.take j = l.take 32) := Lib.hid (by first | exact (congrArg (fun k => l.take k) (show j = 32 from by omega)).trans HE.out | exact congrArg (fun k => l.take k) (show j = 32 from by omega))
      have HA := Lib.hid hA
      have HB := Lib.hid hb
      clear hA
      rw [HJ.out] at HA
      have a0 : wr.cell? ⟨w.heap.size + 1, 0, none⟩ = some (.int .i64 (wAt (l.take 32) 0)) := by rw [Joins.cell_of_block HA.out]; rfl
      have a1 : wr.cell? ⟨w.heap.size + 1, 1, none⟩ = some (.int .i64 (wAt (l.take 32) 1)) := by rw [Joins.cell_of_block HA.out]; rfl
      have a2 : wr.cell? ⟨w.heap.size + 1, 2, none⟩ = some (.int .i64 (wAt (l.take 32) 2)) := by rw [Joins.cell_of_block HA.out]; rfl
      have a3 : wr.cell? ⟨w.heap.size + 1, 3, none⟩ = some (.int .i64 (wAt (l.take 32) 3)) := by rw [Joins.cell_of_block HA.out]; rfl
      have c0 : wr.cell? ⟨w.heap.size, 0, none⟩ = some (.int .i64 0) := by rw [Joins.cell_of_block hR]; rfl
      have c1 : wr.cell? ⟨w.heap.size, 1, none⟩ = some (.int .i64 0) := by rw [Joins.cell_of_block hR]; rfl
      have c2 : wr.cell? ⟨w.heap.size, 2, none⟩ = some (.int .i64 0) := by rw [Joins.cell_of_block hR]; rfl
      have c3 : wr.cell? ⟨w.heap.size, 3, none⟩ = some (.int .i64 0) := by rw [Joins.cell_of_block hR]; rfl
      have z : ∀ i, wr.frozen? ⟨w.heap.size, i, none⟩ = false := fun i => Joins.unfrozen_of_block hR i
      have z0 := z 0
      have z1 := z 1
      have z2 := z 2
      have z3 := z 3
      obtain ⟨y0, hy0⟩ : ∃ y, y = wAt (l.take 32) 0 := ⟨_, rfl⟩
      rw [← hy0] at a0
      have HY0 := Lib.hid hy0
      clear hy0
      obtain ⟨y1, hy1⟩ : ∃ y, y = wAt (l.take 32) 1 := ⟨_, rfl⟩
      rw [← hy1] at a1
      have HY1 := Lib.hid hy1
      clear hy1
      obtain ⟨y2, hy2⟩ : ∃ y, y = wAt (l.take 32) 2 := ⟨_, rfl⟩
      rw [← hy2] at a2
      have HY2 := Lib.hid hy2
      clear hy2
      obtain ⟨y3, hy3⟩ : ∃ y, y = wAt (l.take 32) 3 := ⟨_, rfl⟩
      rw [← hy3] at a3
      have HY3 := Lib.hid hy3
      clear hy3
      clear hR hb z
      go_wp2_with fail
      refine bodyPost_ret (v := .agg #[.int .i64 y3, .int .i64 y0, .int .i64 y1, .int .i64 y2]) (by simp [results, Tryd.results74, go_sem, c0, c1, c2, c3]) rfl ⟨by rw [HY0.out, HY1.out, HY2.out, HY3.out], ?_⟩
      exact (((HB.out.setCell (Nat.le_refl _) _).setCell (Nat.le_refl _) _).setCell (Nat.le_refl _) _).setCell (Nat.le_refl _) _

theorem mget_any {w : World} {p : Option Addr} {l : List UInt8} (hl : Bs w p l) {n c : Nat} (hn : n = l.length) (hnc : n ≤ c) (hc : c ≤ 9223372036854775807) :
    Calls Tryd.prog 74 #[.slice p n c] w fun e w' => e = .returned (.agg #[.int .i64 (wAt (l.take 32) 3), .int .i64 (wAt (l.take 32) 0), .int .i64 (wAt (l.take 32) 1), .int .i64 (wAt (l.take 32) 2)]) ∧ Below w.heap.size w w' := by
  by_cases h : n ≤ 32
  · exact mget_short hl hn hnc hc h
  · exact mget_long hl hn hnc hc (by omega)

end Go.Proofs.YtmlnpgbnbchbkaaDoor

