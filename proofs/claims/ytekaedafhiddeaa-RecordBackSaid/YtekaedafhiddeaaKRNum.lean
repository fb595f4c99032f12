/-
  keys.whole, number, readNumber: contracts for the walks.
-/
import Derived.Test.YtekaedafhiddeaaKRead
import Derived.Test.YtekaedafhiddeaaKPut
import Derived.Test.YtekaedafhiddeaaVAt
import Derived.Test.YtekaedafhiddeaaFWhole
import Derived.Test.YtekaedafhiddeaaFOf
import Derived.Test.YtekaedafhiddeaaRInt
import Derived.Test.YtekaedafhiddeaaRText
import Derived.Deep.RegionHeld3
import Derived.Outline
set_option linter.unusedVariables false
set_option maxRecDepth 100000
namespace Go.Proofs.Ytekaedafhiddeaa
open Go.RowKit

theorem wholeB_bd {u : Nat} (hu : u < 18446744073709551616) : -9223372036854775808 ≤ (wholeB u).1 ∧ (wholeB u).1 ≤ 9223372036854775807 := by
  by_cases h : inR u ∧ fval u = trB u * (U : Int)
  · rw [wholeB_yes h.1 h.2]
    exact (h.1.bound hu).2
  · rw [wholeB_no h]
    exact ⟨by dsimp only; omega, by dsimp only; omega⟩
theorem ret2_ib {a b : Int} {x y : Bool} (h : a = b) (h2 : x = y) : Ending.returned (.tuple #[.int .i64 a, .bool x]) = .returned (.tuple #[.int .i64 b, .bool y]) := by rw [h, h2]

set_option maxHeartbeats 800000 in
theorem wholeK_any {w : World} (f : Nat) (hf : f < 18446744073709551616) {r : Int} (r0 : 0 ≤ r) (r1 : r ≤ 65535) :
    Calls Try.prog 119 #[.float .f64 f, .int .i64 r] w fun e w' => e = .returned (.tuple #[.int .i64 (wholeK f r).1, .bool (wholeK f r).2]) ∧ w = w' := by
  have HW := Lib.hid (whole_any (w := w) f hf)
  obtain ⟨b1, b2⟩ := wholeB_bd hf
  have HE : Hid (wholeK f r = if (wholeB f).2 = true ∧ (wholeB f).1 ≤ 9223372036854775807 - r then ((wholeB f).1 + r, decide (restI ((wholeB f).1 + r) = r)) else (0, false)) := Lib.hid rfl
  clear hf
  generalize wholeK f r = x at *
  generalize (wholeB f).1 = n at *
  generalize (wholeB f).2 = ok at *
  cases ok
  · have hx : x = (0, false) := by rw [HE.out, if_neg (by simp)]
    subst hx
    go_enter Try.func119, Try.ntmps119
    go_wp2_with fail
    refine HW.out.mono ?_; rintro e w' ⟨rfl, rfl⟩
    go_wp2
    go_ret2
    exact ⟨rfl, rfl⟩
  by_cases hc : n ≤ 9223372036854775807 - r
  · have hx : x = (n + r, decide (restI (n + r) = r)) := by rw [HE.out, if_pos ⟨rfl, hc⟩]
    subst hx
    have HF := Lib.hid (floor_any (w := w) (n + r) (by omega) (by omega))
    have hc' : ¬ 9223372036854775807 - r < n := by omega
    have HB : Hid (∀ a : Int, (a == r) = decide (a = r)) := Lib.hid fun a => by
      by_cases h : a = r
      · rw [h]; simp
      · rw [decide_eq_false h]; simpa using h
    clear HE
    generalize restI (n + r) = rr at *
    generalize fltB (n + r - rr) = ff at *
    go_enter Try.func119, Try.ntmps119
    go_wp2_with fail
    refine HW.out.mono ?_; rintro e w' ⟨rfl, rfl⟩
    go_wp2_with fail
    refine HF.out.mono ?_; rintro e w' ⟨rfl, rfl⟩
    go_wp2
    go_ret2
    exact ⟨ret2_ib rfl (HB.out _), rfl⟩
  · have hx : x = (0, false) := by rw [HE.out, if_neg (fun h => hc h.2)]
    subst hx
    have hc' : 9223372036854775807 - r < n := by omega
    clear hc
    go_enter Try.func119, Try.ntmps119
    go_wp2_with fail
    refine HW.out.mono ?_; rintro e w' ⟨rfl, rfl⟩
    go_wp2
    go_ret2
    exact ⟨rfl, rfl⟩

def NumPost (w : World) (x : At × Bool) (e : Ending) (w' : World) : Prop := e = .returned (.tuple #[x.1.cell, .bool x.2]) ∧ Below w.heap.size w w'

theorem u8_eq {c d : UInt8} {n : Int} (hd : (d.toNat : Int) = n) : ((c.toNat : Int) == n) = decide (c = d) := by
  subst hd
  by_cases h : c = d
  · subst h; simp
  · rw [decide_eq_false h, beq_eq_false_iff_ne]
    intro h2
    exact h (by rw [← UInt8.toNat_inj]; omega)

set_option maxHeartbeats 1600000 in
theorem numberK_any {w : World} (k : Nat) (hk : k < 18446744073709551616) {r : Int} (r0 : 0 ≤ r) (r1 : r ≤ 65535) (fm : UInt8) :
    Calls Try.prog 114 #[.int .u64 (k : Int), .int .i64 r, .int .u8 (fm.toNat : Int)] w (NumPost w (numberK k r fm)) := by
  have hst := store_flt
  have HO := Lib.hid (fun w => of_any (w := w) k hk)
  have hof : (ofB k).1 < 18446744073709551616 := by
    unfold ofB
    split
    · exact canonB_lt (uncB_lt hk)
    · dsimp only; omega
  have HW := Lib.hid (fun w => wholeK_any (w := w) (ofB k).1 hof r0 r1)
  have HE : Hid (numberK k r fm = if (ofB k).2 = false then (at0, false) else if fm = 0 then (⟨2, (wholeK (ofB k).1 r).1, 0, str0⟩, (wholeK (ofB k).1 r).2) else if fm = 1 then (⟨3, 0, (ofB k).1, str0⟩, decide (r = 0)) else (at0, false)) := Lib.hid rfl
  have h0 := u8_eq (c := fm) (d := 0) (n := 0) rfl
  have h1 := u8_eq (c := fm) (d := 1) (n := 1) rfl
  clear hk hof
  generalize numberK k r fm = x at *
  generalize (wholeK (ofB k).1 r).1 = n at *
  generalize (wholeK (ofB k).1 r).2 = wk at *
  generalize (ofB k).1 = f at *
  generalize (ofB k).2 = ok at *
  cases ok
  · have hx : x = (at0, false) := by rw [HE.out, if_pos rfl]
    subst hx
    clear HE h0 h1
    go_enter Try.func114, Try.ntmps114
    go_wp2_with fail
    refine (HO.out _).mono ?_; rintro e w' ⟨rfl, rfl⟩
    go_wp2
    exact bodyPost_ret (v := .tuple #[at0.cell, .bool false]) (by simp [results, Try.results114, go_sem, at0, At.cell]) rfl ⟨rfl, box_below (Below.refl _ _)⟩
  by_cases hf0 : fm = 0
  · have hx : x = (⟨2, n, 0, str0⟩, wk) := by rw [HE.out, if_neg (by simp), if_pos hf0]
    subst hx
    rw [decide_eq_true hf0] at h0
    clear HE h1 hf0
    go_enter Try.func114, Try.ntmps114
    go_wp2_with fail
    refine (HO.out _).mono ?_; rintro e w' ⟨rfl, rfl⟩
    go_wp2_with fail
    refine (HW.out _).mono ?_; rintro e w' ⟨rfl, rfl⟩
    go_wp2
    exact bodyPost_ret (v := .tuple #[At.cell ⟨2, n, 0, str0⟩, .bool wk]) (by simp [results, Try.results114, go_sem, str0, At.cell]) rfl ⟨rfl, box_below (Below.refl _ _)⟩
  rw [decide_eq_false hf0] at h0
  by_cases hf1 : fm = 1
  · have hx : x = (⟨3, 0, f, str0⟩, decide (r = 0)) := by rw [HE.out, if_neg (by simp), if_neg hf0, if_pos hf1]
    subst hx
    rw [decide_eq_true hf1] at h1
    have hr : (r == 0) = decide (r = 0) := by
      by_cases h : r = 0
      · rw [h]; rfl
      · rw [decide_eq_false h]; simpa using h
    clear HE hf0 hf1
    generalize decide (r = 0) = rb at *
    go_enter Try.func114, Try.ntmps114
    go_wp2_with fail
    refine (HO.out _).mono ?_; rintro e w' ⟨rfl, rfl⟩
    go_wp2
    exact bodyPost_ret (v := .tuple #[At.cell ⟨3, 0, f, str0⟩, .bool rb]) (by simp [results, Try.results114, go_sem, str0, At.cell]) rfl ⟨rfl, box_below (Below.refl _ _)⟩
  · have hx : x = (at0, false) := by rw [HE.out, if_neg (by simp), if_neg hf0, if_neg hf1]
    subst hx
    rw [decide_eq_false hf1] at h1
    clear HE hf0 hf1
    go_enter Try.func114, Try.ntmps114
    go_wp2_with fail
    refine (HO.out _).mono ?_; rintro e w' ⟨rfl, rfl⟩
    go_wp2
    exact bodyPost_ret (v := .tuple #[at0.cell, .bool false]) (by simp [results, Try.results114, go_sem, at0, At.cell]) rfl ⟨rfl, box_below (Below.refl _ _)⟩

/-- What reading tells: an atom, how many bytes, the error. -/
def RAPost (w : World) (x : Int × At × Nat) (e : Ending) (w' : World) : Prop := e = .returned (.tuple #[x.2.1.cell, .int .i64 (x.2.2 : Nat), .int .i64 x.1]) ∧ Below w.heap.size w w'

set_option maxHeartbeats 800000 in
theorem readNumber_short {w : World} {p : Option Addr} (n c : Nat) {r : List UInt8} (hn : n = r.length + 1) (h : r.length < 11) :
    Calls Try.prog 105 #[.slice p n c] w (RAPost w (rdNum r)) := by
  have hst := store_flt
  have hx : rdNum r = (10, at0, 0) := by unfold rdNum; rw [if_pos h]
  rw [hx]
  have h12 : (n : Int) < 12 := by omega
  clear hx h hn
  go_enter Try.func105, Try.ntmps105
  go_wp2
  exact bodyPost_ret (v := .tuple #[at0.cell, .int .i64 0, .int .i64 10]) (by simp [results, Try.results105, go_sem, at0, At.cell]) rfl ⟨rfl, box_below (Below.refl _ _)⟩

theorem al_below {W Y : World} (h : Below W.heap.size W Y) (o : Obj) : Below W.heap.size W (Y.alloc o) := h.alloc h.size _
/-- A box: its cells in later worlds, none of which is frozen. -/
theorem res_cell {w w1 : World} {cs : Array Value} {t : TypeId} (hb : Below (w.alloc (.cells cs t)).heap.size (w.alloc (.cells cs t)) w1) (i : Nat) : w1.cell? ⟨w.heap.size, i, none⟩ = cs[i]? ∧ w1.frozen? ⟨w.heap.size, i, none⟩ = false := by
  have h := hb.block w.heap.size (by simp)
  have h2 := heap_alloc_new w (.cells cs t)
  rw [h2] at h
  exact ⟨Joins.cell_of_block h i, Joins.unfrozen_of_block h i⟩
theorem u8_or (x y : UInt8) : bits BinOp.or IntKind.i64 (IntKind.i64.wrap (IntKind.i64.wrap (x.toNat : Int) * 256)) (IntKind.i64.wrap (y.toNat : Int)) = ((x.toNat * 256 + y.toNat : Nat) : Int) := by
  have hx := x.toNat_lt
  have hy := y.toNat_lt
  have e1 : IntKind.i64.wrap (x.toNat : Int) = (x.toNat : Int) := IntWalk.i64_in _ (by omega)
  have e2 : IntKind.i64.wrap (y.toNat : Int) = (y.toNat : Int) := IntWalk.i64_in _ (by omega)
  have e3 : IntKind.i64.wrap ((x.toNat : Int) * 256) = ((x.toNat * 256 : Nat) : Int) := by rw [IntWalk.i64_in _ (by omega)]; rfl
  rw [e1, e2, e3]
  have h := Nat.two_pow_add_eq_or_of_lt (i := 8) (b := y.toNat) hy x.toNat
  rw [show (2 : Nat) ^ 8 * x.toNat = x.toNat * 256 from by rw [Nat.mul_comm]] at h
  show IntKind.i64.wrap (((BitVec.ofInt 64 ((x.toNat * 256 : Nat) : Int) ||| BitVec.ofInt 64 ((y.toNat : Nat) : Int)).toNat : Nat) : Int) = _
  rw [BitVec.toNat_or, BitVec.ofInt_natCast, BitVec.ofInt_natCast, BitVec.toNat_ofNat, BitVec.toNat_ofNat, Nat.mod_eq_of_lt (by omega), Nat.mod_eq_of_lt (by omega), ← h]
  exact IntWalk.i64_in _ (by omega)

/-- Four cells that are written. -/
theorem cells4 {w : World} {B : Nat} {a b c d : Value} {t0 t1 t2 t3 : Value} (h0 : w.cell? ⟨B, 0, none⟩ = some t0) (h1 : w.cell? ⟨B, 1, none⟩ = some t1) (h2 : w.cell? ⟨B, 2, none⟩ = some t2) (h3 : w.cell? ⟨B, 3, none⟩ = some t3) {w' : World}
    (hw : w' = (((w.setCell ⟨B, 0, none⟩ a).setCell ⟨B, 1, none⟩ b).setCell ⟨B, 2, none⟩ c).setCell ⟨B, 3, none⟩ d) :
    w'.cell? ⟨B, 0, none⟩ = some a ∧ w'.cell? ⟨B, 1, none⟩ = some b ∧ w'.cell? ⟨B, 2, none⟩ = some c ∧ w'.cell? ⟨B, 3, none⟩ = some d := by
  subst hw
  simp [go_sem, h0, h1, h2, h3]

set_option maxHeartbeats 4000000 in
theorem readNumber_long {w : World} {b o : Nat} {r : List UInt8} (hl : Bs w (some ⟨b, o, none⟩) (32 :: r)) (n c : Nat) (hn : n = r.length + 1) (hnc : n ≤ c) (hc : c ≤ 9223372036854775807) (h : 11 ≤ r.length) :
    Calls Try.prog 105 #[.slice (some ⟨b, o, none⟩) n c] w (RAPost w (rdNum r)) := by
  have hst := store_flt
  obtain ⟨a1, a2, a3, a4, a5, a6, a7, a8, x, y, z, t, rfl⟩ := eleven h
  have hcell : ∀ i (hi : i < (32 :: a1 :: a2 :: a3 :: a4 :: a5 :: a6 :: a7 :: a8 :: x :: y :: z :: t).length), w.cell? ⟨b, o + i, none⟩ = some (.int .u8 ((32 :: a1 :: a2 :: a3 :: a4 :: a5 :: a6 :: a7 :: a8 :: x :: y :: z :: t)[i].toNat : Int)) := fun i hi => hl.cell hi
  have cx := hcell 9 (by simp)
  have cy := hcell 10 (by simp)
  have cz := hcell 11 (by simp)
  simp only [List.getElem_cons_succ, List.getElem_cons_zero] at cx cy cz
  have hb := World.block_lt_of_cell? _ _ cx
  simp only at hb
  have hbs : ∀ W, Below w.heap.size w W → Bs W (some ⟨b, o + 1, none⟩) (a1 :: a2 :: a3 :: a4 :: a5 :: a6 :: a7 :: a8 :: x :: y :: z :: t) := fun W hW => by
    have h2 := (hl.below hW)
    intro _
    refine ⟨b, o + 1, rfl, fun i u hi => ?_⟩
    obtain ⟨b', o', hp, hcc⟩ := h2 (by simp)
    simp only [Option.some.injEq, Addr.mk.injEq, and_true] at hp
    obtain ⟨rfl, rfl⟩ := hp
    have := hcc (i + 1) u (by simpa using hi)
    rw [Nat.add_assoc, Nat.add_comm 1 i]
    exact this
  generalize hr : (a1 :: a2 :: a3 :: a4 :: a5 :: a6 :: a7 :: a8 :: x :: y :: z :: t) = r at *
  have hv : num (r.take 8) < 18446744073709551616 := by subst hr; exact num_lt8 (by simp)
  have HRI : Hid (∀ W, Below w.heap.size w W → Calls Try.prog 62 #[.slice (some ⟨b, o + 1, none⟩) (n - 1) (c - 1)] W fun e w' => e = .returned (.tuple #[.int .i64 (outKey (num (r.take 8))), .int .i64 8, .int .i64 0]) ∧ W = w') :=
    Lib.hid fun W hW => readInt_long (hbs W hW) (n - 1) (c - 1) (by omega) (by omega) (by omega) (by omega)
  have hxy : (0 : Int) ≤ ((x.toNat * 256 + y.toNat : Nat) : Int) ∧ ((x.toNat * 256 + y.toNat : Nat) : Int) ≤ 65535 := by
    have h1 := x.toNat_lt
    have h2 := y.toNat_lt
    omega
  have HNU := Lib.hid (fun w => numberK_any (w := w) (num (r.take 8)) hv hxy.1 hxy.2 z)
  have HE : Hid (rdNum r = if (numberK (num (r.take 8)) ((x.toNat * 256 + y.toNat : Nat) : Int) z).2 = true then (0, (numberK (num (r.take 8)) ((x.toNat * 256 + y.toNat : Nat) : Int) z).1, 12) else (11, at0, 0)) := Lib.hid (by
    unfold rdNum
    rw [if_neg (by omega)]
    subst hr
    rfl)
  have HX : Hid (bits BinOp.xor IntKind.u64 (IntKind.u64.wrap (outKey (num (r.take 8)))) 9223372036854775808 = (num (r.take 8) : Int)) := Lib.hid (by
    rw [in_walk (outKey_bd hv).1 (outKey_bd hv).2, inKey_outKey hv])
  have h12 : ¬ (n : Int) < 12 := by omega
  have hn12 : 12 ≤ n := by omega
  have hx255 := x.toNat_lt
  have hy255 := y.toNat_lt
  clear hl hcell hbs hr hxy hv h hn
  generalize numberK (num (r.take 8)) ((x.toNat * 256 + y.toNat : Nat) : Int) z = nk at *
  generalize num (r.take 8) = v at *
  obtain ⟨⟨k0, n0, f0, s0⟩, ok⟩ := nk
  have HNU' : Hid (∀ w : World, Calls Try.prog 114 #[.int .u64 (v : Int), .int .i64 ((x.toNat * 256 + y.toNat : Nat) : Int), .int .u8 (z.toNat : Int)] w fun e w' => e = .returned (.tuple #[.agg #[.int .i64 k0, .int .i64 n0, .float .f64 f0, .string s0], .bool ok]) ∧ Below w.heap.size w w') := Lib.hid HNU.out
  clear HNU
  dsimp only at HE
  go_enter Try.func105, Try.ntmps105
  go_wp2_with fail
  refine (HRI.out _ (box_below (Below.refl _ _))).mono ?_; rintro e w' ⟨rfl, rfl⟩
  have hX := HX.out
  obtain ⟨W, hW⟩ : ∃ W, W = w.alloc (.cells #[.int .i64 0, .int .i64 0, .float .f64 0, .string ⟨#[]⟩] 43) := ⟨_, rfl⟩
  have HK : Hid (∀ w', Below W.heap.size W w' → w'.cell? ⟨b, o + 9, none⟩ = some (.int .u8 (x.toNat : Int)) ∧ w'.cell? ⟨b, o + 10, none⟩ = some (.int .u8 (y.toNat : Int)) ∧ w'.cell? ⟨b, o + 11, none⟩ = some (.int .u8 (z.toNat : Int))) := by
    refine Lib.hid fun w' hb' => ?_
    rw [hW] at hb'
    have h2 := box_below hb'
    exact ⟨by rw [h2.cell hb]; exact cx, by rw [h2.cell hb]; exact cy, by rw [h2.cell hb]; exact cz⟩
  rw [← hW]
  replace hW := Lib.hid hW
  go_wp2_with fail
  have HOR := Lib.hid (u8_or x y)
  have HWs : Hid (W.heap.size = w.heap.size + 1) := Lib.hid (by rw [hW.out]; simp)
  have HWB : Hid (∀ w', Below W.heap.size W w' → Below w.heap.size w w') := Lib.hid fun w' h => by rw [hW.out] at h; exact box_below h
  have HR : Hid (∀ w', Below W.heap.size W w' → (w'.cell? ⟨w.heap.size, 0, none⟩ = some (.int .i64 0) ∧ w'.frozen? ⟨w.heap.size, 0, none⟩ = false) ∧ (w'.cell? ⟨w.heap.size, 1, none⟩ = some (.int .i64 0) ∧ w'.frozen? ⟨w.heap.size, 1, none⟩ = false) ∧ (w'.cell? ⟨w.heap.size, 2, none⟩ = some (.float .f64 0) ∧ w'.frozen? ⟨w.heap.size, 2, none⟩ = false) ∧ (w'.cell? ⟨w.heap.size, 3, none⟩ = some (.string ⟨#[]⟩) ∧ w'.frozen? ⟨w.heap.size, 3, none⟩ = false)) := Lib.hid fun w' h => by
    rw [hW.out] at h
    exact ⟨res_cell h 0, res_cell h 1, res_cell h 2, res_cell h 3⟩
  have HT : Hid (∀ w', Below (W.alloc (.cells #[.int .i64 0, .int .i64 0, .float .f64 0, .string ⟨#[]⟩] 43)).heap.size (W.alloc (.cells #[.int .i64 0, .int .i64 0, .float .f64 0, .string ⟨#[]⟩] 43)) w' → (w'.cell? ⟨W.heap.size, 0, none⟩ = some (.int .i64 0) ∧ w'.frozen? ⟨W.heap.size, 0, none⟩ = false) ∧ (w'.cell? ⟨W.heap.size, 1, none⟩ = some (.int .i64 0) ∧ w'.frozen? ⟨W.heap.size, 1, none⟩ = false) ∧ (w'.cell? ⟨W.heap.size, 2, none⟩ = some (.float .f64 0) ∧ w'.frozen? ⟨W.heap.size, 2, none⟩ = false) ∧ (w'.cell? ⟨W.heap.size, 3, none⟩ = some (.string ⟨#[]⟩) ∧ w'.frozen? ⟨W.heap.size, 3, none⟩ = false)) := Lib.hid fun w' h => ⟨res_cell h 0, res_cell h 1, res_cell h 2, res_cell h 3⟩
  have HZ0 : Hid (Below W.heap.size W (W.alloc (.cells #[.int .i64 0, .int .i64 0, .float .f64 0, .string ⟨#[]⟩] 43)).drew) := Lib.hid (box_below (Below.refl _ _)).drew
  go_region_held3 (fun w' => w'.cell? ⟨b, o + 9, none⟩ = some (.int .u8 (x.toNat : Int)) ∧ w'.cell? ⟨b, o + 10, none⟩ = some (.int .u8 (y.toNat : Int)) ∧ w'.cell? ⟨b, o + 11, none⟩ = some (.int .u8 (z.toNat : Int)))
    (first | exact HK.out _ (Below.refl _ _).drew | exact HK.out _ HZ0.out | exact HK.out _ HB2.out | exact HK.out _ (al_below HB2.out _) | exact HK.out _ ((((HB2.out.setCell (Nat.le_refl _) _).setCell (Nat.le_refl _) _).setCell (Nat.le_refl _) _).setCell (Nat.le_refl _) _))
    (first
      | (go_at_call 114; rw [HOR.out]; (with_reducible refine (HNU'.out W.drew).mono ?_); rintro e w2 ⟨rfl, hb2⟩; have HB2 : Hid (Below W.heap.size W w2) := Lib.hid ((Below.refl _ _).drew.trans hb2); clear hb2)
      | (go_at_call 114; rw [HOR.out]; (with_reducible refine (HNU'.out (W.alloc (.cells #[.int .i64 0, .int .i64 0, .float .f64 0, .string ⟨#[]⟩] 43)).drew).mono ?_); rintro e w2 ⟨rfl, hb2⟩; have HB2 : Hid (Below W.heap.size W w2) := Lib.hid (HZ0.out.trans (hb2.mono HZ0.out.size)); have HB3 := Lib.hid hb2; obtain ⟨⟨t0, u0⟩, ⟨t1, u1⟩, ⟨t2, u2⟩, ⟨t3, u3⟩⟩ := HT.out _ ((Below.refl _ _).drew.trans hb2); clear hb2))
  · obtain ⟨w3, hw3⟩ : ∃ w3, w3 = w2.alloc (.cells #[.int .i64 k0, .int .i64 n0, .float .f64 f0, .string s0] 43) := ⟨_, rfl⟩
    rw [← hw3]
    have HBW : Hid (Below W.heap.size W w3) := Lib.hid (by rw [hw3]; exact al_below HB2.out _)
    obtain ⟨⟨g0, f0'⟩, ⟨g1, f1'⟩, ⟨g2, f2'⟩, ⟨g3, f3'⟩⟩ := HR.out _ HBW.out
    have HB3 := Lib.hid (HWB.out _ HBW.out)
    have hc := fun i => Joins.cell_of_block (heap_alloc_new w2 (.cells #[.int .i64 k0, .int .i64 n0, .float .f64 f0, .string s0] 43)) i
    rw [← hw3] at hc
    have q0 := hc 0
    have q1 := hc 1
    have q2 := hc 2
    have q3 := hc 3
    simp only [List.getElem?_toArray, List.getElem?_cons_zero, List.getElem?_cons_succ] at q0 q1 q2 q3
    generalize w2.heap.size = B at *
    clear hc hw3 cx cy cz hX HB2 HR HT HZ0 HK HWB hW HNU' HOR HRI HX
    cases ok
    · have HXX : Hid (rdNum r = (11, at0, 0)) := Lib.hid (by rw [HE.out]; rfl)
      clear HE
      go_wp2
      refine bodyPost_ret (v := .tuple #[at0.cell, .int .i64 0, .int .i64 11]) (by simp [results, Try.results105, go_sem, at0, At.cell, g0, g1, g2, g3]) rfl ⟨by rw [HXX.out]; rfl, ?_⟩
      exact ((((HB3.out.setCell (Nat.le_refl _) _).setCell (Nat.le_refl _) _).setCell (Nat.le_refl _) _).setCell (Nat.le_refl _) _)
    · have HXX : Hid (rdNum r = (0, ⟨k0, n0, f0, s0⟩, 12)) := Lib.hid (by rw [HE.out]; rfl)
      clear HE
      go_wp2
      refine bodyPost_ret (v := .tuple #[.agg #[.int .i64 k0, .int .i64 n0, .float .f64 f0, .string s0], .int .i64 12, .int .i64 0]) (by simp [results, Try.results105, go_sem, g0, g1, g2, g3]) rfl ⟨by rw [HXX.out]; rfl, ?_⟩
      exact ((((HB3.out.setCell (Nat.le_refl _) _).setCell (Nat.le_refl _) _).setCell (Nat.le_refl _) _).setCell (Nat.le_refl _) _)
  · obtain ⟨w3, hw3⟩ : ∃ w3, w3 = (((w2.setCell ⟨W.heap.size, 0, none⟩ (.int .i64 k0)).setCell ⟨W.heap.size, 1, none⟩ (.int .i64 n0)).setCell ⟨W.heap.size, 2, none⟩ (.float .f64 f0)).setCell ⟨W.heap.size, 3, none⟩ (.string s0) := ⟨_, rfl⟩
    rw [← hw3]
    have HBW : Hid (Below W.heap.size W w3) := Lib.hid (by rw [hw3]; exact ((((HB2.out.setCell (Nat.le_refl _) _).setCell (Nat.le_refl _) _).setCell (Nat.le_refl _) _).setCell (Nat.le_refl _) _))
    obtain ⟨⟨g0, f0'⟩, ⟨g1, f1'⟩, ⟨g2, f2'⟩, ⟨g3, f3'⟩⟩ := HR.out _ HBW.out
    have HB3 := Lib.hid (HWB.out _ HBW.out)
    obtain ⟨q0, q1, q2, q3⟩ := cells4 t0 t1 t2 t3 hw3
    generalize W.heap.size = B at *
    clear hw3 cx cy cz hX HB2 HR HT HZ0 HK HWB hW HNU' HOR HRI HX t0 t1 t2 t3 u0 u1 u2 u3
    cases ok
    · have HXX : Hid (rdNum r = (11, at0, 0)) := Lib.hid (by rw [HE.out]; rfl)
      clear HE
      go_wp2
      refine bodyPost_ret (v := .tuple #[at0.cell, .int .i64 0, .int .i64 11]) (by simp [results, Try.results105, go_sem, at0, At.cell, g0, g1, g2, g3]) rfl ⟨by rw [HXX.out]; rfl, ?_⟩
      exact ((((HB3.out.setCell (Nat.le_refl _) _).setCell (Nat.le_refl _) _).setCell (Nat.le_refl _) _).setCell (Nat.le_refl _) _)
    · have HXX : Hid (rdNum r = (0, ⟨k0, n0, f0, s0⟩, 12)) := Lib.hid (by rw [HE.out]; rfl)
      clear HE
      go_wp2
      refine bodyPost_ret (v := .tuple #[.agg #[.int .i64 k0, .int .i64 n0, .float .f64 f0, .string s0], .int .i64 12, .int .i64 0]) (by simp [results, Try.results105, go_sem, g0, g1, g2, g3]) rfl ⟨by rw [HXX.out]; rfl, ?_⟩
      exact ((((HB3.out.setCell (Nat.le_refl _) _).setCell (Nat.le_refl _) _).setCell (Nat.le_refl _) _).setCell (Nat.le_refl _) _)

theorem readNumber_any {w : World} {b o : Nat} {r : List UInt8} (hl : Bs w (some ⟨b, o, none⟩) (32 :: r)) (n c : Nat) (hn : n = r.length + 1) (hnc : n ≤ c) (hc : c ≤ 9223372036854775807) :
    Calls Try.prog 105 #[.slice (some ⟨b, o, none⟩) n c] w (RAPost w (rdNum r)) := by
  rcases Nat.lt_or_ge r.length 11 with h | h
  · exact readNumber_short n c hn h
  · exact readNumber_long hl n c hn hnc hc h

end Go.Proofs.Ytekaedafhiddeaa
