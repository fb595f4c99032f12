/-
  free: which pages are free, plain: FL; and a list in memory: FrIs; what stays when it changes: Only.
  free: all calls of a list that no call made.
  free: New, has, State, drop, Use, Give, Later of a list that a call made.
-/
import Derived.Test.YtmlnpgbnbchbkaaDoorSMapR
import Derived.Test.YtmlnpgbnbchbkaaDoorH02
import Derived.WalkSpells
import Derived.WalkLawsBesides
import Derived.RegionTactic
import Derived.Lib.Hide
set_option linter.unusedVariables false
set_option maxRecDepth 100000
namespace Go.Proofs.YtmlnpgbnbchbkaaDoor
open Go.RowKit

/-- What stays: all blocks but these. -/
structure Only (bs : List Nat) (w w' : World) : Prop where
  os : w'.os = w.os
  tape : w'.tape = w.tape
  output : w'.output = w.output
  size : w.heap.size ≤ w'.heap.size
  block : ∀ {k : Nat}, k < w.heap.size → k ∉ bs → w'.heap[k]? = w.heap[k]?

theorem Only.refl (bs : List Nat) (w : World) : Only bs w w := ⟨rfl, rfl, rfl, Nat.le_refl _, fun _ _ => rfl⟩
theorem Only.trans {bs : List Nat} {a b c : World} (h : Only bs a b) (k : Only bs b c) : Only bs a c :=
  ⟨k.os.trans h.os, k.tape.trans h.tape, k.output.trans h.output, Nat.le_trans h.size k.size, fun hi hn => (k.block (Nat.lt_of_lt_of_le hi h.size) hn).trans (h.block hi hn)⟩
theorem Only.mono {bs cs : List Nat} {w w' : World} (h : Only bs w w') (hs : ∀ b ∈ bs, b ∈ cs) : Only cs w w' := ⟨h.os, h.tape, h.output, h.size, fun hi hn => h.block hi fun hb => hn (hs _ hb)⟩
theorem Only.of_below {bs : List Nat} {w w' : World} (h : Below w.heap.size w w') : Only bs w w' := ⟨h.os, h.tape, h.output, h.size, fun hi _ => h.block _ hi⟩
theorem Only.of_grown {w w' : World} {b : Nat} (h : w.grownBy w' (some b)) : Only [b] w w' := ⟨h.os, h.tape, h.output, h.size, fun hi hn => h.block _ hi fun e => hn (by cases e; simp)⟩
theorem Only.below {bs : List Nat} {w w' : World} (h : Only bs w w') {B : Nat} (hB : B ≤ w.heap.size) (hb : ∀ b ∈ bs, B ≤ b) : Below B w w' :=
  ⟨h.os, h.tape, h.output, h.size, fun k hk => h.block (Nat.lt_of_lt_of_le hk hB) fun hm => by have := hb k hm; omega⟩
theorem Only.none {w w' : World} (h : Only [] w w') : Below w.heap.size w w' := ⟨h.os, h.tape, h.output, h.size, fun k hk => h.block hk (by simp)⟩
/-- Blocks that are newer than a world are none of its. -/
theorem Only.andThen {bs cs : List Nat} {a b c : World} (h : Only bs a b) (k : Only cs b c) (hc : ∀ x ∈ cs, a.heap.size ≤ x ∨ x ∈ bs) : Only bs a c :=
  ⟨k.os.trans h.os, k.tape.trans h.tape, k.output.trans h.output, Nat.le_trans h.size k.size, fun {i} hi hn => (k.block (Nat.lt_of_lt_of_le hi h.size) fun hm => by rcases hc i hm with h1 | h1; omega; exact hn h1).trans (h.block hi hn)⟩
theorem Only.cell {bs : List Nat} {w w' : World} (h : Only bs w w') {a : Addr} (ha : a.block < w.heap.size) (hn : a.block ∉ bs) : w'.cell? a = w.cell? a := World.cell?_of_block (h.block ha hn)

/-- Which pages are free: a list of pages, plain. -/
structure FL where
  lo : Int
  hi : Int
  used : Int → Bool
  waits : Int → Option Int

structure FL.Ok (F : FL) : Prop where
  h0 : 0 ≤ F.lo
  h1 : F.lo ≤ F.hi
  h2 : F.hi ≤ 4096
  hu : ∀ {k}, F.used k = true → F.lo ≤ k ∧ k < F.hi
  hw : ∀ {k}, (F.waits k).isSome = true → F.lo ≤ k ∧ k < F.hi
  ha : ∀ {k}, F.used k = true → F.waits k = Option.none

def FL.has (F : FL) (k : Int) : Bool := decide (F.lo ≤ k) && decide (k < F.hi)
/-- State. -/
def FL.st (F : FL) (k : Int) : Int := if F.has k then (if F.used k then 2 else if (F.waits k).isSome then 3 else 1) else 0
def FL.new (lo hi : Int) : FL := ⟨lo, hi, fun _ => false, fun _ => Option.none⟩
def FL.take (F : FL) (k : Int) : FL := { F with used := fun x => if x = k then true else F.used x }
def FL.drop (F : FL) (k : Int) : FL := { F with used := fun x => if x = k then false else F.used x }
def FL.late (F : FL) (k g : Int) : FL := { F.drop k with waits := fun x => if x = k then some g else F.waits x }
/-- Of those that wait for such generations none waits any more. -/
def FL.leave (F : FL) (such : Int → Bool) : FL := { F with waits := fun x => match F.waits x with | some g => if such g then Option.none else some g | Option.none => Option.none }
/-- They are in use again. -/
def FL.back (F : FL) (such : Int → Bool) : FL := { F.leave such with used := fun x => F.used x || (match F.waits x with | some g => such g | Option.none => false) }

/-- The pages, from the first one on. -/
def FL.pages (F : FL) : List Int := (List.range (F.hi - F.lo).toNat).map fun (i : Nat) => F.lo + (i : Int)
def FL.nUsed (F : FL) : Nat := F.pages.countP F.used
def FL.nWaits (F : FL) : Nat := F.pages.countP fun k => (F.waits k).isSome
def FL.nSuch (F : FL) (such : Int → Bool) : Nat := F.pages.countP fun k => match F.waits k with | some g => such g | Option.none => false

theorem FL.mem_pages {F : FL} {k : Int} : k ∈ F.pages ↔ F.lo ≤ k ∧ k < F.hi := by
  simp only [FL.pages, List.mem_map, List.mem_range]
  constructor
  · rintro ⟨i, hi, rfl⟩
    omega
  · rintro ⟨h1, h2⟩
    exact ⟨(k - F.lo).toNat, by omega, by omega⟩
theorem FL.pages_nodup (F : FL) : F.pages.Nodup := by
  refine List.pairwise_map.2 ?_
  refine List.Pairwise.imp ?_ List.nodup_range
  intro a b h e
  omega

theorem FL.Ok.new {lo hi : Int} (h0 : 0 ≤ lo) (h1 : lo ≤ hi) (h2 : hi ≤ 4096) : (FL.new lo hi).Ok := ⟨h0, h1, h2, by simp [FL.new], by simp [FL.new], by simp [FL.new]⟩
theorem FL.has_iff {F : FL} {k : Int} : F.has k = true ↔ F.lo ≤ k ∧ k < F.hi := by simp [FL.has]
theorem FL.Ok.take {F : FL} (h : F.Ok) {k : Int} (hs : F.st k = 1) : (F.take k).Ok := by
  have hk : F.has k = true := by
    cases hh : F.has k
    · simp [FL.st, hh] at hs
    · rfl
  have hu : F.used k = false := by
    cases hh : F.used k
    · rfl
    · simp [FL.st, hk, hh] at hs
  have hw : F.waits k = Option.none := by
    cases hh : F.waits k
    · rfl
    · simp [FL.st, hk, hu, hh] at hs
  refine ⟨h.h0, h.h1, h.h2, fun {x} hx => ?_, h.hw, fun {x} hx => ?_⟩
  · simp only [FL.take] at hx
    by_cases e : x = k
    · rw [e]; exact FL.has_iff.1 hk
    · simp only [e, if_false] at hx; exact h.hu hx
  · simp only [FL.take] at hx
    by_cases e : x = k
    · rw [e]; exact hw
    · simp only [e, if_false] at hx; exact h.ha hx
theorem FL.st_two {F : FL} {k : Int} : F.st k = 2 ↔ F.has k = true ∧ F.used k = true := by
  unfold FL.st
  cases F.has k <;> cases F.used k <;> cases (F.waits k).isSome <;> simp
theorem FL.Ok.drop {F : FL} (h : F.Ok) (k : Int) : (F.drop k).Ok := by
  refine ⟨h.h0, h.h1, h.h2, fun {x} hx => ?_, h.hw, fun {x} hx => ?_⟩
  · simp only [FL.drop] at hx
    by_cases e : x = k
    · simp [e] at hx
    · simp only [e, if_false] at hx; exact h.hu hx
  · simp only [FL.drop] at hx
    by_cases e : x = k
    · simp [e] at hx
    · simp only [e, if_false] at hx; exact h.ha hx
theorem FL.Ok.late {F : FL} (h : F.Ok) {k : Int} (g : Int) (hk : F.has k = true) : (F.late k g).Ok := by
  have h' := h.drop k
  refine ⟨h.h0, h.h1, h.h2, h'.hu, fun {x} hx => ?_, fun {x} hx => ?_⟩
  · simp only [FL.late] at hx
    by_cases e : x = k
    · rw [e]; exact FL.has_iff.1 hk
    · simp only [e, if_false] at hx; exact h.hw hx
  · simp only [FL.late, FL.drop] at hx ⊢
    by_cases e : x = k
    · simp [e] at hx
    · simp only [e, if_false] at hx ⊢; exact h.ha hx
theorem FL.leave_none {F : FL} {such : Int → Bool} {k : Int} (h : ((F.leave such).waits k).isSome = true) : (F.waits k).isSome = true := by
  simp only [FL.leave] at h
  cases hw : F.waits k
  · rw [hw] at h; cases h
  · rfl
theorem FL.Ok.leave {F : FL} (h : F.Ok) (such : Int → Bool) : (F.leave such).Ok := by
  refine ⟨h.h0, h.h1, h.h2, h.hu, fun {x} hx => h.hw (FL.leave_none hx), fun {x} hx => ?_⟩
  have := h.ha (k := x) hx
  simp [FL.leave, this]
theorem FL.Ok.back {F : FL} (h : F.Ok) (such : Int → Bool) : (F.back such).Ok := by
  refine ⟨h.h0, h.h1, h.h2, fun {x} hx => ?_, fun {x} hx => h.hw (FL.leave_none hx), fun {x} hx => ?_⟩
  · simp only [FL.back, Bool.or_eq_true] at hx
    rcases hx with hx | hx
    · exact h.hu hx
    · refine h.hw ?_
      cases hw : F.waits x
      · rw [hw] at hx; cases hx
      · rfl
  · simp only [FL.back, Bool.or_eq_true] at hx
    show (F.leave such).waits x = _
    simp only [FL.leave]
    rcases hx with hx | hx
    · rw [h.ha hx]
    · cases hw : F.waits x
      · rfl
      · rw [hw] at hx
        simp only at hx
        simp [hx]

/-- As many pages wait as did, less those that wait no more. -/
theorem FL.leave_count (F : FL) (such : Int → Bool) : F.nWaits = (F.leave such).nWaits + F.nSuch such := by
  unfold FL.nWaits FL.nSuch
  show List.countP _ F.pages = List.countP _ F.pages + _
  induction F.pages with
  | nil => rfl
  | cons x l ih =>
    simp only [List.countP_cons, ih]
    cases hw : F.waits x with
    | none => simp [FL.leave, hw]
    | some g => cases hg : such g <;> simp [FL.leave, hw, hg] <;> omega

/-- A list of pages that lies at p. -/
structure FrIs (w : World) (p um wm : Nat) (F : FL) : Prop where
  blk : w.heap[p]? = some (.cells #[.int .i64 F.lo, .int .i64 F.hi, .map (some um), .map (some wm)] 103 (0, 0))
  mu : MapSt w um fun k => if F.used k = true then some (.agg #[]) else Option.none
  mw : MapSt w wm fun k => (F.waits k).map (Value.int .i64)
  ne : um ≠ wm
  ok : F.Ok

theorem FrIs.below {w w' : World} {p um wm : Nat} {F : FL} (h : FrIs w p um wm F) (hb : Below w.heap.size w w') : FrIs w' p um wm F :=
  ⟨by rw [hb.block _ (Array.getElem?_eq_some_iff.1 h.blk).1]; exact h.blk, h.mu.block (hb.block _ h.mu.lt), h.mw.block (hb.block _ h.mw.lt), h.ne, h.ok⟩
theorem FrIs.only {w w' : World} {p um wm : Nat} {F : FL} {bs : List Nat} (h : FrIs w p um wm F) (ho : Only bs w w') (hp : p ∉ bs) (hu : um ∉ bs) (hw : wm ∉ bs) : FrIs w' p um wm F :=
  ⟨by rw [ho.block (Array.getElem?_eq_some_iff.1 h.blk).1 hp]; exact h.blk, h.mu.block (ho.block h.mu.lt hu), h.mw.block (ho.block h.mw.lt hw), h.ne, h.ok⟩
theorem FrIs.pne {w : World} {p um wm : Nat} {F : FL} (h : FrIs w p um wm F) : p ≠ um ∧ p ≠ wm := by
  obtain ⟨⟨_, _, hu, _⟩, _⟩ := h.mu
  obtain ⟨⟨_, _, hw, _⟩, _⟩ := h.mw
  constructor <;> rintro rfl
  · rw [h.blk] at hu; cases hu
  · rw [h.blk] at hw; cases hw

theorem FL.keys_used {F : FL} (h : F.Ok) : KeysOf (fun k => if F.used k = true then some (Value.agg #[]) else Option.none) (F.pages.filter F.used) := by
  refine ⟨F.pages_nodup.filter _, fun k => ?_⟩
  rw [List.mem_filter, FL.mem_pages]
  by_cases hu : F.used k = true
  · simp [hu, h.hu hu]
  · simp [hu]
theorem FL.keys_waits {F : FL} (h : F.Ok) : KeysOf (fun k => (F.waits k).map (Value.int .i64)) (F.pages.filter fun k => (F.waits k).isSome) := by
  refine ⟨F.pages_nodup.filter _, fun k => ?_⟩
  rw [List.mem_filter, FL.mem_pages, Option.isSome_map]
  constructor
  · rintro ⟨_, h1⟩; exact h1
  · intro h1; exact ⟨h.hw h1, h1⟩

end Go.Proofs.YtmlnpgbnbchbkaaDoor

set_option linter.unusedVariables false
set_option maxRecDepth 100000
namespace Go.Proofs.YtmlnpgbnbchbkaaDoor
open Go.RowKit

/-- A list that no call made. -/
def FrNone (w : World) (d : Option Addr) : Prop := d = none ∨ ∃ p, d = some ⟨p, 0, none⟩ ∧ w.cell? ⟨p, 2, none⟩ = some (.map none)

theorem FrNone.below {w w' : World} {d : Option Addr} (h : FrNone w d) (hb : Below w.heap.size w w') : FrNone w' d := by
  rcases h with h | ⟨p, h, hc⟩
  · exact .inl h
  · exact .inr ⟨p, h, by rw [hb.cell (p := ⟨p, 2, none⟩) (World.block_lt_of_cell? _ _ hc)]; exact hc⟩

theorem frNeq_no (w : World) : (binOp BinOp.neq 66 (.map none) (.map none)).run Tryd.prog w = .ok (.bool false) w := by kernel_rfl
theorem frNeq_yes (w : World) (b : Nat) : (binOp BinOp.neq 66 (.map (some b)) (.map none)).run Tryd.prog w = .ok (.bool true) w := by kernel_rfl

set_option maxHeartbeats 400000 in
theorem frMade_no {w : World} {d : Option Addr} (h : FrNone w d) :
    Calls Tryd.prog 57 #[.pointer d] w fun e w' => e = .returned (.bool false) ∧ w = w' := by
  rcases h with rfl | ⟨p, rfl, hc⟩
  · go_enter Tryd.func57, Tryd.ntmps57
    go_wp2
    go_ret
    exact ⟨rfl, rfl⟩
  · have hne := frNeq_no
    go_enter Tryd.func57, Tryd.ntmps57
    go_wp2
    go_ret
    exact ⟨rfl, rfl⟩

set_option maxHeartbeats 400000 in
theorem frMade_yes {w : World} {p b : Nat} (hc : w.cell? ⟨p, 2, none⟩ = some (.map (some b))) :
    Calls Tryd.prog 57 #[.pointer (some ⟨p, 0, none⟩)] w fun e w' => e = .returned (.bool true) ∧ w = w' := by
  have hne := frNeq_yes
  go_enter Tryd.func57, Tryd.ntmps57
  go_wp2
  go_ret
  exact ⟨rfl, rfl⟩

set_option maxHeartbeats 400000 in
theorem frAlloc_no {w : World} {d : Option Addr} (h : FrNone w d) :
    Calls Tryd.prog 32 #[.pointer d] w fun e w' => e = .returned (.tuple #[.int .i64 0, .int .i64 1]) ∧ Below w.heap.size w w' := by
  have H := Lib.hid fun w' hb => frMade_no (h.below (w' := w') hb)
  clear h
  go_enter Tryd.func32, Tryd.ntmps32
  go_wp2_with fail
  refine (H.out _ (sbox1 _ _)).mono ?_; rintro e w1 ⟨rfl, rfl⟩
  go_wp2
  go_ret2
  exact ⟨rfl, sbox1 _ _⟩

set_option maxHeartbeats 400000 in
theorem frUse_no {w : World} {d : Option Addr} (h : FrNone w d) (k : Int) :
    Calls Tryd.prog 31 #[.pointer d, .int .i64 k] w fun e w' => e = .returned (.int .i64 1) ∧ w = w' := by
  have H := Lib.hid (frMade_no h)
  clear h
  go_enter Tryd.func31, Tryd.ntmps31
  go_wp2_with fail
  refine (H.out).mono ?_; rintro e w1 ⟨rfl, rfl⟩
  go_wp2
  go_ret
  exact ⟨rfl, rfl⟩

set_option maxHeartbeats 400000 in
theorem frGive_no {w : World} {d : Option Addr} (h : FrNone w d) (k : Int) :
    Calls Tryd.prog 34 #[.pointer d, .int .i64 k] w fun e w' => e = .returned (.int .i64 1) ∧ w = w' := by
  have H := Lib.hid (frMade_no h)
  clear h
  go_enter Tryd.func34, Tryd.ntmps34
  go_wp2_with fail
  refine (H.out).mono ?_; rintro e w1 ⟨rfl, rfl⟩
  go_wp2
  go_ret
  exact ⟨rfl, rfl⟩

set_option maxHeartbeats 400000 in
theorem frLater_no {w : World} {d : Option Addr} (h : FrNone w d) (k g : Int) :
    Calls Tryd.prog 35 #[.pointer d, .int .i64 k, .int .i64 g] w fun e w' => e = .returned (.int .i64 1) ∧ w = w' := by
  have H := Lib.hid (frMade_no h)
  clear h
  go_enter Tryd.func35, Tryd.ntmps35
  go_wp2_with fail
  refine (H.out).mono ?_; rintro e w1 ⟨rfl, rfl⟩
  go_wp2
  go_ret
  exact ⟨rfl, rfl⟩

set_option maxHeartbeats 400000 in
theorem frFree_no {w : World} {d : Option Addr} (h : FrNone w d) :
    Calls Tryd.prog 46 #[.pointer d] w fun e w' => e = .returned (.int .i64 0) ∧ w = w' := by
  have H := Lib.hid (frMade_no h)
  clear h
  go_enter Tryd.func46, Tryd.ntmps46
  go_wp2_with fail
  refine (H.out).mono ?_; rintro e w1 ⟨rfl, rfl⟩
  go_wp2
  go_ret
  exact ⟨rfl, rfl⟩

set_option maxHeartbeats 400000 in
theorem frWaiting_no {w : World} {d : Option Addr} (h : FrNone w d) :
    Calls Tryd.prog 48 #[.pointer d] w fun e w' => e = .returned (.int .i64 0) ∧ w = w' := by
  have H := Lib.hid (frMade_no h)
  clear h
  go_enter Tryd.func48, Tryd.ntmps48
  go_wp2_with fail
  refine (H.out).mono ?_; rintro e w1 ⟨rfl, rfl⟩
  go_wp2
  go_ret
  exact ⟨rfl, rfl⟩

set_option maxHeartbeats 400000 in
theorem frUsed_no {w : World} {d : Option Addr} (h : FrNone w d) :
    Calls Tryd.prog 47 #[.pointer d] w fun e w' => e = .returned (.int .i64 0) ∧ w = w' := by
  have H := Lib.hid (frMade_no h)
  clear h
  go_enter Tryd.func47, Tryd.ntmps47
  go_wp2_with fail
  refine (H.out).mono ?_; rintro e w1 ⟨rfl, rfl⟩
  go_wp2
  go_ret
  exact ⟨rfl, rfl⟩

set_option maxHeartbeats 400000 in
theorem frState_no {w : World} {d : Option Addr} (h : FrNone w d) (k : Int) :
    Calls Tryd.prog 59 #[.pointer d, .int .i64 k] w fun e w' => e = .returned (.int .i64 0) ∧ w = w' := by
  have H := Lib.hid (frMade_no h)
  clear h
  go_enter Tryd.func59, Tryd.ntmps59
  go_wp2_with fail
  refine (H.out).mono ?_; rintro e w1 ⟨rfl, rfl⟩
  go_wp2
  go_ret
  exact ⟨rfl, rfl⟩

set_option maxHeartbeats 400000 in
theorem frLeave_no {w : World} {d : Option Addr} (h : FrNone w d) (v : Value) :
    Calls Tryd.prog 66 #[.pointer d, v] w fun e w' => e = .returned (.slice none 0 0) ∧ w = w' := by
  have H := Lib.hid (frMade_no h)
  clear h
  go_enter Tryd.func66, Tryd.ntmps66
  go_wp2_with fail
  refine H.out.mono ?_; rintro e w1 ⟨rfl, rfl⟩
  go_wp2
  go_ret
  exact ⟨rfl, rfl⟩

set_option maxHeartbeats 400000 in
theorem frSettle_no {w : World} {d : Option Addr} (h : FrNone w d) (k : Int) :
    Calls Tryd.prog 64 #[.pointer d, .int .i64 k] w fun e w' => e = .returned (.int .i64 0) ∧ Below w.heap.size w w' := by
  have H := Lib.hid fun w' hb v => frLeave_no (h.below (w' := w') hb) v
  clear h
  have hmf : ∀ (fn : Fn) (first cap : Array Value) (w : World), (Instr.makeFunc fn first cap).run Tryd.prog w = .ok (.func fn first cap) w := fun _ _ _ _ => rfl
  go_enter Tryd.func64, Tryd.ntmps64
  go_wp2_with fail
  refine (H.out _ (sbox1 _ _) _).mono ?_; rintro e w1 ⟨rfl, rfl⟩
  go_wp2
  go_ret
  exact ⟨rfl, sbox1 _ _⟩

set_option maxHeartbeats 400000 in
theorem frForget_no {w : World} {d : Option Addr} (h : FrNone w d) (k : Int) :
    Calls Tryd.prog 41 #[.pointer d, .int .i64 k] w fun e w' => e = .returned (.int .i64 0) ∧ Below w.heap.size w w' := by
  have H := Lib.hid fun w' hb v => frLeave_no (h.below (w' := w') hb) v
  clear h
  have hmf : ∀ (fn : Fn) (first cap : Array Value) (w : World), (Instr.makeFunc fn first cap).run Tryd.prog w = .ok (.func fn first cap) w := fun _ _ _ _ => rfl
  go_enter Tryd.func41, Tryd.ntmps41
  go_wp2_with fail
  refine (H.out _ (sbox1 _ _) _).mono ?_; rintro e w1 ⟨rfl, rfl⟩
  go_wp2
  refine wp_loop_rounds 1 ?_
  rw [rounds_succ]
  go_wp2
  go_ret
  exact ⟨rfl, sbox1 _ _⟩

end Go.Proofs.YtmlnpgbnbchbkaaDoor

set_option linter.unusedVariables false
set_option maxRecDepth 100000
namespace Go.Proofs.YtmlnpgbnbchbkaaDoor
open Go.RowKit

theorem zero_unit (w : World) : (zeroValue 74).run Tryd.prog w = .ok (.agg #[]) w := by kernel_rfl
theorem zero_int (w : World) : (zeroValue 3).run Tryd.prog w = .ok (.int .i64 0) w := by kernel_rfl

section
variable {w : World} {ops : Array Oper} {rest : List Oper} {o : Oper} {a : Act} {Q : Exit → Act → World → Prop} {b : Nat} {f : Int → Option Value}

/-- _, ok := used[k] -/
theorem fr_look (hg : o.guard = none) (m x : Operand) (hop : o.op = Op.lookup 66 m x true) (hm : a.eval m = .map (some b)) {u : Int → Bool} (h : MapSt w b fun k => if u k = true then some (.agg #[]) else none) {k : Int} (hx : a.eval x = .int .i64 k)
    (hK : wpList Tryd.prog ops Q rest (a.put o.dst (.tuple #[.agg #[], .bool (u k)])) w) : wpList Tryd.prog ops Q (o :: rest) a w := by
  refine map_look hg m x _ 3 74 true hop Tryd.underlying66 Tryd.underlying3 (zero_unit w) hm h.is hx ?_
  have e : (if true then Value.tuple #[((fun k => if u k = true then some (Value.agg #[]) else none) k).getD (.agg #[]), .bool ((fun k => if u k = true then some (Value.agg #[]) else none) k).isSome] else ((fun k => if u k = true then some (Value.agg #[]) else none) k).getD (.agg #[])) = .tuple #[.agg #[], .bool (u k)] := by
    cases hu : u k <;> simp [hu]
  rw [e]
  exact hK

/-- g, ok := waits[k] -/
theorem fr_look2 (hg : o.guard = none) (m x : Operand) (hop : o.op = Op.lookup 101 m x true) (hm : a.eval m = .map (some b)) {g : Int → Option Int} (h : MapSt w b fun k => (g k).map (Value.int .i64)) {k : Int} (hx : a.eval x = .int .i64 k)
    (hK : wpList Tryd.prog ops Q rest (a.put o.dst (.tuple #[.int .i64 ((g k).getD 0), .bool (g k).isSome])) w) : wpList Tryd.prog ops Q (o :: rest) a w := by
  refine map_look hg m x _ 3 3 true hop Tryd.underlying101 Tryd.underlying3 (zero_int w) hm h.is hx ?_
  have e : (if true then Value.tuple #[((fun k => (g k).map (Value.int .i64)) k).getD (.int .i64 0), .bool ((fun k => (g k).map (Value.int .i64)) k).isSome] else ((fun k => (g k).map (Value.int .i64)) k).getD (.int .i64 0)) = .tuple #[.int .i64 ((g k).getD 0), .bool (g k).isSome] := by
    cases hu : g k <;> simp [hu]
  rw [e]
  exact hK
end

section
variable {w : World} {p um wm : Nat} {F : FL}

theorem FrIs.c0 (h : FrIs w p um wm F) : w.cell? ⟨p, 0, none⟩ = some (.int .i64 F.lo) := (Joins.cell_of_block h.blk 0).trans rfl
theorem FrIs.c1 (h : FrIs w p um wm F) : w.cell? ⟨p, 1, none⟩ = some (.int .i64 F.hi) := (Joins.cell_of_block h.blk 1).trans rfl
theorem FrIs.c2 (h : FrIs w p um wm F) : w.cell? ⟨p, 2, none⟩ = some (.map (some um)) := (Joins.cell_of_block h.blk 2).trans rfl
theorem FrIs.c3 (h : FrIs w p um wm F) : w.cell? ⟨p, 3, none⟩ = some (.map (some wm)) := (Joins.cell_of_block h.blk 3).trans rfl

set_option maxHeartbeats 400000 in
theorem frHas_any (h : FrIs w p um wm F) (k : Int) :
    Calls Tryd.prog 58 #[.pointer (some ⟨p, 0, none⟩), .int .i64 k] w fun e w' => e = .returned (.bool (F.has k)) ∧ w = w' := by
  have c0 := h.c0
  have c1 := h.c1
  unfold FL.has
  clear h
  generalize F.lo = lo at *
  generalize F.hi = hi at *
  by_cases h0 : lo ≤ k
  · have h1 : decide (lo ≤ k) = true := decide_eq_true h0
    go_enter Tryd.func58, Tryd.ntmps58
    go_wp2
    all_goals (go_ret; exact ⟨by simp_all, rfl⟩)
  · have h1 : decide (lo ≤ k) = false := decide_eq_false h0
    go_enter Tryd.func58, Tryd.ntmps58
    go_wp2
    all_goals (go_ret; exact ⟨by simp_all, rfl⟩)

set_option maxHeartbeats 800000 in
theorem frState_any (h : FrIs w p um wm F) (k : Int) :
    Calls Tryd.prog 59 #[.pointer (some ⟨p, 0, none⟩), .int .i64 k] w fun e w' => e = .returned (.int .i64 (F.st k)) ∧ Below w.heap.size w w' := by
  have HM := Lib.hid (frMade_yes h.c2)
  have HH := frHas_any h k
  have c2 := h.c2
  have c3 := h.c3
  have HU := Lib.hid h.mu
  have c3' : (w.alloc (.cells #[] 74)).cell? ⟨p, 3, none⟩ = some (.map (some wm)) := by
    rw [(sbox1 w (.cells #[] 74)).cell (p := ⟨p, 3, none⟩) (World.block_lt_of_cell? _ _ c3)]
    exact c3
  have HW : Hid (MapSt (w.alloc (.cells #[] 74)) wm fun k => (F.waits k).map (Value.int .i64)) := Lib.hid (h.mw.block ((sbox1 w _).block _ h.mw.lt))
  have HB : Hid (Below w.heap.size w (w.alloc (.cells #[] 74))) := Lib.hid (sbox1 w _)
  clear h
  cases hk : F.has k
  · rw [hk] at HH
    replace HH := Lib.hid HH
    have hs : F.st k = 0 := by simp [FL.st, hk]
    rw [hs]
    clear hs hk
    go_enter Tryd.func59, Tryd.ntmps59
    go_wp2_with fail
    refine HM.out.mono ?_; rintro e w1 ⟨rfl, rfl⟩
    go_wp2_with fail
    refine HH.out.mono ?_; rintro e w1 ⟨rfl, rfl⟩
    go_wp2
    go_ret
    exact ⟨rfl, Below.refl _ _⟩
  · rw [hk] at HH
    replace HH := Lib.hid HH
    cases hu : F.used k
    · obtain ⟨s, hs2⟩ : ∃ s, s = (F.waits k).isSome := ⟨_, rfl⟩
      have hs : F.st k = if s then 3 else 1 := by simp [FL.st, hk, hu, hs2]
      rw [hs]
      clear hs hk
      have HS := Lib.hid hs2
      clear hs2
      have HN := Lib.hid hu
      clear hu
      cases s
      all_goals
        go_enter Tryd.func59, Tryd.ntmps59
        go_wp2_with fail
        refine HM.out.mono ?_; rintro e w1 ⟨rfl, rfl⟩
        go_wp2_with fail
        refine HH.out.mono ?_; rintro e w1 ⟨rfl, rfl⟩
        go_wp2_with (first | (at_lookup; refine fr_look rfl _ _ rfl rfl HU.out rfl ?_; rw [HN.out]) | (at_lookup; refine fr_look2 rfl _ _ rfl rfl HW.out rfl ?_; rw [← HS.out]))
        go_ret
        exact ⟨rfl, HB.out⟩
    · have hs : F.st k = 2 := by simp [FL.st, hk, hu]
      rw [hs]
      clear hs hk
      have HN := Lib.hid hu
      clear hu
      go_enter Tryd.func59, Tryd.ntmps59
      go_wp2_with fail
      refine HM.out.mono ?_; rintro e w1 ⟨rfl, rfl⟩
      go_wp2_with fail
      refine HH.out.mono ?_; rintro e w1 ⟨rfl, rfl⟩
      go_wp2_with (at_lookup; refine fr_look rfl _ _ rfl rfl HU.out rfl ?_; rw [HN.out])
      go_ret
      exact ⟨rfl, HB.out⟩
end

end Go.Proofs.YtmlnpgbnbchbkaaDoor

