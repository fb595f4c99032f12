/-
  pager: all calls of a pager that no call made; Open and Format of a disk that no call made.
  A pager, plain (PG); a pager in memory (GrIs); what stays when it changes (ofGr).
  pager.write, mend.
-/
import Derived.Test.YtngnmakeaniapaaGreatDoorH02
import Derived.Test.YtngnmakeaniapaaGreatDoorGCrashM
import Derived.Test.YtngnmakeaniapaaGreatDoorH09
import Derived.Test.YtngnmakeaniapaaGreatDoorH13
set_option linter.unusedVariables false
set_option maxRecDepth 100000
namespace Go.Proofs.YtngnmakeaniapaaGreatDoor
open Go.RowKit

/-- A pager that no call made. -/
def GrNone (w : World) (d : Option Addr) : Prop := d = none ∨ ∃ p, d = some ⟨p, 0, none⟩ ∧ w.cell? ⟨p, 0, none⟩ = some (.pointer none)

theorem GrNone.below {w w' : World} {d : Option Addr} (h : GrNone w d) (hb : Below w.heap.size w w') : GrNone w' d := by
  rcases h with h | ⟨p, h, hc⟩
  · exact .inl h
  · exact .inr ⟨p, h, by rw [hb.cell (p := ⟨p, 0, none⟩) (World.block_lt_of_cell? _ _ hc)]; exact hc⟩

set_option maxHeartbeats 400000 in
theorem grMade_no {w : World} {d : Option Addr} (h : GrNone w d) :
    Calls Tryz.prog 86 #[.pointer d] w fun e w' => e = .returned (.bool false) ∧ w = w' := by
  rcases h with rfl | ⟨p, rfl, hc⟩
  · go_enter Tryz.func86, Tryz.ntmps86
    go_wp2
    go_ret
    exact ⟨rfl, rfl⟩
  · go_enter Tryz.func86, Tryz.ntmps86
    go_wp2
    go_ret
    exact ⟨rfl, rfl⟩

set_option maxHeartbeats 400000 in
theorem grMade_yes {w : World} {p : Nat} {a : Addr} (hc : w.cell? ⟨p, 0, none⟩ = some (.pointer (some a))) :
    Calls Tryz.prog 86 #[.pointer (some ⟨p, 0, none⟩)] w fun e w' => e = .returned (.bool true) ∧ w = w' := by
  go_enter Tryz.func86, Tryz.ntmps86
  go_wp2
  go_ret
  exact ⟨rfl, rfl⟩

set_option maxHeartbeats 400000 in
theorem grLen_no {w : World} {d : Option Addr} (h : Nobody w d) :
    Calls Tryz.prog 72 #[.pointer d] w fun e w' => e = .returned (.int .i64 0) ∧ w = w' := by
  have H := Lib.hid (made_no h)
  clear h
  go_enter Tryz.func72, Tryz.ntmps72
  go_wp2_with fail
  refine H.out.mono ?_; rintro e w1 ⟨rfl, rfl⟩
  go_wp2
  go_ret
  exact ⟨rfl, rfl⟩

set_option maxHeartbeats 400000 in
theorem grKeep_no {w : World} {d : Option Addr} (h : GrNone w d) (v : Value) :
    Calls Tryz.prog 47 #[.pointer d, v] w fun e w' => e = .returned (.int .i64 1) ∧ Below w.heap.size w w' := by
  have H := Lib.hid fun w' (hb : Below w.heap.size w w') => grMade_no (h.below hb)
  clear h
  go_enter Tryz.func47, Tryz.ntmps47
  go_wp2_with fail
  refine (H.out _ (by first | exact Below.refl _ _ | exact sbox1 _ _ | exact sbox2 _ _ _)).mono ?_; rintro e w1 ⟨rfl, rfl⟩
  go_wp2
  go_ret
  exact ⟨rfl, by first | exact Below.refl _ _ | exact sbox1 _ _ | exact sbox2 _ _ _⟩

set_option maxHeartbeats 400000 in
theorem grMeta_no {w : World} {d : Option Addr} (h : GrNone w d) :
    Calls Tryz.prog 46 #[.pointer d] w fun e w' => e = .returned (.agg #[.int .i64 0, .int .i64 0, .int .i64 0, .int .i64 0]) ∧ Below w.heap.size w w' := by
  have H := Lib.hid fun w' (hb : Below w.heap.size w w') => grMade_no (h.below hb)
  clear h
  go_enter Tryz.func46, Tryz.ntmps46
  go_wp2_with fail
  refine (H.out _ (by first | exact Below.refl _ _ | exact sbox1 _ _ | exact sbox2 _ _ _)).mono ?_; rintro e w1 ⟨rfl, rfl⟩
  go_wp2
  have b0 := heap_alloc_new w (.cells #[.int .i64 0, .int .i64 0, .int .i64 0, .int .i64 0] 92)
  have c0 := (Joins.cell_of_block b0 0).trans rfl
  have c1 := (Joins.cell_of_block b0 1).trans rfl
  have c2 := (Joins.cell_of_block b0 2).trans rfl
  have c3 := (Joins.cell_of_block b0 3).trans rfl
  exact bodyPost_ret (v := .agg #[.int .i64 0, .int .i64 0, .int .i64 0, .int .i64 0]) (by simp [results, Tryz.results46, go_sem, c0, c1, c2, c3]) rfl ⟨rfl, sbox1 _ _⟩

set_option maxHeartbeats 400000 in
theorem grLay_no {w : World} {d : Option Addr} (h : GrNone w d) (k : Int) (v : Value) :
    Calls Tryz.prog 242 #[.pointer d, .int .u8 k, v] w fun e w' => e = .returned (.tuple #[.int .i64 0, .int .i64 1]) ∧ Below w.heap.size w w' := by
  have H := Lib.hid fun w' (hb : Below w.heap.size w w') => grMade_no (h.below hb)
  clear h
  go_enter Tryz.func242, Tryz.ntmps242
  go_wp2_with fail
  refine (H.out _ (by first | exact Below.refl _ _ | exact sbox1 _ _ | exact sbox2 _ _ _)).mono ?_; rintro e w1 ⟨rfl, rfl⟩
  go_wp2
  go_ret2
  exact ⟨rfl, by first | exact Below.refl _ _ | exact sbox1 _ _ | exact sbox2 _ _ _⟩

set_option maxHeartbeats 400000 in
theorem grRead_no {w : World} {d : Option Addr} (h : GrNone w d) (k : Int) :
    Calls Tryz.prog 121 #[.pointer d, .int .i64 k] w fun e w' => e = .returned (.tuple #[.int .u8 0, .slice none 0 0, .int .i64 1]) ∧ Below w.heap.size w w' := by
  have H := Lib.hid fun w' (hb : Below w.heap.size w w') => grMade_no (h.below hb)
  clear h
  go_enter Tryz.func121, Tryz.ntmps121
  go_wp2_with fail
  refine (H.out _ (by first | exact Below.refl _ _ | exact sbox1 _ _ | exact sbox2 _ _ _)).mono ?_; rintro e w1 ⟨rfl, rfl⟩
  go_wp2
  exact bodyPost_ret (v := .tuple #[.int .u8 0, .slice none 0 0, .int .i64 1]) (by simp [results, Tryz.results121, go_sem]) rfl ⟨rfl, by first | exact Below.refl _ _ | exact sbox1 _ _ | exact sbox2 _ _ _⟩

set_option maxHeartbeats 400000 in
theorem grDrop_no {w : World} {d : Option Addr} (h : GrNone w d) (k : Int) :
    Calls Tryz.prog 232 #[.pointer d, .int .i64 k] w fun e w' => e = .returned (.int .i64 1) ∧ Below w.heap.size w w' := by
  have H := Lib.hid fun w' (hb : Below w.heap.size w w') => grMade_no (h.below hb)
  clear h
  go_enter Tryz.func232, Tryz.ntmps232
  go_wp2_with fail
  refine (H.out _ (by first | exact Below.refl _ _ | exact sbox1 _ _ | exact sbox2 _ _ _)).mono ?_; rintro e w1 ⟨rfl, rfl⟩
  go_wp2
  go_ret
  exact ⟨rfl, by first | exact Below.refl _ _ | exact sbox1 _ _ | exact sbox2 _ _ _⟩

set_option maxHeartbeats 400000 in
theorem grCommit_no {w : World} {d : Option Addr} (h : GrNone w d) (r n d2 : Int) :
    Calls Tryz.prog 67 #[.pointer d, .int .i64 r, .int .i64 n, .int .i64 d2] w fun e w' => e = .returned (.int .i64 1) ∧ Below w.heap.size w w' := by
  have H := Lib.hid fun w' (hb : Below w.heap.size w w') => grMade_no (h.below hb)
  clear h
  go_enter Tryz.func67, Tryz.ntmps67
  go_wp2_with fail
  refine (H.out _ (by first | exact Below.refl _ _ | exact sbox1 _ _ | exact sbox2 _ _ _)).mono ?_; rintro e w1 ⟨rfl, rfl⟩
  go_wp2
  go_ret
  exact ⟨rfl, by first | exact Below.refl _ _ | exact sbox1 _ _ | exact sbox2 _ _ _⟩

set_option maxHeartbeats 400000 in
theorem grAbort_no {w : World} {d : Option Addr} (h : GrNone w d) :
    Calls Tryz.prog 68 #[.pointer d] w fun e w' => e = .returned (.int .i64 1) ∧ Below w.heap.size w w' := by
  have H := Lib.hid fun w' (hb : Below w.heap.size w w') => grMade_no (h.below hb)
  clear h
  go_enter Tryz.func68, Tryz.ntmps68
  go_wp2_with fail
  refine (H.out _ (by first | exact Below.refl _ _ | exact sbox1 _ _ | exact sbox2 _ _ _)).mono ?_; rintro e w1 ⟨rfl, rfl⟩
  go_wp2
  go_ret
  exact ⟨rfl, by first | exact Below.refl _ _ | exact sbox1 _ _ | exact sbox2 _ _ _⟩

set_option maxHeartbeats 400000 in
theorem grPin_no {w : World} {d : Option Addr} (h : GrNone w d) :
    Calls Tryz.prog 66 #[.pointer d] w fun e w' => e = .returned (.tuple #[.int .i64 0, .int .i64 1]) ∧ Below w.heap.size w w' := by
  have H := Lib.hid fun w' (hb : Below w.heap.size w w') => grMade_no (h.below hb)
  clear h
  go_enter Tryz.func66, Tryz.ntmps66
  go_wp2_with fail
  refine (H.out _ (by first | exact Below.refl _ _ | exact sbox1 _ _ | exact sbox2 _ _ _)).mono ?_; rintro e w1 ⟨rfl, rfl⟩
  go_wp2
  go_ret2
  exact ⟨rfl, by first | exact Below.refl _ _ | exact sbox1 _ _ | exact sbox2 _ _ _⟩

set_option maxHeartbeats 400000 in
theorem grUnpin_no {w : World} {d : Option Addr} (h : GrNone w d) (k : Int) :
    Calls Tryz.prog 70 #[.pointer d, .int .i64 k] w fun e w' => e = .returned (.int .i64 1) ∧ Below w.heap.size w w' := by
  have H := Lib.hid fun w' (hb : Below w.heap.size w w') => grMade_no (h.below hb)
  clear h
  go_enter Tryz.func70, Tryz.ntmps70
  go_wp2_with fail
  refine (H.out _ (by first | exact Below.refl _ _ | exact sbox1 _ _ | exact sbox2 _ _ _)).mono ?_; rintro e w1 ⟨rfl, rfl⟩
  go_wp2
  go_ret
  exact ⟨rfl, by first | exact Below.refl _ _ | exact sbox1 _ _ | exact sbox2 _ _ _⟩

set_option maxHeartbeats 400000 in
theorem grFree_no {w : World} {d : Option Addr} (h : GrNone w d) :
    Calls Tryz.prog 52 #[.pointer d] w fun e w' => e = .returned (.int .i64 0) ∧ Below w.heap.size w w' := by
  have H := Lib.hid fun w' (hb : Below w.heap.size w w') => grMade_no (h.below hb)
  clear h
  go_enter Tryz.func52, Tryz.ntmps52
  go_wp2_with fail
  refine (H.out _ (by first | exact Below.refl _ _ | exact sbox1 _ _ | exact sbox2 _ _ _)).mono ?_; rintro e w1 ⟨rfl, rfl⟩
  go_wp2
  go_ret
  exact ⟨rfl, by first | exact Below.refl _ _ | exact sbox1 _ _ | exact sbox2 _ _ _⟩

set_option maxHeartbeats 400000 in
theorem grWaiting_no {w : World} {d : Option Addr} (h : GrNone w d) :
    Calls Tryz.prog 51 #[.pointer d] w fun e w' => e = .returned (.int .i64 0) ∧ Below w.heap.size w w' := by
  have H := Lib.hid fun w' (hb : Below w.heap.size w w') => grMade_no (h.below hb)
  clear h
  go_enter Tryz.func51, Tryz.ntmps51
  go_wp2_with fail
  refine (H.out _ (by first | exact Below.refl _ _ | exact sbox1 _ _ | exact sbox2 _ _ _)).mono ?_; rintro e w1 ⟨rfl, rfl⟩
  go_wp2
  go_ret
  exact ⟨rfl, by first | exact Below.refl _ _ | exact sbox1 _ _ | exact sbox2 _ _ _⟩

set_option maxHeartbeats 400000 in
theorem grUsed_no {w : World} {d : Option Addr} (h : GrNone w d) :
    Calls Tryz.prog 50 #[.pointer d] w fun e w' => e = .returned (.int .i64 0) ∧ Below w.heap.size w w' := by
  have H := Lib.hid fun w' (hb : Below w.heap.size w w') => grMade_no (h.below hb)
  clear h
  go_enter Tryz.func50, Tryz.ntmps50
  go_wp2_with fail
  refine (H.out _ (by first | exact Below.refl _ _ | exact sbox1 _ _ | exact sbox2 _ _ _)).mono ?_; rintro e w1 ⟨rfl, rfl⟩
  go_wp2
  go_ret
  exact ⟨rfl, by first | exact Below.refl _ _ | exact sbox1 _ _ | exact sbox2 _ _ _⟩

set_option maxHeartbeats 400000 in
theorem grFormat_no {w : World} {d : Option Addr} (h : Nobody w d) :
    Calls Tryz.prog 43 #[.pointer d] w fun e w' => e = .returned (.int .i64 1) ∧ Below w.heap.size w w' := by
  have H := Lib.hid fun w' (hb : Below w.heap.size w w') => grLen_no (h.below hb)
  clear h
  go_enter Tryz.func43, Tryz.ntmps43
  go_wp2_with fail
  refine (H.out _ (by first | exact Below.refl _ _ | exact sbox1 _ _ | exact sbox2 _ _ _)).mono ?_; rintro e w1 ⟨rfl, rfl⟩
  go_wp2
  go_ret
  exact ⟨rfl, by first | exact Below.refl _ _ | exact sbox1 _ _ | exact sbox2 _ _ _⟩

set_option maxHeartbeats 400000 in
theorem grOpen_no {w : World} {d : Option Addr} (h : Nobody w d) :
    Calls Tryz.prog 44 #[.pointer d] w fun e w' => e = .returned (.tuple #[.pointer none, .int .i64 1]) ∧ Below w.heap.size w w' := by
  have H := Lib.hid fun w' (hb : Below w.heap.size w w') => grLen_no (h.below hb)
  clear h
  go_enter Tryz.func44, Tryz.ntmps44
  go_wp2_with fail
  refine (H.out _ (by first | exact Below.refl _ _ | exact sbox1 _ _ | exact sbox2 _ _ _)).mono ?_; rintro e w1 ⟨rfl, rfl⟩
  go_wp2
  go_ret2
  exact ⟨rfl, by first | exact Below.refl _ _ | exact sbox1 _ _ | exact sbox2 _ _ _⟩

end Go.Proofs.YtngnmakeaniapaaGreatDoor

set_option linter.unusedVariables false
set_option maxRecDepth 100000
namespace Go.Proofs.YtngnmakeaniapaaGreatDoor
open Go.RowKit

/-- A pager. -/
structure PG where
  S : SD
  F : FL
  g : Nat
  r : Nat
  n : Nat
  d : Nat
  L : Int → Bool
  pins : List (Int × Int)
  kept : Bool
  laid : Bool
  failed : Bool

/-- Of maps: these. -/
def isMaps (bs : List Nat) : Nat → Obj → Bool
  | i, .map _ _ => bs.contains i
  | _, _ => false
/-- Of cells: those of this type. -/
def isTy (t : TypeId) : Nat → Obj → Bool
  | _, .cells _ t' _ => t' == t
  | _, _ => false
/-- What a pager's calls may change. -/
def ofGr : Nat → Obj → Bool
  | _, .map _ _ => true
  | _, .cells _ t _ => t == 56 || t == 102 || t == 140 || t == 183
  | _, _ => false

/-- .. of a pager that lies at P: of maps those that are elder than it. -/
def ofGrP (P : Nat) : Nat → Obj → Bool
  | i, .map _ _ => decide (i < P)
  | i, o => ofGr i o
theorem ofGrP_ofGr {P : Nat} (i : Nat) (o : Obj) (h : ofGrP P i o = true) : ofGr i o = true := by
  cases o with
  | map es c => rfl
  | cells c t f => exact h
  | _ => cases h

theorem Keeps.mono {K K' : Nat → Obj → Bool} {w w' : World} (h : Keeps K w w') (hk : ∀ i o, K i o = true → K' i o = true) : Keeps K' w w' :=
  ⟨h.size, fun {i o} h1 h2 => h.stay h1 (by cases h3 : K i o with | false => rfl | true => rw [hk i o h3] at h2; cases h2)⟩
theorem Keeps.of_only {bs : List Nat} {w w' : World} (h : Only bs w w') (hm : ∀ b ∈ bs, ∃ es c, w.heap[b]? = some (.map es c)) : Keeps (isMaps bs) w w' :=
  ⟨h.size, fun {i o} h1 h2 => by
    rw [h.block (Array.getElem?_eq_some_iff.1 h1).1]
    · exact h1
    · intro hb
      obtain ⟨es, c, he⟩ := hm i hb
      rw [h1] at he
      cases he
      simp only [isMaps, List.contains_eq_mem, hb, decide_true] at h2
      cases h2⟩
theorem Keeps.of_grown {w w' : World} {b : Nat} {o : Obj} {K : Nat → Obj → Bool} (h : w.grownBy w' (some b)) (hb : w.heap[b]? = some o) (hK : K b o = true) : Keeps K w w' :=
  Keeps.grown h fun i o' hi h1 => by cases hi; rw [hb] at h1; cases h1; exact hK

theorem ofDisk_ofGr {lm fm : Nat} (i : Nat) (o : Obj) (h : ofDisk lm fm i o = true) : ofGr i o = true := by
  cases o with
  | map es c => rfl
  | cells c t f =>
    simp only [ofDisk, ofGr, Bool.or_eq_true] at h ⊢
    rcases h with h | h <;> simp [h]
  | _ => cases h
theorem isMaps_ofGr {bs : List Nat} (i : Nat) (o : Obj) (h : isMaps bs i o = true) : ofGr i o = true := by
  cases o with
  | map es c => rfl
  | _ => cases h
theorem isPager_ofGr (i : Nat) (o : Obj) (h : isTy 140 i o = true) : ofGr i o = true := by
  cases o with
  | cells c t f =>
    simp only [isTy, ofGr, Bool.or_eq_true] at h ⊢
    simp [h]
  | _ => cases h
theorem isPin_ofGr (i : Nat) (o : Obj) (h : isTy 183 i o = true) : ofGr i o = true := by
  cases o with
  | cells c t f =>
    simp only [isTy, ofGr, Bool.or_eq_true] at h ⊢
    simp [h]
  | _ => cases h

/-- The cells of pins. -/
def pcells (ps : List (Int × Int)) : List Value := ps.flatMap fun x => [.int .i64 x.1, .int .i64 x.2]
theorem pcells_length (ps : List (Int × Int)) : (pcells ps).length = ps.length * 2 := by
  induction ps with
  | nil => rfl
  | cons x ps ih => simp only [pcells, List.flatMap_cons, List.length_append, List.length_cons, List.length_nil] at *; omega

theorem isMaps_ofGrP {P : Nat} {bs : List Nat} (hb : ∀ b ∈ bs, b < P) (i : Nat) (o : Obj) (h : isMaps bs i o = true) : ofGrP P i o = true := by
  cases o with
  | map es c =>
    simp only [isMaps, List.contains_eq_mem, decide_eq_true_eq] at h
    exact decide_eq_true (hb i h)
  | _ => cases h
theorem ofDisk_ofGrP {P lm fm : Nat} (h1 : lm < P) (h2 : fm < P) (i : Nat) (o : Obj) (h : ofDisk lm fm i o = true) : ofGrP P i o = true := by
  cases o with
  | map es c =>
    simp only [ofDisk, Bool.or_eq_true, beq_iff_eq] at h
    refine decide_eq_true ?_
    rcases h with h | h <;> omega
  | cells c t f => exact ofDisk_ofGr i _ h
  | _ => cases h
theorem isPager_ofGrP {P : Nat} (i : Nat) (o : Obj) (h : isTy 140 i o = true) : ofGrP P i o = true := by
  cases o with
  | cells c t f => exact isPager_ofGr i _ h
  | _ => cases h
theorem isPin_ofGrP {P : Nat} (i : Nat) (o : Obj) (h : isTy 183 i o = true) : ofGrP P i o = true := by
  cases o with
  | cells c t f => exact isPin_ofGr i _ h
  | _ => cases h

/-- A set of pages, as a map's. -/
def setOf (L : Int → Bool) : Int → Option Value := fun k => if L k = true then some (.agg #[]) else none

/-- A pager's own block. -/
def grCells (pd pl la : Nat) (v : Value) (X : PG) : Array Value :=
  #[.pointer (some ⟨pd, 0, none⟩), .pointer (some ⟨pl, 0, none⟩), .int .i64 X.g, .int .i64 X.r, .int .i64 X.n, .int .i64 X.d, .map (some la), v, .bool X.kept, .bool X.laid, .bool X.failed]

/-- A pager that lies at P. -/
structure GrIs (w : World) (B P pd lm fm pl um wm la : Nat) (v : Value) (X : PG) : Prop where
  blk : w.heap[P]? = some (.cells (grCells pd pl la v X) 140 (0, 0))
  disk : DiskAt w B pd lm fm X.S
  list : FrIs w pl um wm X.F
  mla : MapSt w la (setOf X.L)
  pins : w.ownsRow B 183 2 v X.pins.length (pcells X.pins)
  bP : B ≤ P
  bu : B ≤ um
  bw : B ≤ wm
  ba : B ≤ la
  nlm : lm ≠ um ∧ lm ≠ wm ∧ lm ≠ la
  nfm : fm ≠ um ∧ fm ≠ wm ∧ fm ≠ la
  nla : la ≠ um ∧ la ≠ wm
  g0 : X.g ≤ 1152921504606846976
  mP : lm < P ∧ fm < P ∧ um < P ∧ wm < P ∧ la < P

def GrAt (w : World) (B P pd : Nat) (X : PG) : Prop := ∃ lm fm pl um wm la v, GrIs w B P pd lm fm pl um wm la v X

/-- What a call leaves. -/
structure GrStep (w w' : World) (B P pd : Nat) (X : PG) : Prop where
  at_ : GrAt w' B P pd X
  below : Below B w w'
  kp : Keeps (ofGrP P) w w'
theorem GrStep.keeps {w w' : World} {B P pd : Nat} {X : PG} (h : GrStep w w' B P pd X) : Keeps ofGr w w' := h.kp.mono ofGrP_ofGr

theorem GrStep.of {w w1 w2 : World} {B P pd : Nat} {X : PG} (hb : Below B w w1) (hk : Keeps (ofGrP P) w w1) (h : GrStep w1 w2 B P pd X) : GrStep w w2 B P pd X := ⟨h.at_, hb.trans h.below, hk.trans h.kp⟩

section
variable {w w' : World} {B P pd lm fm pl um wm la : Nat} {v : Value} {X : PG}

theorem MapSt.keeps {K : Nat → Obj → Bool} {b : Nat} {f : Int → Option Value} (h : MapSt w b f) (hk : Keeps K w w') (hK : ∀ es c, K b (.map es c) = false) : MapSt w' b f := by
  obtain ⟨es, c, hb, hst⟩ := h.st
  exact h.block (by rw [hk.stay hb (hK _ _), hb])
theorem FrIs.keeps {K : Nat → Obj → Bool} {F : FL} (h : FrIs w pl um wm F) (hk : Keeps K w w') (hl : ∀ c, K pl (.cells c 198 (0, 0)) = false) (hu : ∀ es c, K um (.map es c) = false) (hw : ∀ es c, K wm (.map es c) = false) : FrIs w' pl um wm F :=
  ⟨hk.stay h.blk (hl _), h.mu.keeps hk hu, h.mw.keeps hk hw, h.ne, h.ok⟩
theorem DiskAt.keeps {K : Nat → Obj → Bool} {S : SD} (h : DiskAt w B pd lm fm S) (hk : Keeps K w w') (hd : ∀ i c f, K i (.cells c 56 f) = false) (hw : ∀ i c f, K i (.cells c 102 f) = false) (hu : ∀ i c f, K i (.cells c 5 f) = false)
    (h1 : ∀ es c, K lm (.map es c) = false) (h2 : ∀ es c, K fm (.map es c) = false) : DiskAt w' B pd lm fm S := by
  obtain ⟨v, ms, fl, ff, h⟩ := h
  have hs : ∀ {g : Nat} {l : List UInt8}, Sec w g l → Sec w' g l := fun {g l} h => hk.stay h (hu _ _ _)
  have hm : ∀ {m : Nat} {f : Int → Option Value}, MapIs w m f → (∀ es c, K m (.map es c) = false) → MapIs w' m f := fun {m f} h hK => by
    obtain ⟨es, c, hb, hr⟩ := h
    exact ⟨es, c, hk.stay hb (hK _ _), hr⟩
  refine ⟨v, ms, fl, ff, hk.stay h.blk (hd _ _ _), h.hp, h.lb, h.fb, h.ne, h.ws, owns_on h.own fun g c h => hk.stay h (hw _ _ _), fun x hx => hs (h.sec x hx), hm h.ml h1, hm h.mf h2, fun k => ?_, fun k => ?_, h.ok⟩
  · rcases h.ll k with h | ⟨g, h, h'⟩
    · exact .inl h
    · exact .inr ⟨g, h, hs h'⟩
  · rcases h.lf k with h | ⟨g, l, h, h1, h'⟩
    · exact .inl h
    · exact .inr ⟨g, l, h, h1, hs h'⟩
theorem pins_keeps {K : Nat → Obj → Bool} {n : Nat} {xs : List Value} (h : w.ownsRow B 183 2 v n xs) (hk : Keeps K w w') (hK : ∀ i c f, K i (.cells c 183 f) = false) : w'.ownsRow B 183 2 v n xs := by
  refine ⟨h.1, ?_⟩
  rcases h.2 with h0 | ⟨g, cap, cur, hv, h1, hg, h2⟩
  · exact .inl h0
  · exact .inr ⟨g, cap, cur, hv, h1, hk.stay hg (hK _ _ _), h2⟩

theorem GrIs.mUW (h : GrIs w B P pd lm fm pl um wm la v X) : ∀ b ∈ [um, wm], b < P := by
  intro b hb
  simp only [List.mem_cons, List.not_mem_nil, or_false] at hb
  rcases hb with rfl | rfl
  · exact h.mP.2.2.1
  · exact h.mP.2.2.2.1
theorem GrIs.mLa (h : GrIs w B P pd lm fm pl um wm la v X) : ∀ b ∈ [la], b < P := by
  intro b hb
  rw [List.mem_singleton] at hb
  subst hb
  exact h.mP.2.2.2.2
theorem GrIs.base (h : GrIs w B P pd lm fm pl um wm la v X) : B ≤ w.heap.size := h.disk.base
theorem GrAt.base (h : GrAt w B P pd X) : B ≤ w.heap.size := by
  obtain ⟨lm, fm, pl, um, wm, la, v, h⟩ := h
  exact h.base
theorem GrIs.below (h : GrIs w B P pd lm fm pl um wm la v X) (hb : Below w.heap.size w w') : GrIs w' B P pd lm fm pl um wm la v X := by
  obtain ⟨h1, h2, h3, h4, h5, h6, h7, h8, h9, h10, h11, h12, h13, h14⟩ := h
  refine ⟨by rw [hb.block _ (Array.getElem?_eq_some_iff.1 h1).1]; exact h1, h2.below hb, h3.below hb, h4.block (hb.block _ h4.lt), pins_keeps (K := fun _ _ => false) h5 (Keeps.below hb) (fun _ _ _ => rfl), h6, h7, h8, h9, h10, h11, h12, h13, h14⟩
theorem GrAt.below (h : GrAt w B P pd X) (hb : Below w.heap.size w w') : GrAt w' B P pd X := by
  obtain ⟨lm, fm, pl, um, wm, la, v, h⟩ := h
  exact ⟨lm, fm, pl, um, wm, la, v, h.below hb⟩
theorem GrStep.same (h : GrAt w B P pd X) (hb : Below w.heap.size w w') : GrStep w w' B P pd X := ⟨h.below hb, hb.mono h.base, Keeps.below hb⟩

theorem pd_ne (h : GrIs w B P pd lm fm pl um wm la v X) : (∃ es c, w.heap[um]? = some (.map es c)) ∧ (∃ es c, w.heap[wm]? = some (.map es c)) ∧ ∃ es c, w.heap[la]? = some (.map es c) := by
  obtain ⟨e1, c1, h1, _⟩ := h.list.mu.st
  obtain ⟨e2, c2, h2, _⟩ := h.list.mw.st
  obtain ⟨e3, c3, h3, _⟩ := h.mla.st
  exact ⟨⟨_, _, h1⟩, ⟨_, _, h2⟩, _, _, h3⟩

/-- The disk has changed. -/
theorem GrIs.onDisk {S : SD} (h : GrIs w B P pd lm fm pl um wm la v X) (hs : DiskStep w w' B pd lm fm S) : GrIs w' B P pd lm fm pl um wm la v { X with S := S } := by
  have hk := hs.keeps
  have ht : ∀ {b : Nat}, b ≠ lm → b ≠ fm → ∀ es c, ofDisk lm fm b (.map es c) = false := fun {b} h1 h2 es c => by simp [ofDisk, h1, h2]
  refine ⟨hk.stay h.blk rfl, hs.disk, h.list.keeps hk (fun _ => rfl) (ht h.nlm.1.symm h.nfm.1.symm) (ht h.nlm.2.1.symm h.nfm.2.1.symm), h.mla.keeps hk (ht h.nlm.2.2.symm h.nfm.2.2.symm), pins_keeps h.pins hk (fun _ _ _ => rfl), h.bP, h.bu, h.bw, h.ba, h.nlm, h.nfm, h.nla, h.g0, h.mP⟩
theorem GrStep.disk {S : SD} (h : GrIs w B P pd lm fm pl um wm la v X) (hs : DiskStep w w' B pd lm fm S) : GrStep w w' B P pd { X with S := S } :=
  ⟨⟨lm, fm, pl, um, wm, la, v, h.onDisk hs⟩, hs.below, hs.keeps.mono (ofDisk_ofGrP h.mP.1 h.mP.2.1)⟩

/-- The list has changed. -/
theorem GrIs.onList {F : FL} (h : GrIs w B P pd lm fm pl um wm la v X) (hf : FrIs w' pl um wm F) (ho : Only [um, wm] w w') : GrIs w' B P pd lm fm pl um wm la v { X with F := F } ∧ Below B w w' ∧ Keeps (isMaps [um, wm]) w w' := by
  obtain ⟨m1, m2, m3⟩ := pd_ne h
  have hk : Keeps (isMaps [um, wm]) w w' := Keeps.of_only ho fun b hb => by
    simp only [List.mem_cons, List.not_mem_nil, or_false] at hb
    rcases hb with rfl | rfl
    · exact m1
    · exact m2
  have ht : ∀ {b : Nat}, b ≠ um → b ≠ wm → ∀ es c, isMaps [um, wm] b (.map es c) = false := fun {b} h1 h2 es c => by simp [isMaps, h1, h2]
  refine ⟨⟨hk.stay h.blk rfl, h.disk.keeps hk (fun _ _ _ => rfl) (fun _ _ _ => rfl) (fun _ _ _ => rfl) (ht h.nlm.1 h.nlm.2.1) (ht h.nfm.1 h.nfm.2.1), hf, h.mla.keeps hk (ht h.nla.1 h.nla.2), pins_keeps h.pins hk (fun _ _ _ => rfl), h.bP, h.bu, h.bw, h.ba, h.nlm, h.nfm, h.nla, h.g0, h.mP⟩, ho.below h.base ?_, hk⟩
  intro b hb
  simp only [List.mem_cons, List.not_mem_nil, or_false] at hb
  rcases hb with rfl | rfl
  · exact h.bu
  · exact h.bw
theorem GrStep.list {F : FL} (h : GrIs w B P pd lm fm pl um wm la v X) (hf : FrIs w' pl um wm F) (ho : Only [um, wm] w w') : GrStep w w' B P pd { X with F := F } := by
  obtain ⟨h1, h2, h3⟩ := h.onList hf ho
  exact ⟨⟨lm, fm, pl, um, wm, la, v, h1⟩, h2, h3.mono (isMaps_ofGrP h.mUW)⟩

/-- The map of what was laid has changed. -/
theorem GrIs.onLaid {L : Int → Bool} (h : GrIs w B P pd lm fm pl um wm la v X) (hm : MapSt w' la (setOf L)) (hg : w.grownBy w' (some la)) : GrIs w' B P pd lm fm pl um wm la v { X with L := L } ∧ Below B w w' ∧ Keeps (isMaps [la]) w w' := by
  obtain ⟨m1, m2, es, c, m3⟩ := pd_ne h
  have hk : Keeps (isMaps [la]) w w' := Keeps.of_grown hg m3 (by simp [isMaps])
  have ht : ∀ {b : Nat}, b ≠ la → ∀ es c, isMaps [la] b (.map es c) = false := fun {b} h1 es c => by simp [isMaps, h1]
  refine ⟨⟨hk.stay h.blk rfl, h.disk.keeps hk (fun _ _ _ => rfl) (fun _ _ _ => rfl) (fun _ _ _ => rfl) (ht h.nlm.2.2) (ht h.nfm.2.2), h.list.keeps hk (fun _ => rfl) (ht h.nla.1.symm) (ht h.nla.2.symm), hm, pins_keeps h.pins hk (fun _ _ _ => rfl), h.bP, h.bu, h.bw, h.ba, h.nlm, h.nfm, h.nla, h.g0, h.mP⟩, (Below.refl B w).grown hg h.base (fun k hk => by cases hk; exact h.ba), hk⟩
theorem GrStep.laid {L : Int → Bool} (h : GrIs w B P pd lm fm pl um wm la v X) (hm : MapSt w' la (setOf L)) (hg : w.grownBy w' (some la)) : GrStep w w' B P pd { X with L := L } := by
  obtain ⟨h1, h2, h3⟩ := h.onLaid hm hg
  exact ⟨⟨lm, fm, pl, um, wm, la, v, h1⟩, h2, h3.mono (isMaps_ofGrP h.mLa)⟩

/-- The pager's own block has changed, and its pins may have: of their type alone. -/
theorem GrIs.onOwn {v' : Value} {Y : PG} (h : GrIs w B P pd lm fm pl um wm la v X) (hb : w'.heap[P]? = some (.cells (grCells pd pl la v' Y) 140 (0, 0))) (hg : w.grownBy w' (some P)) (hp : w.ownsRow B 183 2 v' Y.pins.length (pcells Y.pins))
    (hS : Y.S = X.S) (hF : Y.F = X.F) (hL : Y.L = X.L) (g0 : Y.g ≤ 1152921504606846976) : GrIs w' B P pd lm fm pl um wm la v' Y ∧ Below B w w' ∧ Keeps (isTy 140) w w' := by
  have hk : Keeps (isTy 140) w w' := Keeps.of_grown hg h.blk (by simp [isTy])
  refine ⟨⟨hb, by rw [hS]; exact h.disk.keeps hk (fun _ _ _ => rfl) (fun _ _ _ => rfl) (fun _ _ _ => rfl) (fun _ _ => rfl) (fun _ _ => rfl), by rw [hF]; exact h.list.keeps hk (fun _ => rfl) (fun _ _ => rfl) (fun _ _ => rfl), by rw [hL]; exact h.mla.keeps hk (fun _ _ => rfl), pins_keeps hp hk (fun _ _ _ => rfl), h.bP, h.bu, h.bw, h.ba, h.nlm, h.nfm, h.nla, g0, h.mP⟩, (Below.refl B w).grown hg h.base (fun k hk => by cases hk; exact h.bP), hk⟩
theorem GrStep.own {v' : Value} {Y : PG} (h : GrIs w B P pd lm fm pl um wm la v X) (hb : w'.heap[P]? = some (.cells (grCells pd pl la v' Y) 140 (0, 0))) (hg : w.grownBy w' (some P)) (hp : w.ownsRow B 183 2 v' Y.pins.length (pcells Y.pins))
    (hS : Y.S = X.S) (hF : Y.F = X.F) (hL : Y.L = X.L) (g0 : Y.g ≤ 1152921504606846976) : GrStep w w' B P pd Y := by
  obtain ⟨h1, h2, h3⟩ := h.onOwn hb hg hp hS hF hL g0
  exact ⟨⟨lm, fm, pl, um, wm, la, v', h1⟩, h2, h3.mono isPager_ofGrP⟩
end

/-- A slice of bytes of a call's own stays while a disk changes. -/
theorem Own.bytes {w : World} {B B' lm fm : Nat} {v : Value} {l : List UInt8} (h : Own w B' v l) {n : Nat} (hn : n = l.length) : ∃ q c, v = .slice q n c ∧ n ≤ c ∧ c ≤ 9223372036854775807 ∧ Bytes w B lm fm q l := by
  obtain ⟨p, c, hv, h1, h2, h3, _⟩ := h.form hn
  refine ⟨p, c, hv, h1, h2, fun w' _ hk => ?_⟩
  have h' : Own w' B' v l := by
    refine ⟨h.1, ?_⟩
    rcases h.2 with h0 | ⟨g, cap, cur, hv, h1, hg, h2⟩
    · exact .inl h0
    · exact .inr ⟨g, cap, cur, hv, h1, hk.stay hg (ofDisk_u8 _ _), h2⟩
  obtain ⟨p', c', hv', _, _, h3', _⟩ := h'.form hn
  rw [hv] at hv'
  cases hv'
  exact h3'
theorem PSec.bytes {w : World} {B lm fm g : Nat} {l : List UInt8} (h : PSec w g l) : Bytes w B lm fm (some ⟨g, 0, none⟩) l := Bytes.sec (show Sec w g l from h)

end Go.Proofs.YtngnmakeaniapaaGreatDoor

set_option linter.unusedVariables false
set_option maxRecDepth 100000
namespace Go.Proofs.YtngnmakeaniapaaGreatDoor
open Go.RowKit

set_option maxHeartbeats 1600000 in
theorem grWrite_gen {w : World} (hT : Tab w) {B pd lm fm : Nat} {g r n d : Nat} (hm : MRight g r n d) {z : Int} {R : World → Prop}
    (HW : ∀ w1 q c, Below w.heap.size w w1 → Bytes w1 B lm fm q (mPage g r n d) → Calls Tryz.prog 115 #[.pointer (some ⟨pd, 0, none⟩), .int .i64 ((g % 2 : Nat) : Int), .slice q 512 c] w1 fun e w' => e = .returned (.int .i64 z) ∧ R w') :
    Calls Tryz.prog 73 #[.pointer (some ⟨pd, 0, none⟩), .agg #[.int .i64 g, .int .i64 r, .int .i64 n, .int .i64 d]] w fun e w' => e = .returned (.int .i64 z) ∧ R w' := by
  have HS : Hid (∀ w1, Below w.heap.size w w1 → Calls Tryz.prog 114 #[.agg #[.int .i64 g, .int .i64 r, .int .i64 n, .int .i64 d]] w1 (MSealPost w1 (mPage g r n d) (g % 2))) := Lib.hid fun w1 hb => mseal_ok (hT.below hT.lt hb) hm
  have HWh := Lib.hid HW
  have HL : Hid (512 = (mPage g r n d).length) := Lib.hid (mPage_length g r n d).symm
  clear hT hm HW
  generalize mPage g r n d = l at *
  generalize g % 2 = no at *
  generalize (g : Int) = g' at *
  generalize (r : Int) = r' at *
  generalize (n : Int) = n' at *
  generalize (d : Int) = d' at *
  go_enter Tryz.func73, Tryz.ntmps73
  go_wp2_with fail
  refine (HS.out _ (sbox1 _ _)).mono ?_; rintro e w1 ⟨v, rfl, ho, hb⟩
  obtain ⟨q, c, rfl, _, _, hby⟩ := ho.bytes (B := B) (lm := lm) (fm := fm) HL.out
  have HB := Lib.hid ((sbox1 w _).trans (hb.mono (sbox1 w _).size))
  have HBY := Lib.hid hby
  clear ho hb hby
  go_wp2_with fail
  refine (HWh.out _ _ _ HB.out HBY.out).mono ?_; rintro e w2 ⟨rfl, hr⟩
  have HR := Lib.hid hr
  clear hr
  go_wp2
  go_ret
  exact ⟨rfl, HR.out⟩

theorem grWrite_ok {w : World} (hT : Tab w) {B pd lm fm : Nat} {S : SD} (h : DiskAt w B pd lm fm S) (h0 : S.left ≠ 0) (hl : -1 ≤ S.left) (hu : S.left ≤ 9223372036854775807) (ho : S.ops ≤ 999999999) (h2 : 2 ≤ S.size) {g r n d : Nat} (hm : MRight g r n d) :
    Calls Tryz.prog 73 #[.pointer (some ⟨pd, 0, none⟩), .agg #[.int .i64 g, .int .i64 r, .int .i64 n, .int .i64 d]] w fun e w' => e = .returned (.int .i64 0) ∧ DiskStep w w' B pd lm fm (S.write ((g % 2 : Nat) : Int) (mPage g r n d)) :=
  grWrite_gen hT hm fun w1 q c hb hby =>
    (write_any (h.below hb) h0 hl hu ho (by omega) (by omega) c hby (mPage_length g r n d).symm (by rw [mPage_length]; omega)).mono fun e w' ⟨he, hs⟩ => ⟨he, DiskStep.of (hb.mono h.base) (Keeps.below hb) hs⟩

theorem grWrite_cut {w : World} (hT : Tab w) {B pd lm fm : Nat} {S : SD} (h : DiskAt w B pd lm fm S) (h0 : S.left = 0) (h2 : 2 ≤ S.size) {g r n d : Nat} (hm : MRight g r n d) :
    Calls Tryz.prog 73 #[.pointer (some ⟨pd, 0, none⟩), .agg #[.int .i64 g, .int .i64 r, .int .i64 n, .int .i64 d]] w fun e w' => e = .returned (.int .i64 17) ∧ Below w.heap.size w w' :=
  grWrite_gen (B := B) (lm := lm) (fm := fm) hT hm fun w1 q c hb hby =>
    (write_cut (h.below hb) h0 (by omega) (by omega) q 512 c (by omega)).mono fun e w' ⟨he, hs⟩ => ⟨he, hb.trans (hs.mono hb.size)⟩

/-- What both ways of mend stand on. -/
structure MendOn (w : World) (pd : Nat) (no : Int) (l : List UInt8) (G R N D E : Nat) : Prop where
  rd : Calls Tryz.prog 75 #[.pointer (some ⟨pd, 0, none⟩), .int .i64 no] w (ReadPost w l)
  op : ∀ w1 g, Below w.heap.size w w1 → Sec w1 g l → Calls Tryz.prog 119 #[.slice (some ⟨g, 0, none⟩) 512 512, .int .i64 no] w1 (MOpPost w1 G R N D E)

theorem SD.Ok.read_len {S : SD} (h : S.Ok) (k : Int) : (S.read k).length = 512 := by
  unfold SD.read
  cases hf : found S.waits k with
  | none => exact h.l k
  | some l => exact found_len h.w hf

theorem mendOn {w : World} (hT : Tab w) {B pd lm fm : Nat} {S : SD} (h : DiskAt w B pd lm fm S) {no : Int} (hno : no = 0 ∨ no = 1) (h2 : 2 ≤ S.size) :
    MendOn w pd no (S.read no) (mG (S.read no) no) (mR (S.read no) no) (mN (S.read no) no) (mD (S.read no) no) (mE (S.read no) no) :=
  ⟨read_any h (k := no) (by omega) (by omega), fun w1 g hb hs => mopen_any (hT.below hT.lt hb) hs.bs (h.ok.read_len no).symm (Nat.le_refl _) (by omega) no⟩

set_option maxHeartbeats 1600000 in
theorem grMend_there {w : World} {pd : Nat} {no : Int} {l : List UInt8} {G R N D E : Nat} (h : MendOn w pd no l G R N D E) (h0 : E = 0) :
    Calls Tryz.prog 77 #[.pointer (some ⟨pd, 0, none⟩), .int .i64 no] w fun e w' => e = .returned (.int .i64 0) ∧ Below w.heap.size w w' := by
  subst h0
  have H := Lib.hid h
  clear h
  go_enter Tryz.func77, Tryz.ntmps77
  go_wp2_with fail
  refine H.out.rd.mono ?_; rintro e w1 ⟨g, rfl, hg, hs, hb1⟩
  have HB1 := Lib.hid hb1
  have HS := Lib.hid hs
  clear hg hs hb1
  go_wp2_with fail
  refine (H.out.op _ _ HB1.out HS.out).mono ?_; rintro e w2 ⟨rfl, hb2⟩
  have HB2 := Lib.hid (HB1.out.trans (hb2.mono HB1.out.size))
  clear hb2
  go_wp2
  go_ret
  exact ⟨rfl, HB2.out.alloc HB2.out.size _⟩

set_option maxHeartbeats 1600000 in
theorem grMend_gen {w : World} {pd : Nat} {no : Int} {l : List UInt8} {G R N D E : Nat} (h : MendOn w pd no l G R N D E) (h0 : E ≠ 0) {R1 R2 : World → Prop}
    (HW : ∀ w1, Below w.heap.size w w1 → Calls Tryz.prog 115 #[.pointer (some ⟨pd, 0, none⟩), .int .i64 no, .slice none 0 0] w1 fun e w' => e = .returned (.int .i64 0) ∧ R1 w')
    (HF : ∀ w1, R1 w1 → Calls Tryz.prog 74 #[.pointer (some ⟨pd, 0, none⟩)] w1 fun e w' => e = .returned (.int .i64 0) ∧ R2 w') :
    Calls Tryz.prog 77 #[.pointer (some ⟨pd, 0, none⟩), .int .i64 no] w fun e w' => e = .returned (.int .i64 0) ∧ R2 w' := by
  have hb : ((E : Int) == 0) = false := by rw [beq_eq_false_iff_ne]; omega
  have H := Lib.hid h
  have HWh := Lib.hid HW
  have HFh := Lib.hid HF
  clear h h0 HW HF
  go_enter Tryz.func77, Tryz.ntmps77
  go_wp2_with fail
  refine H.out.rd.mono ?_; rintro e w1 ⟨g, rfl, hg, hs, hb1⟩
  have HB1 := Lib.hid hb1
  have HS := Lib.hid hs
  clear hg hs hb1
  go_wp2_with fail
  refine (H.out.op _ _ HB1.out HS.out).mono ?_; rintro e w2 ⟨rfl, hb2⟩
  have HB2 := Lib.hid (HB1.out.trans (hb2.mono HB1.out.size))
  clear hb2
  go_wp2_with fail
  refine (HWh.out _ (HB2.out.alloc HB2.out.size _)).mono ?_; rintro e w3 ⟨rfl, h3⟩
  have H3 := Lib.hid h3
  clear h3
  go_wp2_with fail
  refine (HFh.out _ H3.out).mono ?_; rintro e w4 ⟨rfl, h4⟩
  have H4 := Lib.hid h4
  clear h4
  go_wp2
  go_ret
  exact ⟨rfl, H4.out⟩

theorem SD.tick_left {S : SD} (h : S.left = -1) : S.tick.left = -1 := by simp [SD.tick, h]

theorem grMend_mend {w : World} (hT : Tab w) {B pd lm fm : Nat} {S : SD} (h : DiskAt w B pd lm fm S) (hl : S.left = -1) (ho : S.ops ≤ 999999990) {no : Int} (hno : no = 0 ∨ no = 1) (h2 : 2 ≤ S.size) (hE : mE (S.read no) no ≠ 0) :
    Calls Tryz.prog 77 #[.pointer (some ⟨pd, 0, none⟩), .int .i64 no] w fun e w' => e = .returned (.int .i64 0) ∧ DiskStep w w' B pd lm fm (S.write no []).flush :=
  grMend_gen (mendOn hT h hno h2) hE (R1 := fun w1 => DiskStep w w1 B pd lm fm (S.write no []))
    (fun w1 hb => (write_any (h.below hb) (by omega) (by omega) (by omega) (by omega) (by omega) (by omega) 0 (Bytes.nil _ _ _ _ _) rfl (by simp)).mono fun e w' ⟨he, hs⟩ => ⟨he, DiskStep.of (hb.mono h.base) (Keeps.below hb) hs⟩)
    (fun w1 hs => (flush_any hs.disk (by show S.tick.left ≠ 0; rw [SD.tick_left hl]; decide) (by show -1 ≤ S.tick.left; rw [SD.tick_left hl]; decide) (by show S.tick.left ≤ _; rw [SD.tick_left hl]; decide) (by show S.ops + 1 ≤ _; omega)).mono fun e w' ⟨he, hs'⟩ => ⟨he, DiskStep.of hs.below hs.keeps hs'⟩)

end Go.Proofs.YtngnmakeaniapaaGreatDoor

