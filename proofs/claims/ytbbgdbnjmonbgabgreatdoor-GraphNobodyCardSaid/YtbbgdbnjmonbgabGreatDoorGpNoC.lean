/-
  graph: all calls of a graph that no call made.
-/
import Derived.Test.YtbbgdbnjmonbgabGreatDoorGpNoB
set_option linter.unusedVariables false
set_option maxRecDepth 100000
namespace Go.Proofs.YtbbgdbnjmonbgabGreatDoor
open Go.RowKit

theorem stay2 {w : World} {R : Nat} {x0 x1 : Value} {t : TypeId} {a b : Value} (h : w.heap[R]? = some (.cells #[x0, x1] t (0, 0))) :
    ((w.setCell ⟨R, 0, none⟩ a).setCell ⟨R, 1, none⟩ b).heap[R]? = some (.cells #[a, b] t (0, 0)) := by
  simp [World.setCell, Array.getElem?_modify, h]
theorem results_cell_tmp {fn : Func} {p t : Tmp} {ty : TypeId} (h : fn.results = #[.cell p ty, .tmp t]) (tmps : Array Value) (w : World) (g : Nat) (tt : TypeId) (cs : Array Value) (fr : Nat × Nat) {fs : Array Field}
    (hp : tmps.getD p undef = .pointer (some ⟨g, 0, none⟩)) (hg : w.heap[g]? = some (.cells cs tt fr))
    (hu : Tryz.prog.underlying ty = some (.struct fs)) (hi : (Tryz.prog.info? ty).map (·.size) = some cs.size) :
    (results fn tmps).run Tryz.prog w = .ok (.tuple #[.agg cs, tmps.getD t undef]) w := by
  have hp' : tmps[p]?.getD undef = .pointer (some ⟨g, 0, none⟩) := by simpa using hp
  simp [results, h, hp', asAddr, run_loadVar_row w g tt ty cs fr _ hg hu rfl hi, Result.andThen]

set_option maxHeartbeats 400000 in
theorem gpNew (w : World) (d : Option Addr) :
    Calls Tryz.prog 4 #[.pointer d] w fun e w' => e = .returned (.pointer (some ⟨w.heap.size, 0, none⟩)) ∧ w' = w.alloc (.cells #[.pointer d] 35) := by
  go_enter Tryz.func4, Tryz.ntmps4
  go_wp2
  go_ret
  exact ⟨rfl, rfl⟩

set_option maxHeartbeats 1600000 in
theorem gpNode_no {w : World} {g : Option Addr} (h : GpNone w g) (v : Int) (m : Int) (h1 : -9223372036854775808 ≤ m) (h2 : m ≤ 9223372036854775807) :
    Calls Tryz.prog 6 #[.pointer g, .int .i64 v, .int .i64 m] w fun e w' => e = .returned (.tuple #[.agg #[.int .i64 0, .slice none 0 0, .slice none 0 0], .bool false, .int .i64 1]) ∧ Below w.heap.size w w' := by
  have H := Lib.hid fun w' (hb : Below w.heap.size w w') => gpLook_no (h.below hb) v
  have H1 := Lib.hid h1
  have H2 := Lib.hid h2
  clear h h1 h2
  go_enter Tryz.func6, Tryz.ntmps6
  go_wp2_with fail
  refine (H.out _ (by first | exact Below.refl _ _ | exact (Below.refl _ _).drew | exact sbox1 _ _ | exact sbox2 _ _ _ | exact sbox3 _ _ _ _)).mono ?_; rintro e w1 ⟨d, rfl, hd, hb⟩
  have HY := Lib.hid ((hb.block _ (Array.getElem?_eq_some_iff.1 (heap_alloc_new w _)).1).trans (heap_alloc_new w _))
  have HB : Hid (Below w.heap.size w w1) := Lib.hid (by first | exact hb | exact (hb).drew | exact Below.trans (sbox1 _ _) ((hb).mono (sbox1 _ _).size) | exact Below.trans (sbox2 _ _ _) ((hb).mono (sbox2 _ _ _).size) | exact Below.trans (sbox3 _ _ _ _) ((hb).mono (sbox3 _ _ _ _).size) | exact Below.trans (Below.refl _ _).drew ((hb).mono (Below.refl _ _).drew.size))
  have HD := Lib.hid hd
  clear hb hd
  go_wp2_with fail
  refine (sgNode_no HD.out v m H1.out H2.out).mono ?_; rintro e w2 ⟨rfl, hb⟩
  have y1 := (hb.block _ (Array.getElem?_eq_some_iff.1 HY.out).1).trans HY.out
  have HY1 := Lib.hid y1
  have x0 := Joins.unfrozen_of_block y1 0
  have v0 := (Joins.cell_of_block y1 0).trans rfl
  have x1 := Joins.unfrozen_of_block y1 1
  have v1 := (Joins.cell_of_block y1 1).trans rfl
  have x2 := Joins.unfrozen_of_block y1 2
  have v2 := (Joins.cell_of_block y1 2).trans rfl
  have HB2 : Hid (Below w.heap.size w w2) := Lib.hid (HB.out.trans (hb.mono HB.out.size))
  clear hb y1
  go_wp2
  refine bodyPost_ret (results_cell_tmp2 rfl _ _ w.heap.size 47 #[.int .i64 0, .slice none 0 0, .slice none 0 0] (0, 0) (by kernel_rfl) (by exact stay3 HY1.out) Tryz.underlying47 (by kernel_rfl)) rfl ?_
  exact ⟨rfl, by repeat (first | exact HB2.out | refine Below.setCell ?_ (by show w.heap.size ≤ w.heap.size; omega) _)⟩

set_option maxHeartbeats 1600000 in
theorem gpEdge_no {w : World} {g : Option Addr} (h : GpNone w g) (v : Int) (m : Int) (h1 : -9223372036854775808 ≤ m) (h2 : m ≤ 9223372036854775807) :
    Calls Tryz.prog 7 #[.pointer g, .int .i64 v, .int .i64 m] w fun e w' => e = .returned (.tuple #[.agg #[.int .i64 0, .string ⟨#[]⟩, .int .i64 0, .int .i64 0, .slice none 0 0], .bool false, .int .i64 1]) ∧ Below w.heap.size w w' := by
  have H := Lib.hid fun w' (hb : Below w.heap.size w w') => gpLook_no (h.below hb) v
  have H1 := Lib.hid h1
  have H2 := Lib.hid h2
  clear h h1 h2
  go_enter Tryz.func7, Tryz.ntmps7
  go_wp2_with fail
  refine (H.out _ (by first | exact Below.refl _ _ | exact (Below.refl _ _).drew | exact sbox1 _ _ | exact sbox2 _ _ _ | exact sbox3 _ _ _ _)).mono ?_; rintro e w1 ⟨d, rfl, hd, hb⟩
  have HY := Lib.hid ((hb.block _ (Array.getElem?_eq_some_iff.1 (heap_alloc_new w _)).1).trans (heap_alloc_new w _))
  have HB : Hid (Below w.heap.size w w1) := Lib.hid (by first | exact hb | exact (hb).drew | exact Below.trans (sbox1 _ _) ((hb).mono (sbox1 _ _).size) | exact Below.trans (sbox2 _ _ _) ((hb).mono (sbox2 _ _ _).size) | exact Below.trans (sbox3 _ _ _ _) ((hb).mono (sbox3 _ _ _ _).size) | exact Below.trans (Below.refl _ _).drew ((hb).mono (Below.refl _ _).drew.size))
  have HD := Lib.hid hd
  clear hb hd
  go_wp2_with fail
  refine (sgEdge_no HD.out v m H1.out H2.out).mono ?_; rintro e w2 ⟨rfl, hb⟩
  have y1 := (hb.block _ (Array.getElem?_eq_some_iff.1 HY.out).1).trans HY.out
  have HY1 := Lib.hid y1
  have x0 := Joins.unfrozen_of_block y1 0
  have v0 := (Joins.cell_of_block y1 0).trans rfl
  have x1 := Joins.unfrozen_of_block y1 1
  have v1 := (Joins.cell_of_block y1 1).trans rfl
  have x2 := Joins.unfrozen_of_block y1 2
  have v2 := (Joins.cell_of_block y1 2).trans rfl
  have x3 := Joins.unfrozen_of_block y1 3
  have v3 := (Joins.cell_of_block y1 3).trans rfl
  have x4 := Joins.unfrozen_of_block y1 4
  have v4 := (Joins.cell_of_block y1 4).trans rfl
  have HB2 : Hid (Below w.heap.size w w2) := Lib.hid (HB.out.trans (hb.mono HB.out.size))
  clear hb y1
  go_wp2
  refine bodyPost_ret (results_cell_tmp2 rfl _ _ w.heap.size 51 #[.int .i64 0, .string ⟨#[]⟩, .int .i64 0, .int .i64 0, .slice none 0 0] (0, 0) (by kernel_rfl) (by exact stay5 HY1.out) Tryz.underlying51 (by kernel_rfl)) rfl ?_
  exact ⟨rfl, by repeat (first | exact HB2.out | refine Below.setCell ?_ (by show w.heap.size ≤ w.heap.size; omega) _)⟩

set_option maxHeartbeats 1600000 in
theorem gpOut_no {w : World} {g : Option Addr} (h : GpNone w g) (v : Int) (m : Int) (h1 : -9223372036854775808 ≤ m) (h2 : m ≤ 9223372036854775807) :
    Calls Tryz.prog 8 #[.pointer g, .int .i64 v, .int .i64 m] w fun e w' => e = .returned (.tuple #[.slice none 0 0, .int .i64 1]) ∧ Below w.heap.size w w' := by
  have H := Lib.hid fun w' (hb : Below w.heap.size w w') => gpLook_no (h.below hb) v
  have H1 := Lib.hid h1
  have H2 := Lib.hid h2
  clear h h1 h2
  go_enter Tryz.func8, Tryz.ntmps8
  go_wp2_with fail
  refine (H.out _ (by first | exact Below.refl _ _ | exact (Below.refl _ _).drew | exact sbox1 _ _ | exact sbox2 _ _ _ | exact sbox3 _ _ _ _)).mono ?_; rintro e w1 ⟨d, rfl, hd, hb⟩
  have HB : Hid (Below w.heap.size w w1) := Lib.hid (by first | exact hb | exact (hb).drew | exact Below.trans (sbox1 _ _) ((hb).mono (sbox1 _ _).size) | exact Below.trans (sbox2 _ _ _) ((hb).mono (sbox2 _ _ _).size) | exact Below.trans (sbox3 _ _ _ _) ((hb).mono (sbox3 _ _ _ _).size) | exact Below.trans (Below.refl _ _).drew ((hb).mono (Below.refl _ _).drew.size))
  have HD := Lib.hid hd
  clear hb hd
  go_wp2_with fail
  refine (sgSide_no HD.out v _ m H1.out H2.out).mono ?_; rintro e w2 ⟨rfl, hb⟩
  have HB2 : Hid (Below w.heap.size w w2) := Lib.hid (HB.out.trans (hb.mono HB.out.size))
  clear hb
  go_wp2
  go_ret2
  exact ⟨rfl, HB2.out⟩

set_option maxHeartbeats 1600000 in
theorem gpIn_no {w : World} {g : Option Addr} (h : GpNone w g) (v : Int) (m : Int) (h1 : -9223372036854775808 ≤ m) (h2 : m ≤ 9223372036854775807) :
    Calls Tryz.prog 9 #[.pointer g, .int .i64 v, .int .i64 m] w fun e w' => e = .returned (.tuple #[.slice none 0 0, .int .i64 1]) ∧ Below w.heap.size w w' := by
  have H := Lib.hid fun w' (hb : Below w.heap.size w w') => gpLook_no (h.below hb) v
  have H1 := Lib.hid h1
  have H2 := Lib.hid h2
  clear h h1 h2
  go_enter Tryz.func9, Tryz.ntmps9
  go_wp2_with fail
  refine (H.out _ (by first | exact Below.refl _ _ | exact (Below.refl _ _).drew | exact sbox1 _ _ | exact sbox2 _ _ _ | exact sbox3 _ _ _ _)).mono ?_; rintro e w1 ⟨d, rfl, hd, hb⟩
  have HB : Hid (Below w.heap.size w w1) := Lib.hid (by first | exact hb | exact (hb).drew | exact Below.trans (sbox1 _ _) ((hb).mono (sbox1 _ _).size) | exact Below.trans (sbox2 _ _ _) ((hb).mono (sbox2 _ _ _).size) | exact Below.trans (sbox3 _ _ _ _) ((hb).mono (sbox3 _ _ _ _).size) | exact Below.trans (Below.refl _ _).drew ((hb).mono (Below.refl _ _).drew.size))
  have HD := Lib.hid hd
  clear hb hd
  go_wp2_with fail
  refine (sgSide_no HD.out v _ m H1.out H2.out).mono ?_; rintro e w2 ⟨rfl, hb⟩
  have HB2 : Hid (Below w.heap.size w w2) := Lib.hid (HB.out.trans (hb.mono HB.out.size))
  clear hb
  go_wp2
  go_ret2
  exact ⟨rfl, HB2.out⟩

set_option maxHeartbeats 1600000 in
theorem gpRules_no {w : World} {g : Option Addr} (h : GpNone w g) (v : Int) :
    Calls Tryz.prog 13 #[.pointer g, .int .i64 v] w fun e w' => e = .returned (.tuple #[.slice none 0 0, .int .i64 1]) ∧ Below w.heap.size w w' := by
  have H := Lib.hid fun w' (hb : Below w.heap.size w w') => gpLook_no (h.below hb) v
  clear h
  go_enter Tryz.func13, Tryz.ntmps13
  go_wp2_with fail
  refine (H.out _ (by first | exact Below.refl _ _ | exact (Below.refl _ _).drew | exact sbox1 _ _ | exact sbox2 _ _ _ | exact sbox3 _ _ _ _)).mono ?_; rintro e w1 ⟨d, rfl, hd, hb⟩
  have HB : Hid (Below w.heap.size w w1) := Lib.hid (by first | exact hb | exact (hb).drew | exact Below.trans (sbox1 _ _) ((hb).mono (sbox1 _ _).size) | exact Below.trans (sbox2 _ _ _) ((hb).mono (sbox2 _ _ _).size) | exact Below.trans (sbox3 _ _ _ _) ((hb).mono (sbox3 _ _ _ _).size) | exact Below.trans (Below.refl _ _).drew ((hb).mono (Below.refl _ _).drew.size))
  have HD := Lib.hid hd
  clear hb hd
  go_wp2_with fail
  refine (sgRules_no HD.out v).mono ?_; rintro e w2 ⟨rfl, hb⟩
  have HB2 : Hid (Below w.heap.size w w2) := Lib.hid (HB.out.trans (hb.mono HB.out.size))
  clear hb
  go_wp2
  go_ret2
  exact ⟨rfl, HB2.out⟩

set_option maxHeartbeats 1600000 in
theorem gpByLabel_no {w : World} {g : Option Addr} (h : GpNone w g) (v : Int) :
    Calls Tryz.prog 10 #[.pointer g, .int .i64 v, .string ⟨#[65]⟩] w fun e w' => e = .returned (.tuple #[.slice none 0 0, .int .i64 1]) ∧ Below w.heap.size w w' := by
  have H := Lib.hid fun w' (hb : Below w.heap.size w w') => gpLook_no (h.below hb) v
  have hA : nameOk ⟨#[65]⟩ = true := by decide +kernel
  have HN := Lib.hid fun (w' : World) => name_any (w := w') ⟨#[65]⟩ (by decide)
  rw [hA] at HN
  clear h hA
  go_enter Tryz.func10, Tryz.ntmps10
  go_wp2_with fail
  refine (HN.out _).mono ?_; rintro e w1 ⟨rfl, rfl⟩
  go_wp2_with fail
  refine (H.out _ (by first | exact Below.refl _ _ | exact (Below.refl _ _).drew | exact sbox1 _ _ | exact sbox2 _ _ _ | exact sbox3 _ _ _ _)).mono ?_; rintro e w1 ⟨d, rfl, hd, hb⟩
  have HB : Hid (Below w.heap.size w w1) := Lib.hid (by first | exact hb | exact (hb).drew | exact Below.trans (sbox1 _ _) ((hb).mono (sbox1 _ _).size) | exact Below.trans (sbox2 _ _ _) ((hb).mono (sbox2 _ _ _).size) | exact Below.trans (sbox3 _ _ _ _) ((hb).mono (sbox3 _ _ _ _).size) | exact Below.trans (Below.refl _ _).drew ((hb).mono (Below.refl _ _).drew.size))
  have HD := Lib.hid hd
  clear hb hd
  go_wp2_with fail
  refine (sgLabelled_no HD.out v ⟨#[65]⟩ (by decide)).mono ?_; rintro e w2 ⟨rfl, hb⟩
  have HB2 : Hid (Below w.heap.size w w2) := Lib.hid (HB.out.trans (hb.mono HB.out.size))
  clear hb
  go_wp2
  go_ret2
  exact ⟨rfl, HB2.out⟩

set_option maxHeartbeats 1600000 in
theorem gpByProp_no {w : World} {g : Option Addr} (h : GpNone w g) (v : Int) (b0 b1 b2 b3 b4 : Value) :
    Calls Tryz.prog 11 #[.pointer g, .int .i64 v, .string ⟨#[65]⟩, .string ⟨#[97]⟩, .agg #[b0, b1, b2, b3, b4]] w fun e w' => e = .returned (.tuple #[.slice none 0 0, .bool false, .int .i64 1]) ∧ Below w.heap.size w w' := by
  have H := Lib.hid fun w' (hb : Below w.heap.size w w') => gpLook_no (h.below hb) v
  clear h
  go_enter Tryz.func11, Tryz.ntmps11
  go_wp2_with fail
  refine (H.out _ (by first | exact Below.refl _ _ | exact (Below.refl _ _).drew | exact sbox1 _ _ | exact sbox2 _ _ _ | exact sbox3 _ _ _ _)).mono ?_; rintro e w1 ⟨d, rfl, hd, hb⟩
  have HB : Hid (Below w.heap.size w w1) := Lib.hid (by first | exact hb | exact (hb).drew | exact Below.trans (sbox1 _ _) ((hb).mono (sbox1 _ _).size) | exact Below.trans (sbox2 _ _ _) ((hb).mono (sbox2 _ _ _).size) | exact Below.trans (sbox3 _ _ _ _) ((hb).mono (sbox3 _ _ _ _).size) | exact Below.trans (Below.refl _ _).drew ((hb).mono (Below.refl _ _).drew.size))
  have HD := Lib.hid hd
  clear hb hd
  go_wp2_with fail
  refine (sgRule_no (HD.out.below (sbox1 _ _)) v).mono ?_; rintro e w2 ⟨rfl, hb⟩
  have HB2 : Hid (Below w.heap.size w w2) := Lib.hid (HB.out.trans ((Below.trans (sbox1 _ _) (hb.mono (sbox1 _ _).size)).mono HB.out.size))
  clear hb
  go_wp2
  refine bodyPost_ret (v := .tuple #[.slice none 0 0, .bool false, .int .i64 1]) (by simp [results, Tryz.results11, go_sem]) rfl ?_
  exact ⟨rfl, HB2.out⟩

set_option maxHeartbeats 1600000 in
theorem gpAll_no {w : World} {g : Option Addr} (h : GpNone w g) (v : Int) :
    Calls Tryz.prog 12 #[.pointer g, .int .i64 v] w fun e w' => e = .returned (.tuple #[.agg #[.slice none 0 0, .slice none 0 0], .int .i64 1]) ∧ Below w.heap.size w w' := by
  have H := Lib.hid fun w' (hb : Below w.heap.size w w') => gpLook_no (h.below hb) v
  clear h
  go_enter Tryz.func12, Tryz.ntmps12
  go_wp2_with fail
  refine (H.out _ (by first | exact Below.refl _ _ | exact (Below.refl _ _).drew | exact sbox1 _ _ | exact sbox2 _ _ _ | exact sbox3 _ _ _ _)).mono ?_; rintro e w1 ⟨d, rfl, hd, hb⟩
  have HY := Lib.hid ((hb.block _ (Array.getElem?_eq_some_iff.1 (heap_alloc_new w _)).1).trans (heap_alloc_new w _))
  have HB : Hid (Below w.heap.size w w1) := Lib.hid (by first | exact hb | exact (hb).drew | exact Below.trans (sbox1 _ _) ((hb).mono (sbox1 _ _).size) | exact Below.trans (sbox2 _ _ _) ((hb).mono (sbox2 _ _ _).size) | exact Below.trans (sbox3 _ _ _ _) ((hb).mono (sbox3 _ _ _ _).size) | exact Below.trans (Below.refl _ _).drew ((hb).mono (Below.refl _ _).drew.size))
  have HD := Lib.hid hd
  clear hb hd
  go_wp2_with fail
  refine (allNode_no (HD.out.below (sbox1 _ _)) v _ _).mono ?_; rintro e w2 ⟨rfl, hb⟩
  have hb' := Below.trans (sbox1 _ _) (hb.mono (sbox1 _ _).size)
  have y1 := (hb'.block _ (Array.getElem?_eq_some_iff.1 HY.out).1).trans HY.out
  have HY1 := Lib.hid y1
  have x0 := Joins.unfrozen_of_block y1 0
  have v0 := (Joins.cell_of_block y1 0).trans rfl
  have x1 := Joins.unfrozen_of_block y1 1
  have v1 := (Joins.cell_of_block y1 1).trans rfl
  have HB2 : Hid (Below w.heap.size w w2) := Lib.hid (HB.out.trans (hb'.mono HB.out.size))
  clear hb hb' y1
  go_wp2
  refine bodyPost_ret (results_cell_tmp rfl _ _ w.heap.size 63 #[.slice none 0 0, .slice none 0 0] (0, 0) (by kernel_rfl) (by exact stay2 HY1.out) Tryz.underlying63 (by kernel_rfl)) rfl ?_
  exact ⟨rfl, by repeat (first | exact HB2.out | refine Below.setCell ?_ (by show w.heap.size ≤ w.heap.size; omega) _)⟩

set_option maxHeartbeats 3200000 in
theorem gpDo_no {w : World} {g : Option Addr} (h : GpNone w g) (a0 a1 a2 a3 a4 a5 a6 a7 a8 a9 a10 a11 : Value) :
    Calls Tryz.prog 5 #[.pointer g, .agg #[a0, a1, a2, a3, a4, a5, a6, a7, a8, a9, a10, a11]] w fun e w' => e = .returned (.tuple #[.int .i64 0, .int .i64 1]) ∧ Below w.heap.size w w' := by
  obtain ⟨W, hW⟩ : ∃ W, W = w.alloc (.cells #[a0, a1, a2, a3, a4, a5, a6, a7, a8, a9, a10, a11] 31) := ⟨_, rfl⟩
  have hbW : Below w.heap.size w W := by rw [hW]; exact sbox1 _ _
  have q0 := heap_alloc_new w (.cells #[a0, a1, a2, a3, a4, a5, a6, a7, a8, a9, a10, a11] 31)
  rw [← hW] at q0
  have HX : Hid (∀ w', Below W.heap.size W w' → w'.cell? ⟨w.heap.size, 0, none⟩ = some a0 ∧ w'.cell? ⟨w.heap.size, 1, none⟩ = some a1 ∧ w'.cell? ⟨w.heap.size, 2, none⟩ = some a2 ∧ w'.cell? ⟨w.heap.size, 3, none⟩ = some a3 ∧ w'.cell? ⟨w.heap.size, 4, none⟩ = some a4 ∧ w'.cell? ⟨w.heap.size, 5, none⟩ = some a5 ∧ w'.cell? ⟨w.heap.size, 6, none⟩ = some a6 ∧ w'.cell? ⟨w.heap.size, 7, none⟩ = some a7 ∧ w'.cell? ⟨w.heap.size, 8, none⟩ = some a8 ∧ w'.cell? ⟨w.heap.size, 9, none⟩ = some a9 ∧ w'.cell? ⟨w.heap.size, 10, none⟩ = some a10 ∧ w'.cell? ⟨w.heap.size, 11, none⟩ = some a11) := Lib.hid fun w' hb => by
    have h' := (hb.block w.heap.size (Array.getElem?_eq_some_iff.1 q0).1).trans q0
    exact ⟨(Joins.cell_of_block h' 0).trans rfl, (Joins.cell_of_block h' 1).trans rfl, (Joins.cell_of_block h' 2).trans rfl, (Joins.cell_of_block h' 3).trans rfl, (Joins.cell_of_block h' 4).trans rfl, (Joins.cell_of_block h' 5).trans rfl, (Joins.cell_of_block h' 6).trans rfl, (Joins.cell_of_block h' 7).trans rfl, (Joins.cell_of_block h' 8).trans rfl, (Joins.cell_of_block h' 9).trans rfl, (Joins.cell_of_block h' 10).trans rfl, (Joins.cell_of_block h' 11).trans rfl⟩
  have H := Lib.hid fun w' (hb : Below W.heap.size W w') => gpLook_no (h.below (hbW.trans (hb.mono hbW.size))) 0
  have HBW := Lib.hid hbW
  clear h hbW q0
  go_enter Tryz.func5, Tryz.ntmps5
  go_wp2_with fail
  rw [← hW]
  clear hW
  go_region_held3 (fun w' => w'.cell? ⟨w.heap.size, 0, none⟩ = some a0 ∧ w'.cell? ⟨w.heap.size, 1, none⟩ = some a1 ∧ w'.cell? ⟨w.heap.size, 2, none⟩ = some a2 ∧ w'.cell? ⟨w.heap.size, 3, none⟩ = some a3 ∧ w'.cell? ⟨w.heap.size, 4, none⟩ = some a4 ∧ w'.cell? ⟨w.heap.size, 5, none⟩ = some a5 ∧ w'.cell? ⟨w.heap.size, 6, none⟩ = some a6 ∧ w'.cell? ⟨w.heap.size, 7, none⟩ = some a7 ∧ w'.cell? ⟨w.heap.size, 8, none⟩ = some a8 ∧ w'.cell? ⟨w.heap.size, 9, none⟩ = some a9 ∧ w'.cell? ⟨w.heap.size, 10, none⟩ = some a10 ∧ w'.cell? ⟨w.heap.size, 11, none⟩ = some a11)
    (with_reducible first | exact HX.out _ HB1.out | exact HX.out _ (Below.refl _ _).drew | exact HX.out _ (Below.refl _ _) | exact HX.out _ (HB1.out.alloc HB1.out.size _))
    (first
      | (go_at_call 14; (first | refine (H.out _ (Below.refl _ _)).mono ?_ | refine (H.out _ (Below.refl _ _).drew).mono ?_); rintro e w1 ⟨d, rfl, hd, hb⟩; have HB1 : Hid (Below W.heap.size W w1) := Lib.hid (by first | exact hb | exact (Below.refl W.heap.size W).drew.trans (hb.mono (Below.refl W.heap.size W).drew.size)); have HD := Lib.hid hd; clear hb hd)
      | fail)
  go_wp2_with fail
  refine (txSave_no (HD.out.below (by first | exact sbox1 _ _ | exact Below.refl _ _ | exact (Below.refl _ _).drew | exact (sbox1 _ _).drew))).mono ?_; rintro e w2 ⟨rfl, hb⟩
  have HB2 : Hid (Below w.heap.size w w2) := Lib.hid (HBW.out.trans ((HB1.out.trans (Below.mono (show Below w1.heap.size w1 w2 from by first | exact Below.trans (sbox1 _ _) (hb.mono (sbox1 _ _).size) | exact hb) HB1.out.size)).mono HBW.out.size))
  clear hb
  go_wp2
  go_ret2
  exact ⟨rfl, HB2.out⟩

end Go.Proofs.YtbbgdbnjmonbgabGreatDoor
