/-
  graph: all calls of a graph that no call made, and of a store that none made.
-/
import Derived.Test.YtbbgdbnjmonbgabGreatDoorTxNo
import Derived.Test.YtbbgdbnjmonbgabGreatDoorAft
import Derived.Test.YtbbgdbnjmonbgabGreatDoorRName
import Derived.Test.YtbbgdbnjmonbgabGreatDoorPInt
import Derived.Test.YtbbgdbnjmonbgabGreatDoorPText
import Derived.Laws.EntriesVeiled
import Derived.Deep.RegionHeld3
set_option linter.unusedVariables false
set_option maxRecDepth 100000
namespace Go.Proofs.YtbbgdbnjmonbgabGreatDoor
open Go.RowKit

/-- A graph that no call made, or of a store that none made. -/
def GpNone (w : World) (g : Option Addr) : Prop := g = none ∨ ∃ p d, g = some ⟨p, 0, none⟩ ∧ w.cell? ⟨p, 0, none⟩ = some (.pointer d) ∧ GrNone w d
theorem GpNone.below {w w' : World} {g : Option Addr} (h : GpNone w g) (hb : Below w.heap.size w w') : GpNone w' g := by
  rcases h with h | ⟨p, d, h, hc, hd⟩
  · exact .inl h
  · exact .inr ⟨p, d, h, by rw [hb.cell (p := ⟨p, 0, none⟩) (World.block_lt_of_cell? _ _ hc)]; exact hc, hd.below hb⟩

theorem gpBelow_no {w w1 : World} {g : Option Addr} (h : GpNone w g) (hb : Below w.heap.size w w1) :
    Calls Tryz.prog 31 #[.pointer g] w1 fun e w' => ∃ d, e = .returned (.pointer d) ∧ GrNone w d ∧ w1 = w' := by
  rcases h with rfl | ⟨p, d, rfl, hc, hd⟩
  · go_enter Tryz.func31, Tryz.ntmps31
    go_wp2
    go_ret
    exact ⟨none, rfl, .inl rfl, rfl⟩
  · have HD := Lib.hid hd
    have hc1 : w1.cell? ⟨p, 0, none⟩ = some (.pointer d) := by rw [hb.cell (p := ⟨p, 0, none⟩) (World.block_lt_of_cell? _ _ hc)]; exact hc
    clear hd hb hc
    go_enter Tryz.func31, Tryz.ntmps31
    go_wp2
    go_ret
    exact ⟨d, rfl, HD.out, rfl⟩

/-- What a look is done by. -/
theorem sgB_new (w : World) (d : Option Addr) (v : Int) (t : TypeId) (w' : World) (hb : Below (w.alloc (.cells #[.pointer d, .int .i64 v, .func (.func 32) #[] #[]] t)).heap.size (w.alloc (.cells #[.pointer d, .int .i64 v, .func (.func 32) #[] #[]] t)) w') : w'.cell? ⟨w.heap.size, 0, none⟩ = some (.pointer d) ∧ w'.cell? ⟨w.heap.size, 1, none⟩ = some (.int .i64 v) ∧ w'.cell? ⟨w.heap.size, 2, none⟩ = some (.func (.func 32) #[] #[]) := by
  have h := heap_alloc_new w (.cells #[.pointer d, .int .i64 v, .func (.func 32) #[] #[]] t)
  have h' := (hb.block w.heap.size (Array.getElem?_eq_some_iff.1 h).1).trans h
  exact ⟨(Joins.cell_of_block h' 0).trans rfl, (Joins.cell_of_block h' 1).trans rfl, (Joins.cell_of_block h' 2).trans rfl⟩

set_option maxHeartbeats 400000 in
theorem gpLook_no {w : World} {g : Option Addr} (h : GpNone w g) (v : Int) :
    Calls Tryz.prog 14 #[.pointer g, .int .i64 v] w fun e w' => ∃ d, e = .returned (.agg #[.pointer d, .int .i64 v, .func (.func 32) #[] #[]]) ∧ GrNone w' d ∧ Below w.heap.size w w' := by
  have H := Lib.hid fun w' (hb : Below w.heap.size w w') => gpBelow_no h hb
  clear h
  go_enter Tryz.func14, Tryz.ntmps14
  go_wp2_with fail
  refine (H.out _ (by first | exact Below.refl _ _ | exact (Below.refl _ _).drew | exact sbox1 _ _ | exact sbox2 _ _ _ | exact sbox3 _ _ _ _)).mono ?_; rintro e w1 ⟨d, rfl, hd, rfl⟩
  have HD := Lib.hid hd
  clear hd
  go_wp2
  refine bodyPost_ret (results_cell_row rfl _ _ w.heap.size 73 _ (0, 0) _ (by kernel_rfl) (heap_alloc_new w _) Tryz.underlying73 rfl (by kernel_rfl)) rfl ?_
  exact ⟨d, rfl, HD.out.below (sbox1 _ _), sbox1 _ _⟩

set_option maxHeartbeats 400000 in
theorem sgFails (w : World) (a b : Value) :
    Calls Tryz.prog 32 #[a, b] w fun e w' => e = .returned (.tuple #[]) ∧ w = w' := by
  go_enter Tryz.func32, Tryz.ntmps32
  go_wp2
  go_end0
  exact ⟨rfl, rfl⟩

set_option maxHeartbeats 400000 in
theorem sgGet_no {w : World} {d : Option Addr} (h : GrNone w d) (v : Int) (n k : Value) :
    Calls Tryz.prog 54 #[.agg #[.pointer d, .int .i64 v, .func (.func 32) #[] #[]], n, k] w fun e w' => e = .returned (.tuple #[.slice none 0 0, .bool false, .int .i64 1]) ∧ Below w.heap.size w w' := by
  have H := Lib.hid fun w' (hb : Below w.heap.size w w') => txGet_no (h.below hb) v n k
  clear h
  go_enter Tryz.func54, Tryz.ntmps54
  go_wp2_with fail
  refine (H.out _ (by first | exact Below.refl _ _ | exact (Below.refl _ _).drew | exact sbox1 _ _ | exact sbox2 _ _ _ | exact sbox3 _ _ _ _)).mono ?_; rintro e w1 ⟨rfl, hb⟩
  obtain ⟨c0, c1, c2⟩ := sgB_new _ _ _ _ _ hb
  have HB := Lib.hid hb
  clear hb
  have HF := Lib.hid fun (w : World) => sgFails w n k
  go_wp2_with fail
  refine (HF.out _).mono ?_; rintro e w2 ⟨rfl, rfl⟩
  go_wp2
  refine bodyPost_ret (v := .tuple #[.slice none 0 0, .bool false, .int .i64 1]) (by simp [results, Tryz.results54, go_sem]) rfl ?_
  exact ⟨rfl, (by first | exact HB.out | exact (HB.out).drew | exact Below.trans (sbox1 _ _) ((HB.out).mono (sbox1 _ _).size) | exact Below.trans (sbox2 _ _ _) ((HB.out).mono (sbox2 _ _ _).size) | exact Below.trans (sbox3 _ _ _ _) ((HB.out).mono (sbox3 _ _ _ _).size) | exact Below.trans (Below.refl _ _).drew ((HB.out).mono (Below.refl _ _).drew.size))⟩

set_option maxHeartbeats 400000 in
theorem sgBehind_no {w : World} {d : Option Addr} (h : GrNone w d) (v : Int) (n : Value) {q : Option Addr} {l : List UInt8} (hl : Bs w q l) (m c : Nat) (hm : m = l.length) (hmc : m ≤ c) (hc : c ≤ 9223372036854775807) (hlen : l.length ≤ 100000) :
    Calls Tryz.prog 61 #[.agg #[.pointer d, .int .i64 v, .func (.func 32) #[] #[]], n, .slice q m c] w fun e w' => e = .returned (.tuple #[.slice none 0 0, .int .i64 1]) ∧ Below w.heap.size w w' := by
  have H := Lib.hid fun w' (hb : Below w.heap.size w w') (v2 : Value) => txScan_no (h.below hb) v n (.slice q m c) v2 9223372036854775807
  have HA := Lib.hid fun w' (hb : Below w.heap.size w w') => after_any (w := w') (hl.below hb) m c hm hmc hc hlen
  clear h hl hm hmc hc hlen
  go_enter Tryz.func61, Tryz.ntmps61
  go_wp2_with fail
  refine (HA.out _ (by first | exact Below.refl _ _ | exact (Below.refl _ _).drew | exact sbox1 _ _ | exact sbox2 _ _ _ | exact sbox3 _ _ _ _)).mono ?_; rintro e w1 ⟨va, rfl, _, hb⟩
  obtain ⟨c0, c1, c2⟩ := sgB_new _ _ _ _ _ hb
  have HB := Lib.hid hb
  clear hb
  have HF := Lib.hid fun (w : World) => sgFails w n (.slice q m c)
  go_wp2_with fail
  refine (H.out _ ((by first | exact HB.out | exact (HB.out).drew | exact Below.trans (sbox1 _ _) ((HB.out).mono (sbox1 _ _).size) | exact Below.trans (sbox2 _ _ _) ((HB.out).mono (sbox2 _ _ _).size) | exact Below.trans (sbox3 _ _ _ _) ((HB.out).mono (sbox3 _ _ _ _).size) | exact Below.trans (Below.refl _ _).drew ((HB.out).mono (Below.refl _ _).drew.size))) va).mono ?_; rintro e w2 ⟨rfl, hb2⟩
  have HB2 := Lib.hid (HB.out.trans (hb2.mono HB.out.size))
  obtain ⟨c0, c1, c2⟩ := sgB_new _ _ _ _ _ HB2.out
  clear hb2
  go_wp2_with fail
  refine (HF.out _).mono ?_; rintro e w3 ⟨rfl, rfl⟩
  go_wp2
  go_ret2
  exact ⟨rfl, (by first | exact HB2.out | exact (HB2.out).drew | exact Below.trans (sbox1 _ _) ((HB2.out).mono (sbox1 _ _).size) | exact Below.trans (sbox2 _ _ _) ((HB2.out).mono (sbox2 _ _ _).size) | exact Below.trans (sbox3 _ _ _ _) ((HB2.out).mono (sbox3 _ _ _ _).size) | exact Below.trans (Below.refl _ _).drew ((HB2.out).mono (Below.refl _ _).drew.size))⟩

theorem stay3 {w : World} {R : Nat} {x0 x1 x2 : Value} {t : TypeId} {a b c : Value} (h : w.heap[R]? = some (.cells #[x0, x1, x2] t (0, 0))) :
    (((w.setCell ⟨R, 0, none⟩ a).setCell ⟨R, 1, none⟩ b).setCell ⟨R, 2, none⟩ c).heap[R]? = some (.cells #[a, b, c] t (0, 0)) := by
  simp [World.setCell, Array.getElem?_modify, h]
theorem stay5 {w : World} {R : Nat} {x0 x1 x2 x3 x4 : Value} {t : TypeId} {a b c d e : Value} (h : w.heap[R]? = some (.cells #[x0, x1, x2, x3, x4] t (0, 0))) :
    (((((w.setCell ⟨R, 0, none⟩ a).setCell ⟨R, 1, none⟩ b).setCell ⟨R, 2, none⟩ c).setCell ⟨R, 3, none⟩ d).setCell ⟨R, 4, none⟩ e).heap[R]? = some (.cells #[a, b, c, d, e] t (0, 0)) := by
  simp [World.setCell, Array.getElem?_modify, h]

theorem two_heap (w : World) (a b : Obj) : ((w.alloc a).alloc b).heap[w.heap.size + 1]? = some b := by
  have h := heap_alloc_new (w.alloc a) b
  rwa [show (w.alloc a).heap.size = w.heap.size + 1 by simp] at h

theorem results_cell_tmp2 {fn : Func} {p t u : Tmp} {ty : TypeId} (h : fn.results = #[.cell p ty, .tmp t, .tmp u]) (tmps : Array Value) (w : World) (g : Nat) (tt : TypeId) (cs : Array Value) (fr : Nat × Nat) {fs : Array Field}
    (hp : tmps.getD p undef = .pointer (some ⟨g, 0, none⟩)) (hg : w.heap[g]? = some (.cells cs tt fr))
    (hu : Tryz.prog.underlying ty = some (.struct fs)) (hi : (Tryz.prog.info? ty).map (·.size) = some cs.size) :
    (results fn tmps).run Tryz.prog w = .ok (.tuple #[.agg cs, tmps.getD t undef, tmps.getD u undef]) w := by
  have hp' : tmps[p]?.getD undef = .pointer (some ⟨g, 0, none⟩) := by simpa using hp
  simp [results, h, hp', asAddr, run_loadVar_row w g tt ty cs fr _ hg hu rfl hi, Result.andThen]

set_option maxHeartbeats 400000 in
theorem numberKey_any {w : World} (m : Int) (h1 : -9223372036854775808 ≤ m) (h2 : m ≤ 9223372036854775807) :
    Calls Tryz.prog 47 #[.int .i64 m] w (PutPost w (be8 (inKey m))) := by
  have H := Lib.hid (putInt_any (w := w) (Bs.nil w none) 0 0 rfl (Nat.le_refl _) (by omega) (by simp) m h1 h2)
  clear h1 h2
  go_enter Tryz.func47, Tryz.ntmps47
  go_wp2_with fail
  refine H.out.mono ?_; rintro e w1 ⟨x, rfl, ho, hb⟩
  go_wp2
  go_ret
  exact ⟨x, rfl, by simpa using ho, hb⟩

set_option maxHeartbeats 400000 in
theorem labelKey_any {w : World} (s : ByteArray) (hs : s.size ≤ 100000) :
    Calls Tryz.prog 51 #[.string s] w (PutPost w (txt s.data.toList)) := by
  have H := Lib.hid (putText_any (w := w) (Bs.nil w none) 0 0 rfl (Nat.le_refl _) (by omega) (by simp) s _ rfl hs)
  clear hs
  go_enter Tryz.func51, Tryz.ntmps51
  go_wp2_with fail
  refine H.out.mono ?_; rintro e w1 ⟨x, rfl, ho, hb⟩
  go_wp2
  go_ret
  exact ⟨x, rfl, by simpa using ho, hb⟩

set_option maxHeartbeats 400000 in
theorem ruleKey_Aa {w : World} :
    Calls Tryz.prog 53 #[.string ⟨#[65]⟩, .string ⟨#[97]⟩] w fun e w' => ∃ x, e = .returned x ∧ Below w.heap.size w w' := by
  have hA : nameOk ⟨#[65]⟩ = true := by decide +kernel
  have ha : nameOk ⟨#[97]⟩ = true := by decide +kernel
  have HN1 := Lib.hid (name_any (w := w) ⟨#[65]⟩ (by decide))
  have HN2 := Lib.hid (name_any (w := w) ⟨#[97]⟩ (by decide))
  rw [hA] at HN1
  rw [ha] at HN2
  have HL := Lib.hid (labelKey_any (w := w) ⟨#[65]⟩ (by decide))
  clear hA ha
  go_enter Tryz.func53, Tryz.ntmps53
  go_wp2_with fail
  refine HN1.out.mono ?_; rintro e w1 ⟨rfl, rfl⟩
  go_wp2_with fail
  refine HN2.out.mono ?_; rintro e w1 ⟨rfl, rfl⟩
  go_wp2_with fail
  refine HL.out.mono ?_; rintro e w1 ⟨x, rfl, ho, hb⟩
  obtain ⟨q, c, rfl, h1, h2, h3, _⟩ := ho.form rfl
  have HP := Lib.hid (putText_any h3 _ c rfl h1 h2 (by decide +kernel) ⟨#[97]⟩ _ rfl (by decide))
  have HB := Lib.hid hb
  clear ho h1 h2 h3 hb
  generalize (txt _).length = nn at *
  go_wp2_with fail
  refine HP.out.mono ?_; rintro e w2 ⟨x, rfl, _, hb2⟩
  have HB2 := Lib.hid (HB.out.trans (hb2.mono HB.out.size))
  clear hb2
  go_wp2
  go_ret
  exact ⟨x, rfl, HB2.out⟩

set_option maxHeartbeats 1600000 in
theorem oneNode_no {w : World} {d : Option Addr} (h : GrNone w d) (v : Int) (n : Value) (m : Int) (h1 : -9223372036854775808 ≤ m) (h2 : m ≤ 9223372036854775807) (rd : Value) :
    Calls Tryz.prog 44 #[.agg #[.pointer d, .int .i64 v, .func (.func 32) #[] #[]], n, .int .i64 m, rd] w fun e w' => e = .returned (.tuple #[.agg #[.int .i64 0, .slice none 0 0, .slice none 0 0], .bool false, .int .i64 1]) ∧ Below w.heap.size w w' := by
  obtain ⟨W, hW⟩ : ∃ W, W = ((w.alloc (.cells #[.pointer d, .int .i64 v, .func (.func 32) #[] #[]] 73)).alloc (.cells #[.int .i64 0, .slice none 0 0, .slice none 0 0] 47)).alloc (.cells #[.int .i64 0, .slice none 0 0, .slice none 0 0] 47) := ⟨_, rfl⟩
  have hbW : Below w.heap.size w W := by rw [hW]; exact sbox3 _ _ _ _
  obtain ⟨q0, q1, q2, hws⟩ := sbox3_heap w (.cells #[.pointer d, .int .i64 v, .func (.func 32) #[] #[]] 73) (.cells #[.int .i64 0, .slice none 0 0, .slice none 0 0] 47) (.cells #[.int .i64 0, .slice none 0 0, .slice none 0 0] 47)
  rw [← hW] at q0 q1 q2 hws
  have HX : Hid (∀ w', Below W.heap.size W w' → w'.cell? ⟨w.heap.size, 0, none⟩ = some (.pointer d) ∧ w'.cell? ⟨w.heap.size, 1, none⟩ = some (.int .i64 v) ∧ w'.cell? ⟨w.heap.size, 2, none⟩ = some (.func (.func 32) #[] #[])) := Lib.hid fun w' hb => by
    have h' := (hb.block w.heap.size (Array.getElem?_eq_some_iff.1 q0).1).trans q0
    exact ⟨(Joins.cell_of_block h' 0).trans rfl, (Joins.cell_of_block h' 1).trans rfl, (Joins.cell_of_block h' 2).trans rfl⟩
  have HY : Hid (∀ w', Below W.heap.size W w' → w'.heap[w.heap.size + 1]? = some (.cells #[.int .i64 0, .slice none 0 0, .slice none 0 0] 47 (0, 0)) ∧ w'.heap[w.heap.size + 1 + 1]? = some (.cells #[.int .i64 0, .slice none 0 0, .slice none 0 0] 47 (0, 0))) := Lib.hid fun w' hb => ⟨(hb.block _ (Array.getElem?_eq_some_iff.1 q1).1).trans q1, (hb.block _ (Array.getElem?_eq_some_iff.1 q2).1).trans q2⟩
  have H := Lib.hid fun w' (hb : Below W.heap.size W w') (k : Value) => sgGet_no (h.below (hbW.trans (hb.mono hbW.size))) v n k
  have HK := Lib.hid fun w' => numberKey_any (w := w') m h1 h2
  have HBW := Lib.hid hbW
  clear h h1 h2 q0 q1 q2 hws hbW
  go_enter Tryz.func44, Tryz.ntmps44
  go_wp2_with fail
  rw [← hW]
  clear hW
  go_region_held3 (fun w' => w'.cell? ⟨w.heap.size, 0, none⟩ = some (.pointer d) ∧ w'.cell? ⟨w.heap.size, 1, none⟩ = some (.int .i64 v) ∧ w'.cell? ⟨w.heap.size, 2, none⟩ = some (.func (.func 32) #[] #[]))
    (with_reducible first | exact HX.out _ HB2.out | exact HX.out _ HB1.out | exact HX.out _ (Below.refl _ _).drew | exact HX.out _ (Below.refl _ _))
    (first
      | (go_at_call 47; refine (HK.out _).mono ?_; rintro e w1 ⟨x, rfl, _, hb⟩; have HB1 : Hid (Below W.heap.size W w1) := Lib.hid ((Below.refl W.heap.size W).drew.trans (hb.mono (Below.refl W.heap.size W).drew.size)); clear hb)
      | (go_at_call 54; refine (H.out _ HB1.out x).mono ?_; rintro e w2 ⟨rfl, hb⟩; have HB2 : Hid (Below W.heap.size W w2) := Lib.hid (HB1.out.trans (hb.mono HB1.out.size)); clear hb)
      | fail)
  obtain ⟨y1, y2⟩ := HY.out _ HB2.out
  clear HK H
  have z0 := (Joins.cell_of_block y2 0).trans rfl
  have z1 := (Joins.cell_of_block y2 1).trans rfl
  have z2 := (Joins.cell_of_block y2 2).trans rfl
  have x0 := Joins.unfrozen_of_block y1 0
  have v0 := (Joins.cell_of_block y1 0).trans rfl
  have x1 := Joins.unfrozen_of_block y1 1
  have v1 := (Joins.cell_of_block y1 1).trans rfl
  have x2 := Joins.unfrozen_of_block y1 2
  have v2 := (Joins.cell_of_block y1 2).trans rfl
  clear y2
  have HY1 := Lib.hid y1
  clear y1
  go_wp2
  refine bodyPost_ret (results_cell_tmp2 rfl _ _ (w.heap.size + 1) 47 #[.int .i64 0, .slice none 0 0, .slice none 0 0] (0, 0) (by kernel_rfl) (by exact stay3 HY1.out) Tryz.underlying47 (by kernel_rfl)) rfl ?_
  exact ⟨rfl, by repeat (first | exact HBW.out.trans (HB2.out.mono HBW.out.size) | refine Below.setCell ?_ (by show w.heap.size ≤ w.heap.size + 1; omega) _)⟩

set_option maxHeartbeats 1600000 in
theorem oneEdge_no {w : World} {d : Option Addr} (h : GrNone w d) (v : Int) (n : Value) (m : Int) (h1 : -9223372036854775808 ≤ m) (h2 : m ≤ 9223372036854775807) (rd : Value) :
    Calls Tryz.prog 45 #[.agg #[.pointer d, .int .i64 v, .func (.func 32) #[] #[]], n, .int .i64 m, rd] w fun e w' => e = .returned (.tuple #[.agg #[.int .i64 0, .string ⟨#[]⟩, .int .i64 0, .int .i64 0, .slice none 0 0], .bool false, .int .i64 1]) ∧ Below w.heap.size w w' := by
  obtain ⟨W, hW⟩ : ∃ W, W = ((w.alloc (.cells #[.pointer d, .int .i64 v, .func (.func 32) #[] #[]] 73)).alloc (.cells #[.int .i64 0, .string ⟨#[]⟩, .int .i64 0, .int .i64 0, .slice none 0 0] 51)).alloc (.cells #[.int .i64 0, .string ⟨#[]⟩, .int .i64 0, .int .i64 0, .slice none 0 0] 51) := ⟨_, rfl⟩
  have hbW : Below w.heap.size w W := by rw [hW]; exact sbox3 _ _ _ _
  obtain ⟨q0, q1, q2, hws⟩ := sbox3_heap w (.cells #[.pointer d, .int .i64 v, .func (.func 32) #[] #[]] 73) (.cells #[.int .i64 0, .string ⟨#[]⟩, .int .i64 0, .int .i64 0, .slice none 0 0] 51) (.cells #[.int .i64 0, .string ⟨#[]⟩, .int .i64 0, .int .i64 0, .slice none 0 0] 51)
  rw [← hW] at q0 q1 q2 hws
  have HX : Hid (∀ w', Below W.heap.size W w' → w'.cell? ⟨w.heap.size, 0, none⟩ = some (.pointer d) ∧ w'.cell? ⟨w.heap.size, 1, none⟩ = some (.int .i64 v) ∧ w'.cell? ⟨w.heap.size, 2, none⟩ = some (.func (.func 32) #[] #[])) := Lib.hid fun w' hb => by
    have h' := (hb.block w.heap.size (Array.getElem?_eq_some_iff.1 q0).1).trans q0
    exact ⟨(Joins.cell_of_block h' 0).trans rfl, (Joins.cell_of_block h' 1).trans rfl, (Joins.cell_of_block h' 2).trans rfl⟩
  have HY : Hid (∀ w', Below W.heap.size W w' → w'.heap[w.heap.size + 1]? = some (.cells #[.int .i64 0, .string ⟨#[]⟩, .int .i64 0, .int .i64 0, .slice none 0 0] 51 (0, 0)) ∧ w'.heap[w.heap.size + 1 + 1]? = some (.cells #[.int .i64 0, .string ⟨#[]⟩, .int .i64 0, .int .i64 0, .slice none 0 0] 51 (0, 0))) := Lib.hid fun w' hb => ⟨(hb.block _ (Array.getElem?_eq_some_iff.1 q1).1).trans q1, (hb.block _ (Array.getElem?_eq_some_iff.1 q2).1).trans q2⟩
  have H := Lib.hid fun w' (hb : Below W.heap.size W w') (k : Value) => sgGet_no (h.below (hbW.trans (hb.mono hbW.size))) v n k
  have HK := Lib.hid fun w' => numberKey_any (w := w') m h1 h2
  have HBW := Lib.hid hbW
  clear h h1 h2 q0 q1 q2 hws hbW
  go_enter Tryz.func45, Tryz.ntmps45
  go_wp2_with fail
  rw [← hW]
  clear hW
  go_region_held3 (fun w' => w'.cell? ⟨w.heap.size, 0, none⟩ = some (.pointer d) ∧ w'.cell? ⟨w.heap.size, 1, none⟩ = some (.int .i64 v) ∧ w'.cell? ⟨w.heap.size, 2, none⟩ = some (.func (.func 32) #[] #[]))
    (with_reducible first | exact HX.out _ HB2.out | exact HX.out _ HB1.out | exact HX.out _ (Below.refl _ _).drew | exact HX.out _ (Below.refl _ _))
    (first
      | (go_at_call 47; refine (HK.out _).mono ?_; rintro e w1 ⟨x, rfl, _, hb⟩; have HB1 : Hid (Below W.heap.size W w1) := Lib.hid ((Below.refl W.heap.size W).drew.trans (hb.mono (Below.refl W.heap.size W).drew.size)); clear hb)
      | (go_at_call 54; refine (H.out _ HB1.out x).mono ?_; rintro e w2 ⟨rfl, hb⟩; have HB2 : Hid (Below W.heap.size W w2) := Lib.hid (HB1.out.trans (hb.mono HB1.out.size)); clear hb)
      | fail)
  obtain ⟨y1, y2⟩ := HY.out _ HB2.out
  clear HK H
  have z0 := (Joins.cell_of_block y2 0).trans rfl
  have z1 := (Joins.cell_of_block y2 1).trans rfl
  have z2 := (Joins.cell_of_block y2 2).trans rfl
  have z3 := (Joins.cell_of_block y2 3).trans rfl
  have z4 := (Joins.cell_of_block y2 4).trans rfl
  have x0 := Joins.unfrozen_of_block y1 0
  have v0 := (Joins.cell_of_block y1 0).trans rfl
  have x1 := Joins.unfrozen_of_block y1 1
  have v1 := (Joins.cell_of_block y1 1).trans rfl
  have x2 := Joins.unfrozen_of_block y1 2
  have v2 := (Joins.cell_of_block y1 2).trans rfl
  have x3 := Joins.unfrozen_of_block y1 3
  have v3 := (Joins.cell_of_block y1 3).trans rfl
  have x4 := Joins.unfrozen_of_block y1 4
  have v4 := (Joins.cell_of_block y1 4).trans rfl
  clear y2
  have HY1 := Lib.hid y1
  clear y1
  go_wp2
  refine bodyPost_ret (results_cell_tmp2 rfl _ _ (w.heap.size + 1) 51 #[.int .i64 0, .string ⟨#[]⟩, .int .i64 0, .int .i64 0, .slice none 0 0] (0, 0) (by kernel_rfl) (by exact stay5 HY1.out) Tryz.underlying51 (by kernel_rfl)) rfl ?_
  exact ⟨rfl, by repeat (first | exact HBW.out.trans (HB2.out.mono HBW.out.size) | refine Below.setCell ?_ (by show w.heap.size ≤ w.heap.size + 1; omega) _)⟩

set_option maxHeartbeats 400000 in
theorem sgNode_no {w : World} {d : Option Addr} (h : GrNone w d) (v m : Int) (h1 : -9223372036854775808 ≤ m) (h2 : m ≤ 9223372036854775807) :
    Calls Tryz.prog 19 #[.agg #[.pointer d, .int .i64 v, .func (.func 32) #[] #[]], .int .i64 m] w fun e w' => e = .returned (.tuple #[.agg #[.int .i64 0, .slice none 0 0, .slice none 0 0], .bool false, .int .i64 1]) ∧ Below w.heap.size w w' := by
  have H := Lib.hid fun w' (hb : Below w.heap.size w w') (n rd : Value) => oneNode_no (h.below hb) v n m h1 h2 rd
  clear h h1 h2
  go_enter Tryz.func19, Tryz.ntmps19
  go_wp2_with fail
  refine (H.out _ (by first | exact Below.refl _ _ | exact (Below.refl _ _).drew | exact sbox1 _ _ | exact sbox2 _ _ _ | exact sbox3 _ _ _ _) _ _).mono ?_; rintro e w1 ⟨rfl, hb⟩
  have y1 := (hb.block _ (Array.getElem?_eq_some_iff.1 (two_heap w _ _)).1).trans (two_heap w _ _)
  have HY1 := Lib.hid y1
  have x0 := Joins.unfrozen_of_block y1 0
  have v0 := (Joins.cell_of_block y1 0).trans rfl
  have x1 := Joins.unfrozen_of_block y1 1
  have v1 := (Joins.cell_of_block y1 1).trans rfl
  have x2 := Joins.unfrozen_of_block y1 2
  have v2 := (Joins.cell_of_block y1 2).trans rfl
  have HB : Hid (Below w.heap.size w w1) := Lib.hid (by first | exact hb | exact (hb).drew | exact Below.trans (sbox1 _ _) ((hb).mono (sbox1 _ _).size) | exact Below.trans (sbox2 _ _ _) ((hb).mono (sbox2 _ _ _).size) | exact Below.trans (sbox3 _ _ _ _) ((hb).mono (sbox3 _ _ _ _).size) | exact Below.trans (Below.refl _ _).drew ((hb).mono (Below.refl _ _).drew.size))
  clear hb y1
  go_wp2
  refine bodyPost_ret (results_cell_tmp2 rfl _ _ (w.heap.size + 1) 47 #[.int .i64 0, .slice none 0 0, .slice none 0 0] (0, 0) (by kernel_rfl) (by exact stay3 HY1.out) Tryz.underlying47 (by kernel_rfl)) rfl ?_
  exact ⟨rfl, by repeat (first | exact HB.out | refine Below.setCell ?_ (by show w.heap.size ≤ w.heap.size + 1; omega) _)⟩

set_option maxHeartbeats 400000 in
theorem sgEdge_no {w : World} {d : Option Addr} (h : GrNone w d) (v m : Int) (h1 : -9223372036854775808 ≤ m) (h2 : m ≤ 9223372036854775807) :
    Calls Tryz.prog 20 #[.agg #[.pointer d, .int .i64 v, .func (.func 32) #[] #[]], .int .i64 m] w fun e w' => e = .returned (.tuple #[.agg #[.int .i64 0, .string ⟨#[]⟩, .int .i64 0, .int .i64 0, .slice none 0 0], .bool false, .int .i64 1]) ∧ Below w.heap.size w w' := by
  have H := Lib.hid fun w' (hb : Below w.heap.size w w') (n rd : Value) => oneEdge_no (h.below hb) v n m h1 h2 rd
  clear h h1 h2
  go_enter Tryz.func20, Tryz.ntmps20
  go_wp2_with fail
  refine (H.out _ (by first | exact Below.refl _ _ | exact (Below.refl _ _).drew | exact sbox1 _ _ | exact sbox2 _ _ _ | exact sbox3 _ _ _ _) _ _).mono ?_; rintro e w1 ⟨rfl, hb⟩
  have y1 := (hb.block _ (Array.getElem?_eq_some_iff.1 (two_heap w _ _)).1).trans (two_heap w _ _)
  have HY1 := Lib.hid y1
  have x0 := Joins.unfrozen_of_block y1 0
  have v0 := (Joins.cell_of_block y1 0).trans rfl
  have x1 := Joins.unfrozen_of_block y1 1
  have v1 := (Joins.cell_of_block y1 1).trans rfl
  have x2 := Joins.unfrozen_of_block y1 2
  have v2 := (Joins.cell_of_block y1 2).trans rfl
  have x3 := Joins.unfrozen_of_block y1 3
  have v3 := (Joins.cell_of_block y1 3).trans rfl
  have x4 := Joins.unfrozen_of_block y1 4
  have v4 := (Joins.cell_of_block y1 4).trans rfl
  have HB : Hid (Below w.heap.size w w1) := Lib.hid (by first | exact hb | exact (hb).drew | exact Below.trans (sbox1 _ _) ((hb).mono (sbox1 _ _).size) | exact Below.trans (sbox2 _ _ _) ((hb).mono (sbox2 _ _ _).size) | exact Below.trans (sbox3 _ _ _ _) ((hb).mono (sbox3 _ _ _ _).size) | exact Below.trans (Below.refl _ _).drew ((hb).mono (Below.refl _ _).drew.size))
  clear hb y1
  go_wp2
  refine bodyPost_ret (results_cell_tmp2 rfl _ _ (w.heap.size + 1) 51 #[.int .i64 0, .string ⟨#[]⟩, .int .i64 0, .int .i64 0, .slice none 0 0] (0, 0) (by kernel_rfl) (by exact stay5 HY1.out) Tryz.underlying51 (by kernel_rfl)) rfl ?_
  exact ⟨rfl, by repeat (first | exact HB.out | refine Below.setCell ?_ (by show w.heap.size ≤ w.heap.size + 1; omega) _)⟩

end Go.Proofs.YtbbgdbnjmonbgabGreatDoor
