/-
  What a law's own memory stays.
  pager.
  cobweblaw10.holds.
  append of a slice that lies an.
  slices.Sorted(maps.Keys(m)) of.
  tree.
  tree.
  tree.Put of the empty tree.
-/
import Derived.Test.YtbbgdbnjmonbgaaGreatDoorH00
import Derived.Test.YtbbgdbnjmonbgaaGreatDoorH25
import Derived.Test.YtbbgdbnjmonbgaaGreatDoorSrtLay
import Derived.Test.YtbbgdbnjmonbgaaGreatDoorH23
import Derived.Test.YtbbgdbnjmonbgaaGreatDoorH24
import Derived.Test.YtbbgdbnjmonbgaaGreatDoorH22
import Derived.BigQuiet
import Derived.Shelf.SlIterI.Nil
import Derived.Shelf.SortM.Plain
import Derived.Shelf.SortM.SortNone
import Derived.Deep.RegionHeld3
set_option linter.unusedVariables false
set_option maxRecDepth 100000
namespace Go.Proofs.YtbbgdbnjmonbgaaGreatDoor
open Go.RowKit
structure Stay (B : Nat) (w w' : World) : Prop where
 size : w.heap.size ≤ w'.heap.size
 stay : ∀ {i : Nat} {o : Obj}, i < B → w.heap[i]? = some o → ofGr i o = false → w'.heap[i]? = some o
theorem Stay.keeps {B : Nat} {w w' : World} (h : Keeps ofGr w w') : Stay B w w' := ⟨h.size, fun _ h1 h2 => h.stay h1 h2⟩
theorem Stay.below {B : Nat} {w w' : World} (h : Below w.heap.size w w') : Stay B w w' := Stay.keeps (Keeps.below h)
def Lie (B : Nat) (w : World) (v : Value) (l : List Int) : Prop := ∃ q c, v = .slice q l.length c ∧ l.length ≤ c ∧ c ≤ 9223372036854775807 ∧ ∀ i x, l[i]? = some x → ∃ b o cs fr, q = some ⟨b, o, none⟩ ∧ b < B ∧ w.heap[b]? = some (.cells cs 3 fr) ∧ cs[o + i]? = some (.int .i64 x)
theorem ofGr_int (i : Nat) (c : Array Value) (f : Nat × Nat) : ofGr i (.cells c 3 f) = false := by
 show ((3 : TypeId) == 78 || (3 : TypeId) == 140 || (3 : TypeId) == 92 || (3 : TypeId) == 123) = false
 decide
theorem Lie.stay {B : Nat} {w w' : World} {v : Value} {l : List Int} (h : Lie B w v l) (hs : Stay B w w') : Lie B w' v l := by
 obtain ⟨q, c, hv, hc, hm, h1⟩ := h
 refine ⟨q, c, hv, hc, hm, fun i x hx => ?_⟩
 obtain ⟨b, o, cs, fr, h2, h3, h4, h5⟩ := h1 i x hx
 exact ⟨b, o, cs, fr, h2, h3, hs.stay h3 h4 (ofGr_int _ _ _), h5⟩
theorem Lie.at {B : Nat} {w : World} {q : Option Addr} {n c : Nat} {l : List Int} (h : Lie B w (.slice q n c) l) {i : Nat} {x : Int} (hx : l[i]? = some x) : ∃ b o, q = some ⟨b, o, none⟩ ∧ w.cell? ⟨b, o + i, none⟩ = some (.int .i64 x) := by
 obtain ⟨q', c', hv, _, _, h1⟩ := h
 cases hv
 obtain ⟨b, o, cs, fr, h2, _, h4, h5⟩ := h1 i x hx
 exact ⟨b, o, h2, by rw [jC h4]; exact h5⟩
theorem OwnI.keepsG {w w' : World} {B : Nat} {v : Value} {l : List Int} (h : OwnI w B v l) (hk : Keeps ofGr w w') : OwnI w' B v l := by
 refine ⟨h.1, ?_⟩
 rcases h.2 with h0 | ⟨g, cap, cur, hv, h1, hg, h2⟩
 ·
  exact .inl h0
 ·
  exact .inr ⟨g, cap, cur, hv, h1, hk.stay hg (ofGr_int _ _ _), h2⟩
theorem OwnI.block {w : World} {B : Nat} {v : Value} {l : List Int} (h : OwnI w B v l) {b : Nat} (hb : v.ownBlock = some b) : B ≤ b ∧ ∃ cur, w.heap[b]? = some (.cells cur 3 (0, 0)) := by
 rcases h.2 with ⟨rfl, _⟩ | ⟨g, cap, cur, rfl, h1, h2, _⟩
 ·
  cases hb
 ·
  cases hb
  exact ⟨h1, _, h2⟩
end Go.Proofs.YtbbgdbnjmonbgaaGreatDoor

set_option linter.unusedVariables false
set_option maxRecDepth 100000
namespace Go.Proofs.YtbbgdbnjmonbgaaGreatDoor
open Go.RowKit
def FL.takes (F : FL) (l : List Int) : FL := l.foldl FL.take F
section
variable {w w' : World} {B P pd lm fm pl um wm la : Nat} {v : Value} {X : PG}
end
end Go.Proofs.YtbbgdbnjmonbgaaGreatDoor

set_option linter.unusedVariables false
set_option maxRecDepth 100000
namespace Go.Proofs.YtbbgdbnjmonbgaaGreatDoor
open Go.RowKit
end Go.Proofs.YtbbgdbnjmonbgaaGreatDoor

set_option linter.unusedVariables false
set_option maxRecDepth 100000
namespace Go.Proofs.YtbbgdbnjmonbgaaGreatDoor
open Go.RowKit
theorem run_append_onto_none {P : Program} {w : World} (base : Nat) (t ty e : TypeId) (i : TypeInfo) (size c : Nat) (ht : P.underlying t = some (.slice e)) (hi : P.info? e = some i)
  (v : Value) (n : Nat) (xs : List Value) (hown : w.ownsRow base e size v n xs) :
  (Builtin.append_ #[t, t] ty #[v, .slice none 0 c]).run P w = .ok v w := by
 rcases hown.2 with ⟨rfl, rfl⟩ | ⟨g, cap, cur, rfl, _, _, hnc, _⟩
 ·
  simp [Builtin.append_, run_underlying ht, sizeOf, typeInfo, hi, Builtin.lenOf, Builtin.firstCells]
 ·
  simp [Builtin.append_, run_underlying ht, sizeOf, typeInfo, hi, Builtin.lenOf, Builtin.firstCells, hnc, storeCells]
theorem OwnI.made {w : World} {B : Nat} (hB : B ≤ w.heap.size) : OwnI (w.alloc (.cells #[] 3)) B (.slice (some ⟨w.heap.size, 0, none⟩) 0 0) [] :=
 ⟨rfl, .inr ⟨_, 0, #[], rfl, hB, heap_alloc_new w _, Nat.le_refl 0, by unfold maxLen; omega, rfl, rfl⟩⟩
end Go.Proofs.YtbbgdbnjmonbgaaGreatDoor

set_option linter.unusedVariables false
set_option linter.unusedSimpArgs false
set_option maxRecDepth 100000
namespace Go.Proofs.YtbbgdbnjmonbgaaGreatDoor
open Go.RowKit Go.Maps Go.Sort Go.Shelf Go.MapKept
theorem srt_sorts (m : Nat) : AnyZI.SortsIn Tryz.prog Tryz.sortedA_ren Fence.wide m :=
  ⟨fun blk off cap ss W hH hblk hsz => callsIn_wide.2 (AnyM.slices_Sort_int Tryz.sortA blk off cap ss W hH hblk hsz),
   fun p cap W => callsIn_wide.2 (AnyM.slices_Sort_int_none Tryz.sortA p cap W)⟩
def rset : Value → Option (DataW Unit × List MemPlace) := fun _ => some (.lit (.bool false), [])
theorem sub_len : ∀ {l m : List Nat}, l.Nodup → (∀ a ∈ l, a ∈ m) → l.length ≤ m.length
  | [], _, _, _ => Nat.zero_le _
  | a :: l, m, h, hs => by
    rw [List.nodup_cons] at h
    have ha := hs a (by simp)
    have := sub_len (l := l) (m := m.erase a) h.2 fun b hb => (List.mem_erase_of_ne (show b ≠ a from fun e => h.1 (by rw [← e]; exact hb))).2 (hs b (by simp [hb]))
    rw [List.length_erase_of_mem ha] at this
    have := List.length_pos_of_mem ha
    simp only [List.length_cons]
    omega
theorem nodup_len {l : List Int} (h : l.Nodup) (hb : ∀ k ∈ l, 0 ≤ k ∧ k < 4096) : l.length ≤ 4096 := by
  have h1 : (l.map Int.toNat).Nodup := by
    rw [List.nodup_iff_pairwise_ne, List.pairwise_map]
    refine (List.nodup_iff_pairwise_ne.1 h).imp_of_mem ?_
    intro a b ha hb' hne e
    have := hb a ha
    have := hb b hb'
    omega
  have h2 : ∀ x ∈ l.map Int.toNat, x ∈ List.range 4096 := by
    intro x hx
    obtain ⟨k, hk, rfl⟩ := List.mem_map.1 hx
    have := hb k hk
    rw [List.mem_range]
    omega
  have := sub_len h1 h2
  simpa using this
def kz (e : MapEntry) : Int := match e.key with | .int _ k => k | _ => 0
theorem ownsMap_set {w : World} {b : Nat} {L : Int → Bool} (h : MapSt w b (setOf L)) (hL : ∀ k, L k = true → 0 ≤ k ∧ k < 4096) :
    ∃ nn D0, w.ownsMap Tryz.prog 3 rset b nn D0 ∧ (intKeys D0).Nodup ∧ (∀ k, k ∈ intKeys D0 ↔ L k = true) ∧ Maps.size D0 ≤ 4096 := by
  obtain ⟨⟨es, clock, hb, hk, hnd, hf⟩, es2, clock2, hb2, hst⟩ := h
  rw [hb] at hb2
  cases hb2
  have hkey : ∀ e ∈ es.toList, e.key = .int .i64 (kz e) ∧ L (kz e) = true := by
    intro e he
    have h1 := hk e he
    obtain ⟨k, hkk⟩ : ∃ k, e.key = .int .i64 k := by
      cases hx : e.key with
      | int q k =>
        rw [hx] at h1
        exact ⟨k, by rw [show q = .i64 from h1]⟩
      | _ => rw [hx] at h1; cases h1
    have e2 : kz e = k := by unfold kz; rw [hkk]
    rw [e2]
    refine ⟨hkk, ?_⟩
    have h3 := (hf k e.val).2 ⟨e, he, hkk, rfl⟩
    unfold setOf at h3
    split at h3
    · assumption
    · cases h3
  have hkz : (es.toList.map kz).Nodup := by
    rw [List.nodup_iff_pairwise_ne, List.pairwise_map] at hnd ⊢
    refine hnd.imp_of_mem ?_
    intro x y hx hy hne e
    apply hne
    rw [(hkey x hx).1, (hkey y hy).1, e]
  have hmem : ∀ k, k ∈ es.toList.map kz ↔ L k = true := by
    intro k
    rw [List.mem_map]
    constructor
    · rintro ⟨e, he, rfl⟩
      exact (hkey e he).2
    · intro hk
      obtain ⟨e, he, h1, _⟩ := (hf k (.agg #[])).1 (by unfold setOf; rw [if_pos hk])
      exact ⟨e, he, by unfold kz; rw [h1]⟩
  have hlen : es.toList.length ≤ 4096 := by
    have := nodup_len hkz (fun k hk => hL k ((hmem k).1 hk))
    simpa using this
  have hrd : ∀ x ∈ es.toList, WideElems.rd Tryz.prog 3 rset x = some (.int .i64 (kz x), .lit (.bool false)) := by
    intro x hx
    obtain ⟨h1, h2⟩ := hkey x hx
    have h3 := hL _ h2
    unfold WideElems.rd rset
    rw [h1, Maps.keyOf_int_mk Tryz.underlying3 (by
      have q1 : IntKind.i64.min = -9223372036854775808 := rfl
      have q2 : IntKind.i64.max = 9223372036854775807 := rfl
      simp only [Lit.wf, Bool.and_eq_true, decide_eq_true_eq]
      omega)]
    rfl
  have hrg : es.toList.map (WideElems.rg Tryz.prog 3 rset) = es.toList.map fun x => ((.int .i64 (kz x), .lit (.bool false)) : Lit × DataW Unit) := List.map_congr_left fun x hx => by
    unfold WideElems.rg
    rw [hrd x hx]
    rfl
  have hperm : (intKeys (DataW.map ((es.toList.map (WideElems.rg Tryz.prog 3 rset)).foldr DataW.insert []))).Perm (es.toList.map kz) := by
    have h1 := (Go.WideShapes.sorted_perm (es.toList.map (WideElems.rg Tryz.prog 3 rset))).map fun p : Lit × DataW Unit => Go.intOf p.1
    refine h1.trans ?_
    rw [hrg, List.map_map]
    exact List.Perm.of_eq (List.map_congr_left fun x hx => rfl)
  refine ⟨es.size, _, ⟨es, clock, hb, ⟨?_, ⟨hst.2, hst.1, hnd⟩, fun x hx => ⟨_, hrd x hx⟩⟩, Nat.le_refl _, rfl⟩, hperm.nodup_iff.2 hkz, fun k => hperm.mem_iff.trans (hmem k), ?_⟩
  · unfold maxLen
    rw [← Array.length_toList]
    omega
  · show ((es.toList.map (WideElems.rg Tryz.prog 3 rset)).foldr DataW.insert []).length ≤ 4096
    rw [(Go.WideShapes.sorted_perm _).length_eq, List.length_map]
    omega
theorem trSorted_any {w : World} {bm sm : Nat} {t : TypeId} {fr : Nat × Nat} {L : Int → Bool} (hb : w.heap[bm]? = some (.cells #[.map (some sm)] t fr)) (hm : MapSt w sm (setOf L)) (hL : ∀ k, L k = true → 0 ≤ k ∧ k < 4096) :
    Calls Tryz.prog 48 #[.func (.func 88) #[] #[.pointer (some ⟨bm, 0, none⟩)]] w fun e w' => ∃ v l, e = .returned v ∧ OwnI w' w.heap.size v l ∧ l.Nodup ∧ (∀ k, k ∈ l ↔ L k = true) ∧ Below w.heap.size w w' := by
  obtain ⟨nn, D0, ho, hnd, hmem, hsz⟩ := ownsMap_set hm hL
  have hseq : SeqGives Fence.wide 2 Tryz.prog 88 #[.pointer (some ⟨bm, 0, none⟩)] encZ (fun ss => ss.Perm (intKeys D0)) (Maps.size D0) w :=
    AnyZI.keys_gives (ρ := Tryz.keysA_ren) { Tryz.keysA with } Fence.wide _ trivial rfl (by omega) bm sm nn D0 w (aL hb) ((jC hb 0).trans rfl) ho
  have cS := AnyZI.sorted_in Tryz.sortedA Fence.wide 5 trivial trivial trivial trivial rfl (by omega) (srt_sorts _) (enters_of Tryz.func87 (by kernel_rfl) rfl) 88 #[.pointer (some ⟨bm, 0, none⟩)] trivial (enters_of Tryz.func88 (by kernel_rfl) rfl) _ _ (by unfold maxLen; omega) (by omega) _ hseq
  change CallsIn _ _ Tryz.prog 48 _ _ _ at cS
  refine ((callsIn_wide (n := 5)).1 cS).mono ?_
  rintro e w' ⟨v, ss, rfl, hS, hrow, _, hbl⟩
  have hp := (List.mergeSort_perm ss (fun x y => decide (x ≤ y))).trans hS
  refine ⟨v, ss.mergeSort (fun x y => decide (x ≤ y)), rfl, ?_, hp.nodup_iff.2 hnd, fun k => hp.mem_iff.trans (hmem k), hbl⟩
  have hl : (ss.mergeSort (fun x y => decide (x ≤ y))).length = ss.length := (List.mergeSort_perm ss _).length_eq
  unfold OwnI
  rw [hl]
  exact hrow
end Go.Proofs.YtbbgdbnjmonbgaaGreatDoor

set_option linter.unusedVariables false
set_option linter.unusedSimpArgs false
set_option maxRecDepth 100000
namespace Go.Proofs.YtbbgdbnjmonbgaaGreatDoor
open Go.RowKit
def ofTr (n0 P : Nat) : Nat → Obj → Bool := fun i o => decide (n0 ≤ i) || ofGrP P i o
theorem ofGrP_ofTr {n0 P : Nat} (i : Nat) (o : Obj) (h : ofGrP P i o = true) : ofTr n0 P i o = true := by unfold ofTr; rw [h]; simp
section
variable {w w' : World} {B P pd sm cb : Nat} {X Y : PG} {seen : Int → Bool} {val : Kb} {fv lv : Value}
theorem CBx.gr (h : CBx w cb P sm val fv lv) (hk : Keeps (ofGrP P) w w') : CBx w' cb P sm val fv lv := hk.stay h rfl
theorem OwnI.keepsP {v : Value} {l : List Int} (h : OwnI w B v l) (hk : Keeps (ofGrP P) w w') : OwnI w' B v l := by
 refine ⟨h.1, ?_⟩
 rcases h.2 with h0 | ⟨g, cap, cur, hv, h1, hg, h2⟩
 ·
  exact .inl h0
 ·
  exact .inr ⟨g, cap, cur, hv, h1, hk.stay hg rfl, h2⟩
theorem LookAt.gr (h : LookAt w B P pd sm X seen) (hP : P < sm) (hs : GrStep w w' B P pd Y) (hz : Y.F.hi = Y.S.size) : LookAt w' B P pd sm Y seen := by
 obtain ⟨lm, fm, pl, um, wm, la, v, hg⟩ := hs.at_
 obtain ⟨es, cc, hm, _⟩ := h.m.st
 have hmm := hg.mP
 refine ⟨h.T.below h.tb hs.below, ⟨lm, fm, pl, um, wm, la, v, hg, by omega, by omega, by omega, by omega, by omega⟩, hz, h.m.block ?_, h.tb⟩
 rw [hs.kp.stay hm (by show decide (sm < P) = false; rw [decide_eq_false_iff_not]; omega), hm]
theorem lay_hi (X : PG) (k : Nat) (b : List UInt8) (hz : X.F.hi = X.S.size) : (X.lay k b).F.hi = (X.lay k b).S.size := by
 have hhi : (X.F.take (k : Int)).hi = X.F.hi := rfl
 show (X.F.take (k : Int)).hi = (X.S.write k _).size
 rw [hhi, hz]
 first | rfl | simp
theorem lookLayP_ok (h : LookAt w B P pd sm X seen) (hP : P < sm) (hf : X.failed = false) {k : Nat} (hF : X.F.least = some (k : Int)) (h0 : X.S.left ≠ 0) (h1 : -1 ≤ X.S.left) (h2 : X.S.left ≤ 9223372036854775807) (ho : X.S.ops ≤ 999999999) (hg : X.g + 1 ≤ 1152921504606846976) (kind : UInt8) {q : Option Addr} {n c : Nat} {l : List UInt8} (hl : GBytes w B q l) (hn : n = l.length) (hnc : n ≤ c) (hc : c ≤ 9223372036854775807) (h493 : n ≤ 493) :
  Calls Tryz.prog 198 #[.pointer (some ⟨P, 0, none⟩), .int .u8 (kind.toNat : Int), .slice q n c] w fun e w' => e = .returned (.tuple #[.int .i64 (k : Int), .int .i64 0]) ∧ LookAt w' B P pd sm (X.lay k (pageB kind k (X.g + 1) l)) seen ∧ Below B w w' ∧ Keeps (ofGrP P) w w' := by
 obtain ⟨lm, fm, pl, um, wm, la, v, hg', hne⟩ := h.g
 refine (grLay_ok h.T h.tb hg' hf hF h0 h1 h2 ho h.z hg kind hl hn hnc hc h493).mono ?_
 rintro e w' ⟨he, hs⟩
 exact ⟨he, h.gr hP hs (lay_hi X k _ h.z), hs.below, hs.kp⟩
set_option maxHeartbeats 1600000 in
theorem trLayG_ok (h : LookAt w B P pd sm X seen) (hP : P < sm) {n0 : Nat} (hBn : B ≤ n0) (hnw : n0 ≤ w.heap.size) {lq : Option Addr} {ln lc : Nat} {ls : List Int} (hcb : CBx w cb P sm val fv (.slice lq ln lc)) (hlo : OwnI w n0 (.slice lq ln lc) ls) (hll : ls.length ≤ 1000000) (hB : n0 ≤ cb) {k : Nat} (hX : Lays X k) (kind : UInt8) {q : Option Addr} {n c : Nat} {l : List UInt8} (hl : GBytes w B q l) (hn : n = l.length) (hnc : n ≤ c) (hc : c ≤ 9223372036854775807) (h493 : n ≤ 493) :
  Calls Tryz.prog 183 #[.pointer (some ⟨cb, 0, none⟩), .int .u8 (kind.toNat : Int), .slice q n c] w fun e w' => e = .returned (.tuple #[.int .i64 (k : Int), .int .i64 0]) ∧
   (∃ q' n' c', CBx w' cb P sm val fv (.slice q' n' c') ∧ OwnI w' n0 (.slice q' n' c') (ls ++ [(k : Int)])) ∧ LookAt w' B P pd sm (X.lay k (pageB kind k (X.g + 1) l)) seen ∧ Below B w w' ∧ Keeps (ofTr n0 P) w w' := by
 have HL := Hq (lookLayP_ok h hP hX.f hX.l hX.h0 hX.h1 hX.h2 hX.o hX.g kind hl hn hnc hc h493)
 have y0 : w.cell? ⟨cb, 0, none⟩ = some (.pointer (some ⟨P, 0, none⟩)) := (jC hcb 0).trans rfl
 have HCB := Hq hcb
 have HBB := Hq hB
 have HBW := Hq (Nat.le_trans hBn hnw)
 have HBN := Hq hBn
 have HNW := Hq hnw
 have HLO := Hq hlo
 have HLL := Hq hll
 clear h hP hBn hnw hcb hB hX hl hn hnc hc h493 hlo hll
 generalize X.lay k (pageB kind k (X.g + 1) l) = Y at *
 generalize (k : Int) = kk at *
 go_enter Tryz.func183, Tryz.ntmps183
 go_wp2_with fail
 refine HL.out.mono ?_
 rintro e w1 ⟨rfl, hla, hb1, hk1⟩
 have hc1 := HCB.out.gr hk1
 have hb2 : Below w1.heap.size w1 (w1.alloc (.cells #[.int .i64 kk] 3)) := sbox1 _ _
 have hc2 := hc1.low hb2
 have y4 : w1.cell? ⟨cb, 4, none⟩ = some (.slice lq ln lc) := (jC hc1 4).trans rfl
 have n2 := heap_alloc_new w1 (.cells #[.int .i64 kk] 3)
 have HLA := Hq (hla.below hb2)
 have HLB : Hid (B ≤ w1.heap.size) := Hq (Nat.le_trans HBW.out hb1.size)
 have HB2 : Hid (Below B w (w1.alloc (.cells #[.int .i64 kk] 3))) := Hq (hb1.trans (hb2.mono HLB.out))
 have HC2 := Hq hc2
 have HN0 : Hid ((w1.alloc (.cells #[.int .i64 kk] 3)).cell? ⟨w1.heap.size, 0, none⟩ = some (.int .i64 kk)) := Hq ((jC n2 0).trans rfl)
 have HLL2 : Hid (ls.length ≤ 1000000000) := Hq (by have := HLL.out; omega)
 have HO2 := Hq ((HLO.out.keepsP hk1).below hb2)
 have HK2 : Hid (Keeps (ofTr n0 P) w (w1.alloc (.cells #[.int .i64 kk] 3))) := Hq ((hk1.mono ofGrP_ofTr).trans (Keeps.below hb2))
 have HSN : Hid (n0 ≤ (w1.alloc (.cells #[.int .i64 kk] 3)).heap.size) := Hq (Nat.le_trans HNW.out (Nat.le_trans hk1.size hb2.size))
 have HSZ : Hid (B ≤ (w1.alloc (.cells #[.int .i64 kk] 3)).heap.size) := Hq (Nat.le_trans HLB.out hb2.size)
 clear hla hb1 hk1 hc1 hb2 hc2 n2 HL y0
 have HST : Hid (∀ v3 w3, OwnI w3 n0 v3 (ls ++ [kk]) → (w1.alloc (.cells #[.int .i64 kk] 3)).grownBy w3 (Value.slice lq ln lc).ownBlock → CBx w3 cb P sm val fv (.slice lq ln lc) ∧ LookAt w3 B P pd sm Y seen ∧ Below B w w3 ∧ Keeps (ofTr n0 P) w w3) := Hq fun v3 w3 ho3 hg3 => by
  refine ⟨?_, HLA.out.grownI (ownsRow_le HO2.out HBN.out) hg3, HB2.out.trans ((Below.refl _ _).grown hg3 HSZ.out (fun k hk => Nat.le_trans HBN.out (World.ownsRow.lt HO2.out k hk).1)), HK2.out.trans (Keeps.grown hg3 fun b o hb _ => by have := (World.ownsRow.lt HO2.out b hb).1; simp [ofTr, this])⟩
  have hx := HC2.out
  unfold CBx at hx ⊢
  rw [hg3.block cb (aL hx) (fun e => HO2.out.notcb HC2.out e.symm)]
  exact hx
 go_wp2_with (at_builtin; refine app_ints rfl (.tmp 27) (.tmp 29) rfl rfl HO2.out rfl HN0.out HLL2.out HSN.out ?_; intro v3 w3 ho3 hg3; obtain ⟨hc3, hla3, hb3, hk3⟩ := HST.out _ _ ho3 hg3; obtain ⟨q3, c3, hv3, _⟩ := ho3.form; obtain ⟨n3, hn3⟩ : ∃ n, n = (ls ++ [kk]).length := ⟨_, rfl⟩; rw [← hn3] at hv3; subst hv3; have z4 : w3.cell? ⟨cb, 4, none⟩ = some (.slice lq ln lc) := (jC hc3 4).trans rfl; have f4 : w3.frozen? ⟨cb, 4, none⟩ = false := jU hc3 4; have HC3 := Hq hc3; have HLA3 := Hq hla3; have HB3 := Hq hb3; have HK3 := Hq hk3; have HO3 := Hq ho3; clear ho3 hg3 hb3 hc3 hla3 hk3 hn3)
 go_ret2
 have hg : w3.grownBy (w3.setCell ⟨cb, 4, none⟩ (.slice q3 n3 c3)) (some cb) := gb_set (gb_refl w3 cb) 4 _
 refine ⟨rfl, ⟨q3, n3, c3, ?_, ?_⟩, HLA3.out.off HC3.out hg (Nat.le_trans HBN.out HBB.out) (by decide), HB3.out.setCell (p := ⟨cb, 4, none⟩) (Nat.le_trans HBN.out HBB.out) _, HK3.out.trans (Keeps.grown hg fun b o hb _ => by cases hb; have := HBB.out; simp [ofTr, this])⟩
 ·
  unfold CBx
  rw [heap_setCell_same w3 cb 4 _ _ _ HC3.out]
  rfl
 ·
  exact HO3.out.kept hg (.inr (HO3.out.notcb HC3.out))
structure LaidG (w w' : World) (B P pd sm cb n0 : Nat) (X Y : PG) (seen : Int → Bool) (val : Kb) (fv : Value) (ls : List Int) : Prop where
 cb : ∃ q' n' c', CBx w' cb P sm val fv (.slice q' n' c') ∧ OwnI w' n0 (.slice q' n' c') ls
 la : LookAt w' B P pd sm Y seen
 low : Below B w w'
 keeps : Keeps (ofTr n0 P) w w'
set_option maxHeartbeats 3200000 in
theorem layLeafG_ok (h : LookAt w B P pd sm X seen) (hP : P < sm) {n0 : Nat} (hBn : B ≤ n0) (hBw : n0 ≤ w.heap.size) {lq : Option Addr} {ln lc : Nat} {ls : List Int} (hcb : CBx w cb P sm val fv (.slice lq ln lc)) (hlo : OwnI w n0 (.slice lq ln lc) ls) (hll : ls.length ≤ 1000000) (hB : n0 ≤ cb) {k : Nat} (hX : Lays X k) {n : Nd} (ho : n.Ok w) (hlf : n.leaf = true) (hik : n.is = []) (hp : ∀ v ∈ n.vs, v.p ≠ -1) (hr : n.s.Right) (hc : n.s.count ≤ 100000) (hpl : n.s.put.length ≤ 493) :
  Calls Tryz.prog 164 #[.pointer (some ⟨cb, 0, none⟩), n.cell] w fun e w' => e = .returned (.tuple #[.int .i64 (k : Int), .int .i64 0]) ∧ LaidG w w' B P pd sm cb n0 X (X.lay k (pageB 2 k (X.g + 1) n.s.put)) seen val fv (ls ++ [(k : Int)]) := by
 obtain ⟨W, hW, hbw, hws, hcc⟩ := nd_box w n
 have HOK := Hq (ho.below hbw)
 have HC := Hq hcc
 have HBW := Hq hbw
 have HWS := Hq hws
 have HP := Hq hp
 have HR := Hq hr
 have HCNT := Hq hc
 have HPL := Hq hpl
 have HLA : Hid (∀ w', Below W.heap.size W w' → LookAt w' B P pd sm X seen ∧ CBx w' cb P sm val fv (.slice lq ln lc) ∧ OwnI w' n0 (.slice lq ln lc) ls ∧ Below w.heap.size w w') := Hq fun w' hb => by
  have hbb : Below w.heap.size w w' := hbw.trans (hb.mono hbw.size)
  exact ⟨h.below hbb, hcb.low hbb, hlo.below hbb, hbb⟩
 have HBB := Hq hBw
 have HPP := Hq hP
 have HBN := Hq hBn
 have HLL := Hq hll
 have HB := Hq hB
 have HX := Hq hX
 have hvm : n.vs.length ≤ 100000 := by
  have : n.s.vs.length ≤ n.s.count := by unfold NdS.count; omega
  have e : n.s.vs.length = n.vs.length := by show (n.vs.map Vl.s).length = _; rw [List.length_map]
  omega
 have hil : n.is.length = 0 := by rw [hik]; rfl
 obtain ⟨_, c0, c1, c2, c3⟩ := HC.out W (Below.refl _ _)
 have hcell : n.cell = .agg #[.bool n.leaf, .slice n.kq n.ks.length n.kc, .slice n.vq n.vs.length n.vc, .slice n.iq n.is.length n.ic] := rfl
 have HPUT : Hid (∀ w', Below W.heap.size W w' → Calls Tryz.prog 147 #[.agg #[.bool n.leaf, .slice n.kq n.ks.length n.kc, .slice n.vq n.vs.length n.vc, .slice n.iq n.is.length n.ic]] w' (PutN w' n.s)) := Hq fun w' hb => ndPut_any (HOK.out.below hb) hc
 rw [hcell]
 rw [hlf, hil] at HPUT HC hW ⊢
 rw [hlf] at c0
 rw [hil] at c3
 obtain ⟨vm, hvm2⟩ : ∃ m, m = n.vs.length := ⟨_, rfl⟩
 have HVM := Hq hvm2
 obtain ⟨km, hkm⟩ : ∃ m, m = n.ks.length := ⟨_, rfl⟩
 rw [← hvm2, ← hkm] at HPUT HC hW ⊢
 rw [← hkm] at c1
 rw [← hvm2] at c2 hvm
 clear h hP hBn hBw hcb hlo hll hB hX ho hlf hik hp hr hc hpl hbw hws hcc hcell hil hvm2 hkm
 go_enter Tryz.func164, Tryz.ntmps164
 go_wp2_with fail
 rw [← hW]
 replace hW := Hq hW
 go_loopw [6, 15] (fun e i wr => e = .int .i64 0 ∧ i = .int .i64 0 ∧ W = wr) (fun _ _ _ => 0)
 case atStart => exact ⟨rfl, rfl, rfl⟩
 case round =>
  obtain ⟨rfl, rfl, rfl⟩ := hrel
  go_wp2
  go_loopw [6, 46] (fun e i wr => e = .int .i64 0 ∧ ∃ j : Nat, i = .int .i64 j ∧ j ≤ vm ∧ Below W.heap.size W wr) (fun _ i _ => vm - (intOf i).toNat)
  case atStart => exact ⟨rfl, 0, rfl, by omega, Below.refl _ _⟩
  case round =>
   obtain ⟨rfl, j, rfl, hj, hb⟩ := hrel
   have HBR := Hq hb
   obtain ⟨_, c0, c1, c2, c3⟩ := HC.out _ hb
   have HOR := Hq (HOK.out.below hb)
   clear hb
   by_cases hlt : j < vm
   ·
    obtain ⟨x, hx⟩ : ∃ x, n.vs[j]? = some x := ⟨_, List.getElem?_eq_getElem (by have := HVM.out; omega)⟩
    obtain ⟨b, o, hq, hbl, v0, v1, v2⟩ := HOR.out.vl.at hx
    have hpx : ¬ x.p = -1 := HP.out x (List.mem_of_getElem? hx)
    have v1' := HOR.out.v1
    have v2' := HOR.out.v2
    have hpb : (x.p == -1) = false := by rw [beq_eq_false_iff_ne]; exact hpx
    have HB2 : Hid (Below W.heap.size W (wr.alloc (.cells #[.slice x.q x.l.length x.c, .int .i64 x.g, .int .i64 x.p] 108))) := Hq (HBR.out.trans ((sbox1 _ _).mono HBR.out.size))
    have hj2 : (j : Int) < (vm : Int) := by omega
    rw [hq] at c2
    clear hx hpx v1' v2'
    go_wp2
    exact ⟨⟨rfl, j + 1, by go_num, by omega, HB2.out⟩, by simp [intOf]; omega⟩
   ·
    have HPU := Hq (HPUT.out _ HBR.out)
    go_wp2_with fail
    refine HPU.out.mono ?_
    rintro e w5 (⟨hnr, _⟩ | ⟨_, g, kk, cc, rfl, hkk, hown, hb5⟩)
    ·
     exact absurd HR.out hnr
    obtain ⟨_, c0, c1, c2, c3⟩ := HC.out _ (HBR.out.trans (hb5.mono HBR.out.size))
    obtain ⟨l1, l2, l3, l4⟩ := HLA.out _ (HBR.out.trans (hb5.mono HBR.out.size))
    obtain ⟨_, _, hv, hkc, hcm, _, _⟩ := hown.form hkk
    cases hv
    have HLY := Hq (trLayG_ok l1 HPP.out HBN.out (Nat.le_trans HBB.out l4.size) l2 l3 HLL.out HB.out HX.out 2 (GBytes.own hown hkk) hkk hkc hcm (by have := HPL.out; omega))
    have HL4 := Hq (l4.mono (Nat.le_trans HBN.out HBB.out))
    have HK4 : Hid (Keeps (ofTr n0 P) w _) := Hq (Keeps.below l4)
    clear hown hb5 l1 l2 l3 l4 hkk hkc hcm
    go_wp2_with fail
    refine HLY.out.mono ?_
    rintro e w6 ⟨rfl, hcb6, hla6, hb6, hk6⟩
    go_wp2
    go_ret2
    exact ⟨rfl, hcb6, hla6, HL4.out.trans hb6, HK4.out.trans hk6⟩
end
end Go.Proofs.YtbbgdbnjmonbgaaGreatDoor

set_option linter.unusedVariables false
set_option linter.unusedSimpArgs false
set_option maxRecDepth 100000
namespace Go.Proofs.YtbbgdbnjmonbgaaGreatDoor
open Go.RowKit
section
variable {w w' : World} {B P pd sm cb : Nat} {X Y : PG} {seen : Int → Bool} {val : Kb} {fv lv : Value}
def WritePost (w : World) (B P pd n0 : Nat) (Y : PG) (seen : Int → Bool) (k : Int) (e : Ending) (w' : World) : Prop :=
 ∃ l, l.Nodup ∧ (∀ x, x ∈ l ↔ seen x = true) ∧ e = .returned (.tuple #[.int .i64 k, .int .i64 0]) ∧ GrAt w' B P pd (Y.drops l) ∧ Below B w w' ∧ Keeps (ofTr n0 P) w w'
set_option maxHeartbeats 3200000 in
theorem writeG_ok {n0 : Nat} (hBn : B ≤ n0) (hnw : n0 ≤ w.heap.size) {n : Nd} (hk0 : 0 < n.ks.length) {k : Int} {ls : List Int}
  (HLN : ∀ w1, Below w.heap.size w w1 → Calls Tryz.prog 164 #[.pointer (some ⟨cb, 0, none⟩), n.cell] w1 fun e w' => e = .returned (.tuple #[.int .i64 k, .int .i64 0]) ∧ LaidG w1 w' B P pd sm cb n0 X Y seen val fv ls)
  (hseen : ∀ x, seen x = true → 0 ≤ x ∧ x < 4096) (hd : ∀ l, l.Nodup → (∀ x, x ∈ l ↔ seen x = true) → DropsOk Y l) :
  Calls Tryz.prog 145 #[.pointer (some ⟨cb, 0, none⟩), n.cell] w (WritePost w B P pd n0 Y seen k) := by
 obtain ⟨W, hW, hbw, hws, hcc⟩ := nd_box w n
 have HC := Hq hcc
 have HLN := Hq (HLN W hbw)
 have HBW := Hq (hbw.mono (Nat.le_trans hBn hnw))
 have HKW : Hid (Keeps (ofTr n0 P) w W) := Hq (Keeps.below hbw)
 have HBB := Hq (Nat.le_trans hBn hnw)
 have HSE := Hq hseen
 have HDR := Hq hd
 have hcell : n.cell = .agg #[.bool n.leaf, .slice n.kq n.ks.length n.kc, .slice n.vq n.vs.length n.vc, .slice n.iq n.is.length n.ic] := rfl
 obtain ⟨_, c0, c1, c2, c3⟩ := HC.out W (Below.refl _ _)
 have hk1 : (0 : Int) < (n.ks.length : Int) := by omega
 rw [hcell] at HLN ⊢
 generalize n.ks.length = km at *
 generalize n.vs.length = vm at *
 generalize n.is.length = im at *
 clear hBn hnw hbw hws hcc hcell hk0 hseen hd
 go_enter Tryz.func145, Tryz.ntmps145
 go_wp2_with fail
 rw [← hW]
 replace hW := Hq hW
 refine HLN.out.mono ?_
 rintro e w1 ⟨rfl, ⟨⟨q', n', c', hcb1, hlo1⟩, hla1, hb1, hkp1⟩⟩
 have y1 : w1.cell? ⟨cb, 1, none⟩ = some (.map (some sm)) := (jC hcb1 1).trans rfl
 have HLA := Hq hla1
 have HCB := Hq hcb1
 have HB1 := Hq (HBW.out.trans hb1)
 have HK1 := Hq (HKW.out.trans hkp1)
 have HB1W := Hq (Nat.le_trans HBB.out (HBW.out.trans hb1).size)
 clear hcb1 hlo1 hla1 hb1 hkp1 HLN c0 c1 c2 c3
 go_wp2_with fail
 refine (keys_any _).mono ?_
 rintro e w10 ⟨rfl, hw10⟩
 have hb10 : Below w1.heap.size w1 w10 := by rw [hw10]; exact sbox1 _ _
 have HSO := Hq (trSorted_any (w := w10) (bm := w1.heap.size) (sm := sm) (L := seen) (by rw [hw10]; exact heap_alloc_new _ _) (HLA.out.m.block (hb10.block _ HLA.out.lt)) HSE.out)
 have HB10 := Hq (HB1.out.trans (hb10.mono HB1W.out))
 have HK10 := Hq (HK1.out.trans (Keeps.below (K := ofTr n0 P) hb10))
 have HB10W := Hq (Nat.le_trans HB1W.out hb10.size)
 have HL10 := Hq (HLA.out.below hb10)
 have HC10 := Hq (HCB.out.low hb10)
 clear hw10 hb10 y1
 go_wp2_with fail
 refine HSO.out.mono ?_
 rintro e w11 ⟨v, l, rfl, ho, hnd, hmem, hb11⟩
 obtain ⟨q, c, rfl, hks⟩ := ho.form
 have hlen : l.length ≤ 9223372036854775807 := by
  have := nodup_len hnd (fun x hx => HSE.out x ((hmem x).1 hx))
  omega
 have HDP := Hq (drop_any (n := l.length) (c := c) (q := q) (l := l) (by
  obtain ⟨lm, fm, pl, um, wm, la, vv, hg, _⟩ := (HL10.out.below hb11).g
  exact ⟨lm, fm, pl, um, wm, la, vv, hg⟩) (HC10.out.low hb11) (fun w' hk => by
   obtain ⟨q2, c2, hv2, hk2⟩ := (ho.keepsG hk).form
   cases hv2
   exact hk2) rfl hlen (HDR.out l hnd hmem))
 have HND := Hq hnd
 have HMM := Hq hmem
 have HB11 := Hq (HB10.out.trans (hb11.mono HB10W.out))
 have HK11 := Hq (HK10.out.trans (Keeps.below (K := ofTr n0 P) hb11))
 generalize l.length = ln at *
 clear hb11 HSO ho hnd hmem hks hlen
 go_wp2_with fail
 refine HDP.out.mono ?_
 rintro e w12 ⟨rfl, hs⟩
 have HS := Hq hs
 clear hs
 go_wp2
 go_ret2
 exact ⟨l, HND.out, HMM.out, rfl, HS.out.at_, HB11.out.trans HS.out.below, HK11.out.trans (HS.out.kp.mono ofGrP_ofTr)⟩
end
end Go.Proofs.YtbbgdbnjmonbgaaGreatDoor

set_option linter.unusedVariables false
set_option linter.unusedSimpArgs false
set_option maxRecDepth 100000
namespace Go.Proofs.YtbbgdbnjmonbgaaGreatDoor
open Go.RowKit
section
variable {w w' : World} {B P pd sm cb : Nat} {X : PG} {val : Kb} {fv lv : Value}
theorem box_carry {o : Obj} {R : Nat} (h : w.heap[R]? = some o) (hb : Below w.heap.size w w') : w'.heap[R]? = some o := by rw [hb.block R (aL h)]; exact h
theorem box_new {o : Obj} (hb : Below (w.alloc o).heap.size (w.alloc o) w') : w'.heap[w.heap.size]? = some o := box_carry (heap_alloc_new w o) hb
theorem box_newd {o : Obj} (hb : Below (w.alloc o).drew.heap.size (w.alloc o).drew w') : w'.heap[w.heap.size]? = some o := box_carry (w := (w.alloc o).drew) (heap_alloc_new w o) hb
theorem box_new2 {W : World} {o : Obj} (h : Below W.heap.size W w) (hb : Below (w.alloc o).heap.size (w.alloc o) w') : w'.heap[w.heap.size]? = some o ∧ W.heap.size ≤ w.heap.size := ⟨box_new hb, h.size⟩
theorem box_newd2 {o : Obj} (hb : Below (w.alloc o).drew.heap.size (w.alloc o).drew w') : w'.heap[w.heap.size]? = some o ∧ w.heap.size ≤ w.heap.size := ⟨box_newd hb, Nat.le_refl _⟩
theorem box_carry2 {o : Obj} {R m : Nat} (h : w.heap[R]? = some o ∧ m ≤ R) (hb : Below w.heap.size w w') : w'.heap[R]? = some o ∧ m ≤ R := ⟨box_carry h.1 hb, h.2⟩
theorem k_carry {B : Nat} {v : Value} {l : List Kb} (h : KOwn w B v l) (hb : Below w.heap.size w w') : KOwn w' B v l := row_below h hb
theorem k_carrya {B : Nat} {v : Value} {l : List Kb} {o : Obj} (h : KOwn w B v l) (hb : Below (w.alloc o).heap.size (w.alloc o) w') : KOwn w' B v l := row_below (World.ownsRow.alloc h _) hb
theorem v_carry {B : Nat} {v : Value} {l : List Vl} (h : VOwn w B v l) (hb : Below w.heap.size w w') : VOwn w' B v l := row_below h hb
theorem v_carrya {B : Nat} {v : Value} {l : List Vl} {o : Obj} (h : VOwn w B v l) (hb : Below (w.alloc o).heap.size (w.alloc o) w') : VOwn w' B v l := row_below (World.ownsRow.alloc h _) hb
theorem low_alloc {W : World} (h : Below W.heap.size W w) (o : Obj) : Below W.heap.size W (w.alloc o) := h.alloc h.size _
theorem low_first (W : World) (o : Obj) : Below W.heap.size W (W.alloc o).drew := ((Below.refl _ _).alloc (Nat.le_refl _) _).drew
theorem k_alloc {B : Nat} {v : Value} {l : List Kb} (h : KOwn w B v l) (o : Obj) : KOwn (w.alloc o) B v l := World.ownsRow.alloc h _
theorem v_alloc {B : Nat} {v : Value} {l : List Vl} (h : VOwn w B v l) (o : Obj) : VOwn (w.alloc o) B v l := World.ownsRow.alloc h _
theorem turn_end {w0 w3 : World} {R B1 B2 : Nat} {x y z u vk vv : Value} {lk : List Kb} {lw : List Vl} (hR : w3.heap[R]? = some (.cells #[x, y, z, u] 106 (0, 0))) (hb : Below w0.heap.size w0 w3) (hle : w0.heap.size ≤ R) (hK : KOwn w3 B1 vk lk) (hV : VOwn w3 B2 vv lw) (a b c d : Value) :
    (((((w3.setCell ⟨R, 0, none⟩ a).setCell ⟨R, 1, none⟩ b).setCell ⟨R, 2, none⟩ c).setCell ⟨R, 3, none⟩ d).cell? ⟨R, 0, none⟩ = some a ∧ ((((w3.setCell ⟨R, 0, none⟩ a).setCell ⟨R, 1, none⟩ b).setCell ⟨R, 2, none⟩ c).setCell ⟨R, 3, none⟩ d).cell? ⟨R, 1, none⟩ = some b ∧ ((((w3.setCell ⟨R, 0, none⟩ a).setCell ⟨R, 1, none⟩ b).setCell ⟨R, 2, none⟩ c).setCell ⟨R, 3, none⟩ d).cell? ⟨R, 2, none⟩ = some c ∧ ((((w3.setCell ⟨R, 0, none⟩ a).setCell ⟨R, 1, none⟩ b).setCell ⟨R, 2, none⟩ c).setCell ⟨R, 3, none⟩ d).cell? ⟨R, 3, none⟩ = some d) ∧
    KOwn ((((w3.setCell ⟨R, 0, none⟩ a).setCell ⟨R, 1, none⟩ b).setCell ⟨R, 2, none⟩ c).setCell ⟨R, 3, none⟩ d) B1 vk lk ∧ VOwn ((((w3.setCell ⟨R, 0, none⟩ a).setCell ⟨R, 1, none⟩ b).setCell ⟨R, 2, none⟩ c).setCell ⟨R, 3, none⟩ d) B2 vv lw ∧ Below w0.heap.size w0 ((((w3.setCell ⟨R, 0, none⟩ a).setCell ⟨R, 1, none⟩ b).setCell ⟨R, 2, none⟩ c).setCell ⟨R, 3, none⟩ d) := by
  have hg := gb4 w3 R a b c d
  have h4 := ndSet4 (a := a) (b := b) (c := c) (d := d) hR
  exact ⟨⟨jC h4 0, jC h4 1, jC h4 2, jC h4 3⟩, World.ownsRow.kept hK hg (.inr (row_other hK hR (by decide))), World.ownsRow.kept hV hg (.inr (row_other hV hR (by decide))), hb.grown hg hb.size (fun k hk => by cases hk; exact hle)⟩
end
end Go.Proofs.YtbbgdbnjmonbgaaGreatDoor

