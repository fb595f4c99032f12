/-
  bytes.Equal, bytes.Clone: contracts for the walks.
  node.read, Read: contracts.
-/
import Derived.Test.YtngnmakeaniapaaGreatDoorH00
import Derived.Test.YtngnmakeaniapaaGreatDoorH25
import Derived.Test.YtngnmakeaniapaaGreatDoorH26
set_option linter.unusedVariables false
set_option maxRecDepth 100000
namespace Go.Proofs.YtngnmakeaniapaaGreatDoor
open Go.RowKit

set_option maxHeartbeats 400000 in
theorem bEqual_any {w : World} {p q : Option Addr} {l m : List UInt8} (hl : Bs w p l) (hm : Bs w q m) {n k c d : Nat} (hn : n = l.length) (hk : k = m.length) :
    Calls Tryz.prog 154 #[.slice p n c, .slice q k d] w fun e w' => e = .returned (.bool (decide (l = m))) ∧ w' = w := by
  have h1 := str_of hl (c := c) hn
  have h2 := str_of hm (c := d) hk
  clear hl hm hn hk
  go_enter Tryz.func154, Tryz.ntmps154
  go_wp2
  go_ret
  refine ⟨ret_bool ?_, rfl⟩
  by_cases h : l = m <;> simp [h]

/-- The same bytes, in a block of their own, or nil. -/
def BClonePost (w : World) (l : List UInt8) (e : Ending) (w' : World) : Prop := ∃ p c, e = .returned (.slice p l.length c) ∧ Bs w' p l ∧ l.length ≤ c ∧ c ≤ 9223372036854775807 ∧ (p = none → c = 0) ∧ (∀ a, p = some a → a.block < w'.heap.size ∧ ∃ cs f, w'.heap[a.block]? = some (.cells cs 5 f)) ∧ Below w.heap.size w w'

set_option maxHeartbeats 400000 in
theorem bClone_any {w : World} {p : Option Addr} {l : List UInt8} (hl : Bs w p l) {n c : Nat} (hn : n = l.length) (hb : n ≤ 1000000) (hz : p = none → c = 0) (hnc : n ≤ c) :
    Calls Tryz.prog 172 #[.slice p n c] w (BClonePost w l) := by
  cases p with
  | none =>
    obtain rfl := hz rfl
    obtain rfl : n = 0 := by omega
    obtain rfl := List.eq_nil_of_length_eq_zero hn.symm
    have hnil : ∀ w : World, (binOp .eql 41 (.slice none 0 0) (.slice none 0 0)).run Tryz.prog w = .ok (.bool true) w := fun w => by kernel_rfl
    clear hz hl hn
    go_enter Tryz.func172, Tryz.ntmps172
    go_wp2
    go_ret
    exact ⟨none, 0, rfl, Bs.nil _ _, Nat.le_refl _, by omega, fun _ => rfl, fun a h => (by cases h), Below.refl _ _⟩
  | some a =>
    have HL := Lib.hid hl
    have HN := Lib.hid hn
    have HO : Hid (Own (w.alloc (.cells #[] 5)) w.heap.size (.slice (.some ⟨w.heap.size, 0, none⟩) 0 0) []) := Lib.hid (Own.empty w _ (Nat.le_refl _))
    clear hl hn hz
    have hnil : ∀ w : World, (binOp .eql 41 (.slice (some a) n c) (.slice none 0 0)).run Tryz.prog w = .ok (.bool false) w := fun w => by kernel_rfl
    go_enter Tryz.func172, Tryz.ntmps172
    go_wp2_with (at_builtin; refine app_own rfl (.tmp 5) (.tmp 6) rfl rfl HO.out HN.out rfl (HL.out.alloc _) (fun h => by cases h) (by have := HN.out; simp; omega) (by simp) ?_; intro v2 w2 ho2 hb2; have HO2 := Lib.hid ho2; have HB2 := Lib.hid (((Below.refl w.heap.size w).alloc (Nat.le_refl _) _).trans hb2); clear ho2 hb2)
    go_ret
    obtain ⟨q, d, rfl, h1, h2, h3, h4⟩ := HO2.out.form rfl
    refine ⟨q, d, rfl, h3, h1, h2, h4, fun b hb => ?_, HB2.out⟩
    rcases HO2.out.2 with ⟨e, _⟩ | ⟨g, cap, cur, e, _, hg, _⟩
    · injection e with e1 e2 e3
      rw [e1] at hb
      cases hb
    · injection e with e1 e2 e3
      rw [e1] at hb
      cases hb
      exact ⟨(Array.getElem?_eq_some_iff.1 hg).1, _, _, hg⟩

theorem results_cell_tmp {fn : Func} {p t : Tmp} {ty : TypeId} (h : fn.results = #[.cell p ty, .tmp t]) (tmps : Array Value) (w : World) (g : Nat) (tt : TypeId) (cs : Array Value) (fr : Nat × Nat) {fs : Array Field}
    (hp : tmps.getD p undef = .pointer (some ⟨g, 0, none⟩)) (hg : w.heap[g]? = some (.cells cs tt fr))
    (hu : Tryz.prog.underlying ty = some (.struct fs)) (hi : (Tryz.prog.info? ty).map (·.size) = some cs.size) :
    (results fn tmps).run Tryz.prog w = .ok (.tuple #[.agg cs, tmps.getD t undef]) w := by
  have hp' : tmps[p]?.getD undef = .pointer (some ⟨g, 0, none⟩) := by simpa using hp
  simp [results, h, hp', asAddr, run_loadVar_row w g tt ty cs fr _ hg hu rfl hi, Result.andThen]

end Go.Proofs.YtngnmakeaniapaaGreatDoor

set_option linter.unusedVariables false
set_option linter.unusedSimpArgs false
set_option maxRecDepth 100000
namespace Go.Proofs.YtngnmakeaniapaaGreatDoor
open Go.RowKit

/-- What bytes of a kind are read as, ahead of the look whether they are just its bytes. -/
def preS (k : Nat) (b : List UInt8) : Option NdS := if 493 < b.length then none else if k = 2 then some (leafS b) else if k = 3 then some (branchS b) else none
def PrePost (w : World) (o : Option NdS) (e : Ending) (w' : World) : Prop :=
  match o with
  | none => e = .returned (.tuple #[Nd.zero.cell, .bool false]) ∧ Below w.heap.size w w'
  | some s => ∃ n : Nd, e = .returned (.tuple #[n.cell, .bool true]) ∧ n.s = s ∧ NOwn w' n ∧ Below w.heap.size w w'

theorem alloc_blk {w : World} {R : Nat} {o x : Obj} (h : w.heap[R]? = some x) : (w.alloc o).heap[R]? = some x := by
  rw [Below.heap_alloc _ _ _ (Array.getElem?_eq_some_iff.1 h).1]
  exact h
theorem below4 {B R : Nat} {w0 w : World} (h : Below B w0 w) (hR : B ≤ R) (a b c d : Value) : Below B w0 ((((w.setCell ⟨R, 0, none⟩ a).setCell ⟨R, 1, none⟩ b).setCell ⟨R, 2, none⟩ c).setCell ⟨R, 3, none⟩ d) :=
  (((h.setCell (p := ⟨R, 0, none⟩) hR a).setCell (p := ⟨R, 1, none⟩) hR b).setCell (p := ⟨R, 2, none⟩) hR c).setCell (p := ⟨R, 3, none⟩) hR d

theorem sbox1' (w : World) (o : Obj) : Below w.heap.size w (w.alloc o) := (Below.refl _ _).alloc (Nat.le_refl _) _

set_option maxHeartbeats 3200000 in
theorem pre_any {w : World} (k : Nat) {p : Option Addr} {l : List UInt8} (hl : Bs w p l) {n c : Nat} (hn : n = l.length) (hnc : n ≤ c) (hc : c ≤ 9223372036854775807) (hz : p = none → c = 0) :
    Calls Tryz.prog 184 #[.int .u8 (k : Int), .slice p n c] w (PrePost w (preS k l)) := by
  obtain ⟨W, hW⟩ : ∃ W, W = w.alloc (.cells #[.bool false, .slice none 0 0, .slice none 0 0, .slice none 0 0] 154) := ⟨_, rfl⟩
  have HBW : Hid (Below w.heap.size w W) := Lib.hid (by rw [hW]; exact (Below.refl _ _).alloc (Nat.le_refl _) _)
  have HR : Hid (RBox W w.heap.size) := Lib.hid (by rw [hW]; exact heap_alloc_new w _)
  obtain ⟨⟨r0, r1, r2, r3⟩, ⟨v0, v1, v2, v3⟩, hrl⟩ := HR.out.cells
  have HE0 : Hid (∀ w', Below w.heap.size w w' → RBox w' w.heap.size → Below w.heap.size w ((((w'.setCell ⟨w.heap.size, 0, none⟩ (.bool false)).setCell ⟨w.heap.size, 1, none⟩ (.slice none 0 0)).setCell ⟨w.heap.size, 2, none⟩ (.slice none 0 0)).setCell ⟨w.heap.size, 3, none⟩ (.slice none 0 0))) := Lib.hid fun w' hb _ => below4 hb (Nat.le_refl _) _ _ _ _
  by_cases hlen : 493 < n
  · have HS : Hid (preS k l = none) := Lib.hid (by unfold preS; rw [if_pos (by omega)])
    generalize preS k l = o at *
    clear hl hn
    go_enter Tryz.func184, Tryz.ntmps184
    go_wp2_with fail
    rw [← hW]
    replace hW := Lib.hid hW
    go_wp2
    refine bodyPost_ret (results_cell_tmp rfl _ _ w.heap.size 154 _ (0, 0) (by kernel_rfl) (show W.heap[w.heap.size]? = _ from HR.out) Tryz.underlying154 (by kernel_rfl)) rfl ?_
    rw [HS.out]
    exact ⟨rfl, HBW.out⟩
  · have HLW := Lib.hid (hl.below HBW.out)
    have HCL := Lib.hid (bClone_any (w := W) HLW.out hn (by omega) hz hnc)
    have HL5 : Hid (l.length ≤ 493) := Lib.hid (by omega)
    have HPS : Hid (preS k l = if k = 2 then some (leafS l) else if k = 3 then some (branchS l) else none) := Lib.hid (by unfold preS; rw [if_neg (by omega)])
    generalize preS k l = o at *
    obtain ⟨ln, hln⟩ : ∃ x, x = l.length := ⟨_, rfl⟩
    have HLN := Lib.hid hln
    clear hl hn hln
    go_enter Tryz.func184, Tryz.ntmps184
    go_wp2_with fail
    rw [← hW]
    replace hW := Lib.hid hW
    go_wp2_with fail
    refine HCL.out.mono ?_
    rintro e w1 ⟨q, d, rfl, hq1, hq2, hq3, hq4, hq5, hb1⟩
    obtain ⟨W2, hW2⟩ : ∃ W2, W2 = w1.alloc (.cells #[.slice q l.length d] 271) := ⟨_, rfl⟩
    have HRS : Hid (Rs W2 w1.heap.size l) := Lib.hid (by
      rw [hW2]
      exact ⟨q, l.length, d, heap_alloc_new w1 _, hq1.alloc _, rfl, hq2, hq3, hq4, fun a ha => ⟨(hq5 a ha).1, U8.below (show U8 w1 a.block from (hq5 a ha).2) (sbox1' _ _)⟩⟩)
    have HB2 : Hid (Below W.heap.size W W2) := Lib.hid (by rw [hW2]; exact hb1.alloc hb1.size _)
    have hR2 : RBox W2 w.heap.size := (HB2.out.block _ (Array.getElem?_eq_some_iff.1 HR.out).1).trans HR.out
    have HR2 := Lib.hid hR2
    have HNE : Hid (w.heap.size < w1.heap.size) := Lib.hid (Nat.lt_of_lt_of_le hrl hb1.size)
    have HBF : Hid (∀ w3, W2.grownBy w3 (some w1.heap.size) → RBox w3 w.heap.size ∧ Below w.heap.size w w3) := Lib.hid fun w3 hg =>
      ⟨(hg.block _ (Array.getElem?_eq_some_iff.1 hR2).1 (fun e => by have := Option.some.inj e; have := HNE.out; omega)).trans hR2, (HBW.out.trans (HB2.out.mono HBW.out.size)).trans ((gb_low hg (Nat.le_trans HB2.out.size (Nat.le_refl _) |> fun h => by have h2 := HRS.out.lt; omega)).mono (by have := HNE.out; omega))⟩
    have HLF := Lib.hid (leaf_any HRS.out (by have := HL5.out; omega))
    have HBR := Lib.hid (branch_any HRS.out (by have := HL5.out; omega))
    have hln2 : l.length = ln := HLN.out.symm
    rw [hln2] at hW2 ⊢
    clear hq1 hq2 hq4 hq5 hb1 hR2 r0 r1 r2 r3 v0 v1 v2 v3 hrl hln2
    obtain ⟨⟨r0, r1, r2, r3⟩, ⟨v0, v1, v2, v3⟩, hrl⟩ := HR2.out.cells
    have HDN : Hid (∀ (w3 : World) (m : Nd) (a b c e : Value), W2.grownBy w3 (some w1.heap.size) → NOwn w3 m → NOwn ((((w3.setCell ⟨w.heap.size, 0, none⟩ a).setCell ⟨w.heap.size, 1, none⟩ b).setCell ⟨w.heap.size, 2, none⟩ c).setCell ⟨w.heap.size, 3, none⟩ e) m ∧ Below w.heap.size w ((((w3.setCell ⟨w.heap.size, 0, none⟩ a).setCell ⟨w.heap.size, 1, none⟩ b).setCell ⟨w.heap.size, 2, none⟩ c).setCell ⟨w.heap.size, 3, none⟩ e)) := Lib.hid fun w3 m a b c e hg hm =>
      ⟨hm.off (HBF.out w3 hg).1 (gb4 w3 w.heap.size a b c e), below4 (HBF.out w3 hg).2 (Nat.le_refl _) a b c e⟩
    by_cases hk2 : k = 2
    · subst hk2
      have HS : Hid (o = some (leafS l)) := Lib.hid (by rw [HPS.out, if_pos rfl])
      rw [show ((2 : Nat) : Int) = 2 from rfl]
      generalize leafS l = S at *
      go_wp2_with fail
      rw [← hW2]
      replace hW2 := Lib.hid hW2
      refine HLF.out.mono ?_
      rintro e w3 ⟨m, rfl, hms, hmo, hg⟩
      have HMS := Lib.hid hms
      have HMO := Lib.hid hmo
      have HG := Lib.hid hg
      have HR3 := Lib.hid (HBF.out w3 hg).1
      clear hms hmo hg r0 r1 r2 r3 v0 v1 v2 v3 hrl HLF HBR
      obtain ⟨⟨r0, r1, r2, r3⟩, ⟨v0, v1, v2, v3⟩, hrl⟩ := HR3.out.cells
      dsimp only [Nd.cell]
      go_wp2
      refine bodyPost_ret (results_cell_tmp rfl _ _ w.heap.size 154 _ (0, 0) (by kernel_rfl) (ndSet4 HR3.out) Tryz.underlying154 (by kernel_rfl)) rfl ?_
      rw [HS.out]
      obtain ⟨h1, h2⟩ := HDN.out w3 m (.bool m.leaf) (.slice m.kq m.ks.length m.kc) (.slice m.vq m.vs.length m.vc) (.slice m.iq m.is.length m.ic) HG.out HMO.out
      exact ⟨m, rfl, HMS.out, h1, h2⟩
    · have hk2b : ((k : Int) == 2) = false := by rw [beq_eq_false_iff_ne]; omega
      by_cases hk3 : k = 3
      · subst hk3
        have HS : Hid (o = some (branchS l)) := Lib.hid (by rw [HPS.out, if_neg hk2, if_pos rfl])
        rw [show ((3 : Nat) : Int) = 3 from rfl]
        generalize branchS l = S at *
        go_wp2_with fail
        rw [← hW2]
        replace hW2 := Lib.hid hW2
        refine HBR.out.mono ?_
        rintro e w3 ⟨m, rfl, hms, hmo, hg⟩
        have HMS := Lib.hid hms
        have HMO := Lib.hid hmo
        have HG := Lib.hid hg
        have HR3 := Lib.hid (HBF.out w3 hg).1
        clear hms hmo hg r0 r1 r2 r3 v0 v1 v2 v3 hrl HLF HBR
        obtain ⟨⟨r0, r1, r2, r3⟩, ⟨v0, v1, v2, v3⟩, hrl⟩ := HR3.out.cells
        dsimp only [Nd.cell]
        go_wp2
        refine bodyPost_ret (results_cell_tmp rfl _ _ w.heap.size 154 _ (0, 0) (by kernel_rfl) (ndSet4 HR3.out) Tryz.underlying154 (by kernel_rfl)) rfl ?_
        rw [HS.out]
        obtain ⟨h1, h2⟩ := HDN.out w3 m (.bool m.leaf) (.slice m.kq m.ks.length m.kc) (.slice m.vq m.vs.length m.vc) (.slice m.iq m.is.length m.ic) HG.out HMO.out
        exact ⟨m, rfl, HMS.out, h1, h2⟩
      · have hk3b : ((k : Int) == 3) = false := by rw [beq_eq_false_iff_ne]; omega
        have HS : Hid (o = none) := Lib.hid (by rw [HPS.out, if_neg hk2, if_neg hk3])
        have HBE := Lib.hid (HBF.out W2 (gb_refl _ _)).2
        clear hk2 hk3 HDN HBF HLF HBR
        subst hW2
        go_wp2
        refine bodyPost_ret (results_cell_tmp rfl _ _ w.heap.size 154 _ (0, 0) (by kernel_rfl) (ndSet4 HR2.out) Tryz.underlying154 (by kernel_rfl)) rfl ?_
        rw [HS.out]
        exact ⟨rfl, below4 HBE.out (Nat.le_refl _) _ _ _ _⟩

/-- The node whose bytes of that kind they are. -/
def readS (k : Nat) (b : List UInt8) (s : NdS) : Prop := preS k b = some s ∧ s.Right ∧ s.put = b
def NdReadPost (w : World) (k : Nat) (b : List UInt8) (e : Ending) (w' : World) : Prop :=
  (∃ n : Nd, e = .returned (.tuple #[n.cell, .int .i64 0]) ∧ readS k b n.s ∧ n.Ok w' ∧ Below w.heap.size w w') ∨ (e = .returned (.tuple #[Nd.zero.cell, .int .i64 11]) ∧ (∀ s, ¬ readS k b s) ∧ Below w.heap.size w w')

theorem textR_sum (l : List UInt8) : (textR l).1.length + (textR l).2.length ≤ l.length := by
  unfold textR
  simp only [List.length_take, List.length_drop]
  omega
theorem valR_sum (l : List UInt8) : (valR l).1.l.length + (valR l).2.length ≤ l.length := by
  unfold valR
  split <;> simp only [List.length_take, List.length_drop, List.length_nil] <;> omega
theorem rdL_lens : ∀ (m : Nat) (l : List UInt8), (rdL m l).length ≤ m ∧ lens id ((rdL m l).map Prod.fst) + lens VlS.l ((rdL m l).map Prod.snd) ≤ l.length
  | 0, l => ⟨Nat.le_refl _, Nat.zero_le _⟩
  | m + 1, l => by
    rw [rdL]
    split
    · exact ⟨Nat.zero_le _, Nat.zero_le _⟩
    · obtain ⟨h1, h2⟩ := rdL_lens m (valR (textR l).2).2
      have h3 := textR_sum l
      have h4 := valR_sum (textR l).2
      simp only [List.length_cons, List.map_cons, lens, id]
      constructor <;> omega
theorem rdB_lens : ∀ (m : Nat) (l : List UInt8), (rdB m l).length ≤ m ∧ lens id ((rdB m l).map Prod.fst) ≤ l.length
  | 0, l => ⟨Nat.le_refl _, Nat.zero_le _⟩
  | m + 1, l => by
    rw [rdB]
    split
    · exact ⟨Nat.zero_le _, Nat.zero_le _⟩
    · obtain ⟨h1, h2⟩ := rdB_lens m ((textR l).2.drop 2)
      have h3 := textR_sum l
      rw [List.length_drop] at h2
      simp only [List.length_cons, List.map_cons, lens, id]
      constructor <;> omega
theorem leafS_count (b : List UInt8) (hb : b.length ≤ 493) : (leafS b).count ≤ 100000 := by
  obtain ⟨h1, h2⟩ := rdL_lens (leN (b.take 1)) (b.drop 1)
  have h3 := leN_one b
  rw [List.length_drop] at h2
  unfold NdS.count leafS
  dsimp only
  rw [List.length_map, List.length_map, List.length_nil]
  omega
theorem branchS_count (b : List UInt8) (hb : b.length ≤ 493) : (branchS b).count ≤ 100000 := by
  obtain ⟨h1, h2⟩ := rdB_lens (leN (b.take 1)) ((b.drop 1).drop 2)
  have h3 := leN_one b
  rw [List.length_drop, List.length_drop] at h2
  unfold NdS.count branchS
  dsimp only
  rw [List.length_map, List.length_nil, List.length_cons, List.length_map]
  simp only [lens]
  omega

/-- The same, and the node's slices are the call's own. -/
def NdReadPostO (w : World) (k : Nat) (b : List UInt8) (e : Ending) (w' : World) : Prop :=
  (∃ n : Nd, e = .returned (.tuple #[n.cell, .int .i64 0]) ∧ readS k b n.s ∧ NOwn w' n ∧ Below w.heap.size w w') ∨ (e = .returned (.tuple #[Nd.zero.cell, .int .i64 11]) ∧ (∀ s, ¬ readS k b s) ∧ Below w.heap.size w w')

set_option maxHeartbeats 1600000 in
theorem ndReadO_any {w : World} (k : Nat) {p : Option Addr} {l : List UInt8} (hl : Bs w p l) {n c : Nat} (hn : n = l.length) (hnc : n ≤ c) (hc : c ≤ 9223372036854775807) (hz : p = none → c = 0) :
    Calls Tryz.prog 160 #[.int .u8 (k : Int), .slice p n c] w (NdReadPostO w k l) := by
  obtain ⟨W, hW⟩ : ∃ W, W = w.alloc (.cells #[.bool false, .slice none 0 0, .slice none 0 0, .slice none 0 0] 154) := ⟨_, rfl⟩
  have HBW : Hid (Below w.heap.size w W) := Lib.hid (by rw [hW]; exact (Below.refl _ _).alloc (Nat.le_refl _) _)
  have HR : Hid (RBox W w.heap.size) := Lib.hid (by rw [hW]; exact heap_alloc_new w _)
  have HPR := Lib.hid (pre_any (w := W) k (hl.below HBW.out) hn hnc hc hz)
  have HNO : Hid (∀ s, preS k l = some s → s.count ≤ 100000) := Lib.hid fun s hs => by
    unfold preS at hs
    split at hs
    · cases hs
    · split at hs
      · cases hs
        exact leafS_count l (by omega)
      · split at hs
        · cases hs
          exact branchS_count l (by omega)
        · cases hs
  have HL := Lib.hid hl
  have HLN := Lib.hid hn
  have HPK : Hid (∀ s, readS k l s ↔ preS k l = some s ∧ s.Right ∧ s.put = l) := Lib.hid fun s => Iff.rfl
  generalize preS k l = o at *
  clear hl hn
  obtain ⟨⟨r0, r1, r2, r3⟩, ⟨v0, v1, v2, v3⟩, hrl⟩ := HR.out.cells
  cases o with
  | none =>
    go_enter Tryz.func160, Tryz.ntmps160
    go_wp2_with fail
    rw [← hW]
    replace hW := Lib.hid hW
    refine HPR.out.mono ?_
    rintro e w1 ⟨rfl, hb1⟩
    have HR1 : Hid (RBox w1 w.heap.size) := Lib.hid ((hb1.block _ (Array.getElem?_eq_some_iff.1 HR.out).1).trans HR.out)
    have HB1 := Lib.hid (HBW.out.trans (hb1.mono HBW.out.size))
    clear hb1 r0 r1 r2 r3 v0 v1 v2 v3 hrl HPR
    obtain ⟨⟨r0, r1, r2, r3⟩, ⟨v0, v1, v2, v3⟩, hrl⟩ := HR1.out.cells
    have HF : Hid (∀ s, ¬ readS k l s) := Lib.hid fun s hs => by have := ((HPK.out s).1 hs).1; cases this
    rw [show Nd.zero.cell = .agg #[.bool false, .slice none 0 0, .slice none 0 0, .slice none 0 0] from rfl]
    have HB2 : Hid (∀ a b c e : Value, ∀ o : Obj, Below w.heap.size w (((((w1.setCell ⟨w.heap.size, 0, none⟩ a).setCell ⟨w.heap.size, 1, none⟩ b).setCell ⟨w.heap.size, 2, none⟩ c).setCell ⟨w.heap.size, 3, none⟩ e).alloc o)) := Lib.hid fun a b c e o => by
      have h := below4 HB1.out (Nat.le_refl _) a b c e
      exact h.alloc h.size _
    go_wp2
    refine bodyPost_ret (results_cell_tmp rfl _ _ w.heap.size 154 _ (0, 0) (by kernel_rfl) (alloc_blk (ndSet4 HR1.out)) Tryz.underlying154 (by kernel_rfl)) rfl ?_
    exact .inr ⟨rfl, HF.out, HB2.out _ _ _ _ _⟩
  | some s =>
    have HNS := Lib.hid (HNO.out s rfl)
    go_enter Tryz.func160, Tryz.ntmps160
    go_wp2_with fail
    rw [← hW]
    replace hW := Lib.hid hW
    refine HPR.out.mono ?_
    rintro e w1 ⟨m, rfl, hms, hmo, hb1⟩
    obtain ⟨W2, hW2⟩ : ∃ W2, W2 = w1.alloc (.cells #[.bool m.leaf, .slice m.kq m.ks.length m.kc, .slice m.vq m.vs.length m.vc, .slice m.iq m.is.length m.ic] 154) := ⟨_, rfl⟩
    have HB2 : Hid (Below W.heap.size W W2) := Lib.hid (by rw [hW2]; exact hb1.alloc hb1.size _)
    have HR2 : Hid (RBox W2 w.heap.size) := Lib.hid ((HB2.out.block _ (Array.getElem?_eq_some_iff.1 HR.out).1).trans HR.out)
    have HBX : Hid (W2.heap[w1.heap.size]? = some (.cells #[.bool m.leaf, .slice m.kq m.ks.length m.kc, .slice m.vq m.vs.length m.vc, .slice m.iq m.is.length m.ic] 154 (0, 0))) := Lib.hid (by rw [hW2]; exact heap_alloc_new w1 _)
    have HMO : Hid (NOwn W2 m) := Lib.hid (by rw [hW2]; exact hmo.below ((Below.refl _ _).alloc (Nat.le_refl _) _))
    have HMS := Lib.hid hms
    have HPT := Lib.hid (ndPut_any HMO.out.ok (by rw [hms]; exact HNS.out))
    rw [hms] at HPT
    unfold Nd.cell at HPT
    clear hmo hms hb1 r0 r1 r2 r3 v0 v1 v2 v3 hrl HPR
    dsimp only [Nd.cell]
    go_wp2_with fail
    rw [← hW2]
    replace hW2 := Lib.hid hW2
    with_reducible refine HPT.out.mono ?_
    have HBE : Hid (∀ w3, Below W2.heap.size W2 w3 → RBox w3 w.heap.size ∧ Below w.heap.size w w3 ∧ NOwn w3 m ∧ w3.heap[w1.heap.size]? = some (.cells #[.bool m.leaf, .slice m.kq m.ks.length m.kc, .slice m.vq m.vs.length m.vc, .slice m.iq m.is.length m.ic] 154 (0, 0)) ∧ Bs w3 p l) := Lib.hid fun w3 hb =>
      ⟨(hb.block _ (Array.getElem?_eq_some_iff.1 HR2.out).1).trans HR2.out, (HBW.out.trans (HB2.out.mono HBW.out.size)).trans (hb.mono (Nat.le_trans HBW.out.size HB2.out.size)), HMO.out.below hb, (hb.block _ (Array.getElem?_eq_some_iff.1 HBX.out).1).trans HBX.out, HL.out.below ((HBW.out.trans (HB2.out.mono HBW.out.size)).trans (hb.mono (Nat.le_trans HBW.out.size HB2.out.size)))⟩
    have HDN : Hid (∀ (w3 : World) (a b c e : Value), Below W2.heap.size W2 w3 → NOwn ((((w3.setCell ⟨w.heap.size, 0, none⟩ a).setCell ⟨w.heap.size, 1, none⟩ b).setCell ⟨w.heap.size, 2, none⟩ c).setCell ⟨w.heap.size, 3, none⟩ e) m ∧ Below w.heap.size w ((((w3.setCell ⟨w.heap.size, 0, none⟩ a).setCell ⟨w.heap.size, 1, none⟩ b).setCell ⟨w.heap.size, 2, none⟩ c).setCell ⟨w.heap.size, 3, none⟩ e)) := Lib.hid fun w3 a b c e hb =>
      ⟨(HBE.out w3 hb).2.2.1.off (HBE.out w3 hb).1 (gb4 w3 w.heap.size a b c e), below4 (HBE.out w3 hb).2.1 (Nat.le_refl _) a b c e⟩
    rintro e w3 (⟨hnr, rfl, hb⟩ | ⟨hri, g, kk, cc, rfl, hkk, ho, hb⟩)
    · have HF : Hid (∀ s, ¬ readS k l s) := Lib.hid fun s' hs => by
        have h1 := (HPK.out s').1 hs
        cases h1.1
        exact hnr h1.2.1
      have HB3 := Lib.hid hb
      have HR3 := Lib.hid (HBE.out w3 hb).1
      clear hnr hb HPT HNO HPK HMS HBX HMO
      obtain ⟨⟨r0, r1, r2, r3⟩, ⟨v0, v1, v2, v3⟩, hrl⟩ := HR3.out.cells
      go_wp2
      refine bodyPost_ret (results_cell_tmp rfl _ _ w.heap.size 154 _ (0, 0) (by kernel_rfl) (ndSet4 HR3.out) Tryz.underlying154 (by kernel_rfl)) rfl ?_
      exact .inr ⟨rfl, HF.out, (HDN.out w3 _ _ _ _ HB3.out).2⟩
    · have HB3 := Lib.hid hb
      obtain ⟨hr3, _, _, hbx3, hbs3⟩ := HBE.out w3 hb
      have HR3 := Lib.hid hr3
      obtain ⟨_, _, hv, _, _, hbp, _⟩ := ho.form hkk
      cases hv
      have HEQ := Lib.hid (bEqual_any (c := cc) (d := c) hbp hbs3 hkk HLN.out)
      have HRI := Lib.hid hri
      have x0 := (Joins.cell_of_block hbx3 0).trans rfl
      have x1 := (Joins.cell_of_block hbx3 1).trans rfl
      have x2 := (Joins.cell_of_block hbx3 2).trans rfl
      have x3 := (Joins.cell_of_block hbx3 3).trans rfl
      have hxl := (Array.getElem?_eq_some_iff.1 hbx3).1
      clear hb hri hr3 hbx3 hbs3 hkk ho hbp HPT
      obtain ⟨⟨r0, r1, r2, r3⟩, ⟨v0, v1, v2, v3⟩, hrl⟩ := HR3.out.cells
      by_cases heq : s.put = l
      · have HEE := Lib.hid heq
        rw [decide_eq_true heq] at HEQ
        clear heq
        go_wp2_with fail
        refine HEQ.out.mono ?_
        rintro e w4 ⟨rfl, rfl⟩
        go_wp2
        refine bodyPost_ret (results_cell_tmp rfl _ _ w.heap.size 154 _ (0, 0) (by kernel_rfl) (ndSet4 HR3.out) Tryz.underlying154 (by kernel_rfl)) rfl ?_
        obtain ⟨h1, h2⟩ := HDN.out w4 (.bool m.leaf) (.slice m.kq m.ks.length m.kc) (.slice m.vq m.vs.length m.vc) (.slice m.iq m.is.length m.ic) HB3.out
        exact .inl ⟨m, rfl, (HPK.out m.s).2 ⟨by rw [HMS.out], by rw [HMS.out]; exact HRI.out, by rw [HMS.out]; exact HEE.out⟩, h1, h2⟩
      · have HF : Hid (∀ s, ¬ readS k l s) := Lib.hid fun s' hs => by
          have h1 := (HPK.out s').1 hs
          cases h1.1
          exact heq h1.2.2
        rw [decide_eq_false heq] at HEQ
        clear heq
        go_wp2_with fail
        refine HEQ.out.mono ?_
        rintro e w4 ⟨rfl, rfl⟩
        go_wp2
        refine bodyPost_ret (results_cell_tmp rfl _ _ w.heap.size 154 _ (0, 0) (by kernel_rfl) (ndSet4 HR3.out) Tryz.underlying154 (by kernel_rfl)) rfl ?_
        exact .inr ⟨rfl, HF.out, (HDN.out w4 _ _ _ _ HB3.out).2⟩

theorem ndRead_any {w : World} (k : Nat) {p : Option Addr} {l : List UInt8} (hl : Bs w p l) {n c : Nat} (hn : n = l.length) (hnc : n ≤ c) (hc : c ≤ 9223372036854775807) (hz : p = none → c = 0) :
    Calls Tryz.prog 160 #[.int .u8 (k : Int), .slice p n c] w (NdReadPost w k l) :=
  (ndReadO_any k hl hn hnc hc hz).mono fun e w' h => by
    rcases h with ⟨n, h1, h2, h3, h4⟩ | h
    · exact .inl ⟨n, h1, h2, h3.ok, h4⟩
    · exact .inr h

end Go.Proofs.YtngnmakeaniapaaGreatDoor

