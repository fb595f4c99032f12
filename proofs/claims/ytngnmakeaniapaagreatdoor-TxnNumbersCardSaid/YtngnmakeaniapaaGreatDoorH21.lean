/-
  node.isNoPage, isWrong; slices.IndexFunc, ContainsFunc at them: contracts.
  node.leafRight, branchRight, rise, Right: contracts.
-/
import Derived.Test.YtngnmakeaniapaaGreatDoorH20
import Derived.Test.YtngnmakeaniapaaGreatDoorH19
set_option linter.unusedVariables false
set_option maxRecDepth 100000
namespace Go.Proofs.YtngnmakeaniapaaGreatDoor
open Go.RowKit

def noPage (i : Int) : Bool := decide (i < 2) || decide (4096 ≤ i)
def wrongV (v : Vl) : Bool := if v.p = 0 then (v.g != 0 || decide (64 < v.l.length)) else (noPage v.p || decide (v.g ≤ 64) || decide (4096 < v.g) || decide (0 < v.l.length))
theorem noPage_iff (i : Int) : noPage i = false ↔ PageOk i := by
  unfold noPage PageOk
  simp
theorem wrongV_iff (v : Vl) : wrongV v = false ↔ v.s.Right := by
  unfold wrongV VlS.Right Vl.s
  dsimp only
  have hp0 : ¬ PageOk 0 := by unfold PageOk; omega
  split
  · rename_i h
    rw [h]
    simp [hp0]
  · rename_i h
    simp only [Bool.or_eq_false_iff, noPage_iff, decide_eq_false_iff_not, Int.not_le, Int.not_lt, Nat.not_lt, Nat.le_zero_eq, List.length_eq_zero_iff, h, false_and, false_or]
    constructor
    · rintro ⟨⟨⟨h1, h2⟩, h3⟩, h4⟩
      exact ⟨h1, by omega, h3, h4⟩
    · rintro ⟨h1, h2, h3, h4⟩
      exact ⟨⟨⟨h1, by omega⟩, h3⟩, h4⟩

theorem noPage_any (w : World) (i : Int) : Calls Tryz.prog 237 #[.int .i64 i] w fun e w' => e = .returned (.bool (noPage i)) ∧ Below w.heap.size w w' := by
  unfold noPage
  by_cases h : i < 2
  · go_enter Tryz.func237, Tryz.ntmps237
    go_wp2
    go_ret
    exact ⟨ret_bool (by simp [h]), Below.refl _ _⟩
  · go_enter Tryz.func237, Tryz.ntmps237
    go_wp2
    go_ret
    exact ⟨ret_bool (by rw [show decide (i < 2) = false from decide_eq_false (by omega), Bool.false_or]), Below.refl _ _⟩

set_option maxHeartbeats 1600000 in
theorem wrong_any (w : World) (v : Vl) (hok : v.Ok w) : Calls Tryz.prog 235 #[v.cell] w fun e w' => e = .returned (.bool (wrongV v)) ∧ Below w.heap.size w w' := by
  obtain ⟨q, c, l, g, p⟩ := v
  have h1 := hok.h1
  have h2 := hok.h2
  unfold Vl.cell wrongV
  dsimp only at h1 h2 ⊢
  generalize l.length = m at *
  have HN := Lib.hid (fun w => noPage_any w p)
  clear hok
  by_cases hp : p = 0
  · subst hp
    rw [if_pos rfl]
    by_cases hg : g = 0
    · subst hg
      go_enter Tryz.func235, Tryz.ntmps235
      go_wp2
      go_ret
      exact ⟨ret_bool (by simp; try omega), ((Below.refl _ _).alloc (Nat.le_refl _) _)⟩
    · have hgb : (g != 0) = true := by simpa using hg
      clear hg
      go_enter Tryz.func235, Tryz.ntmps235
      go_wp2
      go_ret
      exact ⟨ret_bool (by simp [hgb]), ((Below.refl _ _).alloc (Nat.le_refl _) _)⟩
  · rw [if_neg hp]
    have hpb : (p == 0) = false := by simpa using hp
    clear hp
    generalize noPage p = np at *
    obtain ⟨W, hW⟩ : ∃ W, W = w.alloc (.cells #[.slice q m c, .int .i64 g, .int .i64 p] 156) := ⟨_, rfl⟩
    have HBW : Hid (Below w.heap.size w W) := Lib.hid (by rw [hW]; exact (Below.refl _ _).alloc (Nat.le_refl _) _)
    have hblk : W.heap[w.heap.size]? = some (.cells #[.slice q m c, .int .i64 g, .int .i64 p] 156 (0, 0)) := by rw [hW]; exact heap_alloc_new w _
    have HC : Hid (∀ w', Below W.heap.size W w' → w'.cell? ⟨w.heap.size, 0, none⟩ = some (.slice q m c) ∧ w'.cell? ⟨w.heap.size, 1, none⟩ = some (.int .i64 g) ∧ w'.cell? ⟨w.heap.size, 2, none⟩ = some (.int .i64 p)) := Lib.hid fun w' hb => by
      have h1 := (hb.block w.heap.size (by rw [hW]; simp)).trans hblk
      exact ⟨Joins.cell_of_block h1 0, Joins.cell_of_block h1 1, Joins.cell_of_block h1 2⟩
    have HBE : Hid (∀ w', Below W.heap.size W w' → Below w.heap.size w w') := Lib.hid fun w' hb => HBW.out.trans (hb.mono HBW.out.size)
    clear hblk
    obtain ⟨c0, c1, c2⟩ := HC.out W (Below.refl _ _)
    go_enter Tryz.func235, Tryz.ntmps235
    go_wp2_with fail
    rw [← hW]
    replace hW := Lib.hid hW
    go_wp2_with fail
    refine (HN.out _).mono ?_
    rintro e w1 ⟨rfl, hb⟩
    clear c0 c1 c2
    obtain ⟨c0, c1, c2⟩ := HC.out _ hb
    have HB := Lib.hid (HBE.out _ hb)
    clear hb
    cases np
    · by_cases h64 : g ≤ 64
      · go_wp2
        go_ret
        exact ⟨ret_bool (by simp [h64]), HB.out⟩
      · by_cases h40 : 4096 < g
        · go_wp2
          go_ret
          exact ⟨ret_bool (by simp [h40]), HB.out⟩
        · go_wp2
          go_ret
          exact ⟨ret_bool (by simp; try omega), HB.out⟩
    · go_wp2
      go_ret
      exact ⟨ret_bool (by simp), HB.out⟩

set_option maxHeartbeats 400000 in
theorem indexV_any {w : World} {q : Option Addr} {n c : Nat} {l : List Vl} (hn : n = l.length) (h1 : n ≤ c) (h2 : c ≤ 9223372036854775807) (hl : Vls w q l) (hok : ∀ a ∈ l, a.Ok w) :
    Calls Tryz.prog 244 #[.slice q n c, .func (.func 235) #[] #[]] w fun e w' => ∃ r : Int, e = .returned (.int .i64 r) ∧ decide (0 ≤ r) = l.any wrongV ∧ Below w.heap.size w w' := by
  have eg : ∀ args (w : World), (callFunc 235 args).run Tryz.prog w = .ok (.enter 235 args) w := fun _ _ => rfl
  have HN := Lib.hid hn
  have HL := Lib.hid hl
  have HOK := Lib.hid hok
  clear hn hl hok
  go_enter Tryz.func244, Tryz.ntmps244
  go_wp2
  go_loopw [8] (fun i wr => ∃ j : Nat, i = .int .i64 j ∧ j ≤ n ∧ Below w.heap.size w wr ∧ (l.take j).any wrongV = false) (fun i _ => n - (intOf i).toNat)
  case atStart => exact ⟨0, rfl, by omega, Below.refl _ _, rfl⟩
  case round =>
    obtain ⟨j, rfl, hj, hb, hany⟩ := hrel
    have HB := Lib.hid hb
    have HA := Lib.hid hany
    clear hb hany
    by_cases hlt : j < n
    · have hjl : j < l.length := by have := HN.out; omega
      obtain ⟨a, ha⟩ : ∃ a, l[j]? = some a := ⟨_, List.getElem?_eq_getElem hjl⟩
      obtain ⟨b, o, rfl, hblt, c1, c2, c3⟩ := (HL.out.below HB.out).at ha
      have hk := List.mem_of_getElem? ha
      have HT : Hid ((l.take (j + 1)).any wrongV = ((l.take j).any wrongV || wrongV a)) := Lib.hid (by
        rw [List.take_add_one, ha]
        simp)
      have HS : Hid (wrongV a = true → l.any wrongV = true) := Lib.hid (fun h => List.any_eq_true.2 ⟨a, hk, h⟩)
      have HM := Lib.hid (fun w' hb => wrong_any w' a ((HOK.out a hk).below hb))
      unfold Vl.cell at HM
      have ham := (HOK.out a hk).h1
      have ham2 := (HOK.out a hk).h2
      clear hk ha hjl
      go_wp2_with fail
      with_reducible refine (HM.out _ HB.out).mono ?_; rintro e w1 ⟨rfl, hb1⟩
      have HB1 := Lib.hid (HB.out.trans (hb1.mono HB.out.size))
      clear hb1
      by_cases hpa : wrongV a = true
      · have HPA := Lib.hid hpa
        go_wp2
        go_ret
        refine ⟨_, rfl, ?_, HB1.out⟩
        rw [HS.out HPA.out]
        simp
      · have hpa' : wrongV a = false := by simpa using hpa
        clear hpa
        have HPA := Lib.hid hpa'
        go_wp2
        go_roundw
        case rel => exact ⟨j + 1, by go_num, by omega, HB1.out, by rw [HT.out, HA.out, HPA.out]; rfl⟩
        case measure => simp [intOf]; omega
    · go_wp2
      go_ret
      refine ⟨-1, rfl, ?_, HB.out⟩
      have h3 := HA.out
      rw [List.take_of_length_le (by have := HN.out; omega)] at h3
      rw [h3]
      rfl

theorem containsV_any {w : World} {q : Option Addr} {n c : Nat} {l : List Vl} (hn : n = l.length) (h1 : n ≤ c) (h2 : c ≤ 9223372036854775807) (hl : Vls w q l) (hok : ∀ a ∈ l, a.Ok w) :
    Calls Tryz.prog 234 #[.slice q n c, .func (.func 235) #[] #[]] w fun e w' => e = .returned (.bool (l.any wrongV)) ∧ Below w.heap.size w w' := by
  have HC := Lib.hid (indexV_any (w := w) hn h1 h2 hl hok)
  clear hn hl hok
  generalize l.any wrongV = x at *
  go_enter Tryz.func234, Tryz.ntmps234
  go_wp2_with fail
  refine HC.out.mono ?_; rintro e w1 ⟨r, rfl, hr, hb⟩
  have HR := Lib.hid hr
  clear hr
  go_wp2
  go_ret
  exact ⟨ret_bool HR.out, hb⟩

set_option maxHeartbeats 400000 in
theorem indexI_any {w : World} {q : Option Addr} {n c : Nat} {l : List Int} (hn : n = l.length) (h1 : n ≤ c) (h2 : c ≤ 9223372036854775807) (hl : Ks w q l) :
    Calls Tryz.prog 245 #[.slice q n c, .func (.func 237) #[] #[]] w fun e w' => ∃ r : Int, e = .returned (.int .i64 r) ∧ decide (0 ≤ r) = l.any noPage ∧ Below w.heap.size w w' := by
  have eg : ∀ args (w : World), (callFunc 237 args).run Tryz.prog w = .ok (.enter 237 args) w := fun _ _ => rfl
  have HN := Lib.hid hn
  have HL := Lib.hid hl
  clear hn hl
  go_enter Tryz.func245, Tryz.ntmps245
  go_wp2
  go_loopw [8] (fun i wr => ∃ j : Nat, i = .int .i64 j ∧ j ≤ n ∧ Below w.heap.size w wr ∧ (l.take j).any noPage = false) (fun i _ => n - (intOf i).toNat)
  case atStart => exact ⟨0, rfl, by omega, Below.refl _ _, rfl⟩
  case round =>
    obtain ⟨j, rfl, hj, hb, hany⟩ := hrel
    have HB := Lib.hid hb
    have HA := Lib.hid hany
    clear hb hany
    by_cases hlt : j < n
    · have hjl : j < l.length := by have := HN.out; omega
      obtain ⟨a, ha⟩ : ∃ a, l[j]? = some a := ⟨_, List.getElem?_eq_getElem hjl⟩
      obtain ⟨b, o, rfl, c1⟩ := (HL.out.below HB.out).at ha
      have hblt := World.block_lt_of_cell? _ _ c1
      have hk := List.mem_of_getElem? ha
      have HT : Hid ((l.take (j + 1)).any noPage = ((l.take j).any noPage || noPage a)) := Lib.hid (by
        rw [List.take_add_one, ha]
        simp)
      have HS : Hid (noPage a = true → l.any noPage = true) := Lib.hid (fun h => List.any_eq_true.2 ⟨a, hk, h⟩)
      have HM := Lib.hid (fun w' => noPage_any w' a)
      clear hk ha hjl
      go_wp2_with fail
      with_reducible refine (HM.out _).mono ?_; rintro e w1 ⟨rfl, hb1⟩
      have HB1 := Lib.hid (HB.out.trans (hb1.mono HB.out.size))
      clear hb1
      by_cases hpa : noPage a = true
      · have HPA := Lib.hid hpa
        go_wp2
        go_ret
        refine ⟨_, rfl, ?_, HB1.out⟩
        rw [HS.out HPA.out]
        simp
      · have hpa' : noPage a = false := by simpa using hpa
        clear hpa
        have HPA := Lib.hid hpa'
        go_wp2
        go_roundw
        case rel => exact ⟨j + 1, by go_num, by omega, HB1.out, by rw [HT.out, HA.out, HPA.out]; rfl⟩
        case measure => simp [intOf]; omega
    · go_wp2
      go_ret
      refine ⟨-1, rfl, ?_, HB.out⟩
      have h3 := HA.out
      rw [List.take_of_length_le (by have := HN.out; omega)] at h3
      rw [h3]
      rfl

theorem containsI_any {w : World} {q : Option Addr} {n c : Nat} {l : List Int} (hn : n = l.length) (h1 : n ≤ c) (h2 : c ≤ 9223372036854775807) (hl : Ks w q l) :
    Calls Tryz.prog 236 #[.slice q n c, .func (.func 237) #[] #[]] w fun e w' => e = .returned (.bool (l.any noPage)) ∧ Below w.heap.size w w' := by
  have HC := Lib.hid (indexI_any (w := w) hn h1 h2 hl)
  clear hn hl
  generalize l.any noPage = x at *
  go_enter Tryz.func236, Tryz.ntmps236
  go_wp2_with fail
  refine HC.out.mono ?_; rintro e w1 ⟨r, rfl, hr, hb⟩
  have HR := Lib.hid hr
  clear hr
  go_wp2
  go_ret
  exact ⟨ret_bool HR.out, hb⟩

end Go.Proofs.YtngnmakeaniapaaGreatDoor

set_option linter.unusedVariables false
set_option maxRecDepth 100000
namespace Go.Proofs.YtngnmakeaniapaaGreatDoor
open Go.RowKit

theorem any_wrong {l : List Vl} : l.any wrongV = false ↔ ∀ v ∈ l.map Vl.s, v.Right := by
  rw [List.any_eq_false]
  constructor
  · intro h v hv
    obtain ⟨x, hx, rfl⟩ := List.mem_map.1 hv
    exact (wrongV_iff x).1 (by simpa using h x hx)
  · intro h x hx
    have := (wrongV_iff x).2 (h _ (List.mem_map_of_mem hx))
    simp [this]
theorem any_page {l : List Int} : l.any noPage = false ↔ ∀ i ∈ l, PageOk i := by
  rw [List.any_eq_false]
  constructor
  · intro h v hv
    exact (noPage_iff v).1 (by simpa using h v hv)
  · intro h x hx
    have := (noPage_iff x).2 (h _ hx)
    simp [this]

/-- It tells whether P. -/
def TellsB (P : Prop) (w : World) (e : Ending) (w' : World) : Prop := ∃ b : Bool, e = .returned (.bool b) ∧ (b = true ↔ P) ∧ Below w.heap.size w w'

/-- The box of a node behind go_enter, and what is told of it in later worlds. -/
theorem nd_box (w : World) (n : Nd) : ∃ W, W = w.alloc (.cells #[.bool n.leaf, .slice n.kq n.ks.length n.kc, .slice n.vq n.vs.length n.vc, .slice n.iq n.is.length n.ic] 154) ∧ Below w.heap.size w W ∧ W.heap.size = w.heap.size + 1 ∧
    (∀ w', Below W.heap.size W w' → Below w.heap.size w w' ∧ w'.cell? ⟨w.heap.size, 0, none⟩ = some (.bool n.leaf) ∧ w'.cell? ⟨w.heap.size, 1, none⟩ = some (.slice n.kq n.ks.length n.kc) ∧ w'.cell? ⟨w.heap.size, 2, none⟩ = some (.slice n.vq n.vs.length n.vc) ∧ w'.cell? ⟨w.heap.size, 3, none⟩ = some (.slice n.iq n.is.length n.ic)) := by
  refine ⟨_, rfl, (Below.refl _ _).alloc (Nat.le_refl _) _, by simp, fun w' hb => ?_⟩
  have h1 := (hb.block w.heap.size (by simp)).trans (heap_alloc_new w _)
  exact ⟨((Below.refl _ _).alloc (Nat.le_refl _) _).trans (hb.mono (by simp)), Joins.cell_of_block h1 0, Joins.cell_of_block h1 1, Joins.cell_of_block h1 2, Joins.cell_of_block h1 3⟩

set_option maxHeartbeats 1600000 in
theorem leafRight_any {w : World} {n : Nd} (h : n.Ok w) :
    Calls Tryz.prog 218 #[n.cell] w (TellsB n.s.LeafRight w) := by
  obtain ⟨W, hW, hbw, hws, hc⟩ := nd_box w n
  have HC := Lib.hid hc
  have HBW := Lib.hid hbw
  have HV := Lib.hid (containsV_any (w := W) (q := n.vq) (n := n.vs.length) (c := n.vc) (l := n.vs) rfl h.v1 h.v2 (h.vl.below hbw) (fun a ha => (h.vo a ha).below hbw))
  have HR : Hid (n.s.LeafRight ↔ n.vs.length = n.ks.length ∧ n.is.length = 0 ∧ n.vs.any wrongV = false) := Lib.hid (by
    rw [any_wrong]
    unfold NdS.LeafRight Nd.s
    dsimp only
    rw [List.length_map, List.length_map, List.length_eq_zero_iff])
  generalize n.s.LeafRight = P at *
  generalize n.vs.any wrongV = x at *
  have k1 := h.k1
  have k2 := h.k2
  have v1 := h.v1
  have v2 := h.v2
  have i1 := h.i1
  have i2 := h.i2
  unfold Nd.cell
  generalize n.ks.length = km at *
  generalize n.vs.length = vm at *
  generalize n.is.length = im at *
  clear h hbw hc
  obtain ⟨_, c0, c1, c2, c3⟩ := HC.out W (Below.refl _ _)
  by_cases hm : vm = km
  · subst hm
    by_cases hi : im = 0
    · subst hi
      go_enter Tryz.func218, Tryz.ntmps218
      go_wp2_with fail
      rw [← hW]
      replace hW := Lib.hid hW
      go_wp2_with fail
      refine HV.out.mono ?_
      rintro e w1 ⟨rfl, hb⟩
      have HB := Lib.hid (HC.out _ hb).1
      go_wp2
      go_ret
      refine ⟨_, rfl, ?_, HB.out⟩
      rw [HR.out]
      simp
    · have hib : ((im : Int) == 0) = false := by simpa using hi
      have HI := Lib.hid hi
      clear hi
      go_enter Tryz.func218, Tryz.ntmps218
      go_wp2_with fail
      rw [← hW]
      replace hW := Lib.hid hW
      go_wp2
      go_ret
      refine ⟨_, rfl, ?_, HBW.out⟩
      rw [HR.out]
      have := HI.out
      simp [this]
  · have hib : ((vm : Int) == (km : Int)) = false := by rw [beq_eq_false_iff_ne]; omega
    have hib2 : (vm == km) = false := by simpa using hm
    have HI := Lib.hid hm
    clear hm
    go_enter Tryz.func218, Tryz.ntmps218
    go_wp2_with fail
    rw [← hW]
    replace hW := Lib.hid hW
    go_wp2
    go_ret
    refine ⟨_, rfl, ?_, HBW.out⟩
    rw [HR.out]
    have := HI.out
    simp [this]

set_option maxHeartbeats 1600000 in
theorem branchRight_any {w : World} {n : Nd} (h : n.Ok w) (hk : n.ks.length ≤ 100000) :
    Calls Tryz.prog 219 #[n.cell] w (TellsB n.s.BranchRight w) := by
  obtain ⟨W, hW, hbw, hws, hc⟩ := nd_box w n
  have HC := Lib.hid hc
  have HBW := Lib.hid hbw
  have HV := Lib.hid (containsI_any (w := W) (q := n.iq) (n := n.is.length) (c := n.ic) (l := n.is) rfl h.i1 h.i2 (h.il.below hbw))
  have HR : Hid (n.s.BranchRight ↔ n.is.length = n.ks.length + 1 ∧ n.vs.length = 0 ∧ n.is.any noPage = false) := Lib.hid (by
    rw [any_page]
    unfold NdS.BranchRight Nd.s
    dsimp only
    rw [List.length_map, List.map_eq_nil_iff, List.length_eq_zero_iff])
  generalize n.s.BranchRight = P at *
  generalize n.is.any noPage = x at *
  have k1 := h.k1
  have k2 := h.k2
  have v1 := h.v1
  have v2 := h.v2
  have i1 := h.i1
  have i2 := h.i2
  unfold Nd.cell
  generalize n.ks.length = km at *
  generalize n.vs.length = vm at *
  generalize n.is.length = im at *
  clear h hbw hc
  obtain ⟨_, c0, c1, c2, c3⟩ := HC.out W (Below.refl _ _)
  by_cases hm : im = km + 1
  · subst hm
    by_cases hi : vm = 0
    · subst hi
      go_enter Tryz.func219, Tryz.ntmps219
      go_wp2_with fail
      rw [← hW]
      replace hW := Lib.hid hW
      go_wp2_with fail
      refine HV.out.mono ?_
      rintro e w1 ⟨rfl, hb⟩
      have HB := Lib.hid (HC.out _ hb).1
      go_wp2
      go_ret
      refine ⟨_, rfl, ?_, HB.out⟩
      rw [HR.out]
      simp
    · have hib : ((vm : Int) == 0) = false := by simpa using hi
      have HI := Lib.hid hi
      clear hi
      go_enter Tryz.func219, Tryz.ntmps219
      go_wp2_with fail
      rw [← hW]
      replace hW := Lib.hid hW
      go_wp2
      go_ret
      refine ⟨_, rfl, ?_, HBW.out⟩
      rw [HR.out]
      have := HI.out
      simp [this]
  · have hib : ((im : Int) == (km : Int) + 1) = false := by rw [beq_eq_false_iff_ne]; omega
    have hib2 : (im == km + 1) = false := by simpa using hm
    have HI := Lib.hid hm
    clear hm
    go_enter Tryz.func219, Tryz.ntmps219
    go_wp2_with fail
    rw [← hW]
    replace hW := Lib.hid hW
    go_wp2
    go_ret
    refine ⟨_, rfl, ?_, HBW.out⟩
    rw [HR.out]
    have := HI.out
    simp [this]

set_option maxHeartbeats 1600000 in
theorem rise_any {w : World} {n : Nd} (h : n.Ok w) (hk : n.ks.length ≤ 100000) :
    Calls Tryz.prog 217 #[.slice n.kq n.ks.length n.kc] w (TellsB (Rise n.s.ks) w) := by
  have hk1 := h.k1
  have hk2 := h.k2
  have HL := Lib.hid h.kl
  have HOK := Lib.hid h.ko
  obtain ⟨ks, hks⟩ : ∃ ks, ks = n.ks := ⟨_, rfl⟩
  rw [Nd.s_ks, ← hks]
  rw [← hks] at hk hk1 HL HOK
  obtain ⟨m, hm⟩ : ∃ m, m = ks.length := ⟨_, rfl⟩
  have HM := Lib.hid hm
  rw [← hm] at hk hk1 ⊢
  generalize n.kq = q at *
  generalize n.kc = c at *
  clear h hks hm
  go_enter Tryz.func217, Tryz.ntmps217
  go_wp2
  go_loopw [7] (fun i wr => ∃ j : Nat, i = .int .i64 (j : Int) ∧ j ≤ m ∧ wr = w ∧ (∀ i k, i < j → (ks.map Kb.l)[i]? = some k → k.length ≤ 72 ∧ ∀ k', 0 < i → (ks.map Kb.l)[i - 1]? = some k' → Lib.compareBytes k' k < 0)) (fun i _ => m - (intOf i).toNat)
  case atStart => exact ⟨0, rfl, by omega, rfl, fun i k hi => absurd hi (by omega)⟩
  case round =>
    obtain ⟨j, rfl, hj, hw, hall⟩ := hrel
    subst hw
    have HA := Lib.hid hall
    clear hall
    by_cases hlt : j < m
    · obtain ⟨x, hx⟩ : ∃ x, ks[j]? = some x := ⟨_, List.getElem?_eq_getElem (by have := HM.out; omega)⟩
      have hm2 := List.mem_of_getElem? hx
      obtain ⟨b, o, rfl, hblt, hkc⟩ := HL.out.at hx
      have hx0 := HOK.out x hm2
      have hx1 := hx0.h1
      have hx2 := hx0.h2
      have HX := Lib.hid hx
      have HKX := Lib.hid hx0
      obtain ⟨xl, hxl⟩ : ∃ y, y = x.l.length := ⟨_, rfl⟩
      have HXL := Lib.hid hxl
      rw [← hxl] at hkc hx1
      clear hx hm2 hx0 hxl
      by_cases h72 : 72 < xl
      · go_wp2
        go_ret
        refine ⟨false, rfl, ?_, Below.refl _ _⟩
        refine ⟨fun h => (by cases h), fun hr => ?_⟩
        have := (hr j x.l (by rw [List.getElem?_map, HX.out]; rfl)).1
        have := HXL.out
        omega
      · rcases Nat.eq_zero_or_pos j with hj0 | hj0
        · subst hj0
          rw [show ((0 : Nat) : Int) = 0 from rfl]
          rw [Nat.add_zero] at hkc
          go_wp2
          go_roundw
          case rel =>
            refine ⟨1, by go_num, by omega, trivial, fun i k hi hk => ?_⟩
            obtain rfl : i = 0 := by omega
            rw [List.getElem?_map, HX.out] at hk
            cases hk
            exact ⟨by have := HXL.out; omega, fun _ h0 => absurd h0 (by omega)⟩
          case measure => simp [intOf]; omega
        · obtain ⟨i, hi⟩ : ∃ i, i + 1 = j := ⟨j - 1, by omega⟩
          obtain ⟨y, hy⟩ : ∃ y, ks[i]? = some y := ⟨_, List.getElem?_eq_getElem (by have := HM.out; omega)⟩
          obtain ⟨b', o', hbe, hblt', hkc'⟩ := HL.out.at hy
          cases hbe
          have hy0 := HOK.out y (List.mem_of_getElem? hy)
          have HCM := Lib.hid (bytesCompare_any (w := wr) hy0.bs HKX.out.bs y.l.length y.c xl x.c rfl HXL.out hy0.z HKX.out.z)
          have HY := Lib.hid hy
          have hcast : (j : Int) - 1 = (i : Int) := by omega
          have hil : (i : Int) < m := by omega
          have hil2 : i < m := by omega
          have HI := Lib.hid hi
          have hy1 := hy0.h1
          have hy2 := hy0.h2
          clear hy hy0 hi
          go_wp2_with fail
          refine HCM.out.mono ?_
          rintro e w1 ⟨rfl, rfl⟩
          obtain ⟨cb, hcb⟩ : ∃ z, z = Lib.compareBytes y.l x.l := ⟨_, rfl⟩
          rw [← hcb]
          have HCB := Lib.hid hcb
          clear hcb HCM
          by_cases hcs : 0 ≤ cb
          · go_wp2
            go_ret
            refine ⟨false, rfl, ?_, Below.refl _ _⟩
            refine ⟨fun h => (by cases h), fun hr => ?_⟩
            have h1 := (hr j x.l (by rw [List.getElem?_map, HX.out]; rfl)).2 y.l hj0 (by rw [List.getElem?_map, show j - 1 = i by have := HI.out; omega, HY.out]; rfl)
            have := HCB.out
            omega
          · go_wp2
            go_roundw
            case rel =>
              refine ⟨j + 1, by go_num, by omega, trivial, fun i' k hi' hk => ?_⟩
              rcases Nat.lt_or_ge i' j with h | h
              · exact HA.out i' k h hk
              · obtain rfl : i' = j := by omega
                rw [List.getElem?_map, HX.out] at hk
                cases hk
                refine ⟨by have := HXL.out; omega, fun k' _ hk' => ?_⟩
                rw [List.getElem?_map, show i' - 1 = i by have := HI.out; omega, HY.out] at hk'
                cases hk'
                have := HCB.out
                omega
            case measure => simp [intOf]; omega
    · go_wp2
      go_ret
      refine ⟨true, rfl, ⟨fun _ i k hk => HA.out i k ?_ hk, fun _ => rfl⟩, Below.refl _ _⟩
      have := (List.getElem?_eq_some_iff.1 hk).1
      rw [List.length_map] at this
      have := HM.out
      omega

set_option maxHeartbeats 1600000 in
theorem ndRight_any {w : World} {n : Nd} (h : n.Ok w) (hc : n.s.count ≤ 100000) :
    Calls Tryz.prog 198 #[n.cell] w (TellsB n.s.Right w) := by
  obtain ⟨f1, _⟩ := Nd.few hc
  obtain ⟨W, hW, hbw, hws, hcc⟩ := nd_box w n
  have HC := Lib.hid hcc
  have HBW := Lib.hid hbw
  have HBS : Hid (∀ w', Below W.heap.size W w' → Below w.heap.size w w') := Lib.hid fun w' hb => (hcc w' hb).1
  have HRI := Lib.hid (rise_any (h.below hbw) f1)
  have HLR := Lib.hid (fun w' hb => leafRight_any (w := w') ((h.below hbw).below hb))
  have HBR := Lib.hid (fun w' hb => branchRight_any (w := w') ((h.below hbw).below hb) f1)
  have HSZ := Lib.hid (fun w' hb => size_any (w := w') ((h.below hbw).below hb) hc)
  have hsz2 : n.s.size ≤ 600003 := Nat.le_trans n.s.size_le (by omega)
  have HP : Hid (n.s.Right ↔ n.ks.length ≤ 250 ∧ Rise n.s.ks ∧ (n.leaf = true → n.s.LeafRight) ∧ (n.leaf = false → n.s.BranchRight) ∧ n.s.size ≤ 493) := Lib.hid
    ⟨fun r => ⟨by have := r.many; rwa [Nd.s_ks, List.length_map] at this, r.rise, r.leaf, r.branch, r.size⟩, fun ⟨r1, r2, r3, r4, r5⟩ => ⟨by rwa [Nd.s_ks, List.length_map], r2, r3, r4, r5⟩⟩
  have k1 := h.k1
  have k2 := h.k2
  unfold Nd.cell at HLR HBR HSZ ⊢
  generalize n.s.Right = P at *
  generalize Rise n.s.ks = PR at *
  generalize n.s.LeafRight = PL at *
  generalize n.s.BranchRight = PB at *
  generalize n.s.size = sz at *
  generalize n.ks.length = km at *
  generalize n.leaf = lf at *
  clear h hbw hcc hc
  obtain ⟨_, c0, c1, c2, c3⟩ := HC.out W (Below.refl _ _)
  by_cases hm : 250 < km
  · have HI := Lib.hid hm
    go_enter Tryz.func198, Tryz.ntmps198
    go_wp2_with fail
    rw [← hW]
    replace hW := Lib.hid hW
    go_wp2
    go_ret
    refine ⟨_, rfl, ?_, HBW.out⟩
    refine ⟨fun h => (by cases h), fun h => ?_⟩
    have := (HP.out.1 h).1
    have := HI.out
    omega
  · have HI := Lib.hid hm
    go_enter Tryz.func198, Tryz.ntmps198
    go_wp2_with fail
    rw [← hW]
    replace hW := Lib.hid hW
    go_wp2_with fail
    refine HRI.out.mono ?_
    rintro e w1 ⟨b1, rfl, hb1, hb⟩
    clear c0 c1 c2 c3
    obtain ⟨_, c0, c1, c2, c3⟩ := HC.out _ hb
    have HB := Lib.hid hb
    have HB1 := Lib.hid hb1
    clear hb hb1
    cases b1
    · go_wp2
      go_ret
      refine ⟨_, rfl, ?_, HBS.out _ HB.out⟩
      refine ⟨fun h => (by cases h), fun h => ?_⟩
      have := HB1.out.2 (HP.out.1 h).2.1
      cases this
    · cases lf
      · go_wp2_with fail
        with_reducible refine (HBR.out _ HB.out).mono ?_
        rintro e w2 ⟨b2, rfl, hb2, hb⟩
        clear c0 c1 c2 c3
        have HBB := Lib.hid (HB.out.trans (hb.mono HB.out.size))
        obtain ⟨_, c0, c1, c2, c3⟩ := HC.out _ HBB.out
        have HB2 := Lib.hid hb2
        clear hb hb2
        cases b2
        · go_wp2
          go_ret
          refine ⟨_, rfl, ?_, HBS.out _ HBB.out⟩
          refine ⟨fun h => (by cases h), fun h => ?_⟩
          have := HB2.out.2 ((HP.out.1 h).2.2.2.1 (by trivial))
          cases this
        · go_wp2_with fail
          with_reducible refine (HSZ.out _ HBB.out).mono ?_
          rintro e w3 ⟨rfl, hb⟩
          have HBC := Lib.hid (HBB.out.trans (hb.mono HBB.out.size))
          clear hb c0 c1 c2 c3
          go_wp2
          go_ret
          refine ⟨_, rfl, ?_, HBS.out _ HBC.out⟩
          rw [HP.out]
          have h1 := HB1.out.1 (by trivial)
          have h2 := HB2.out.1 (by trivial)
          have h3 := HI.out
          simp only [decide_eq_true_eq]
          exact ⟨fun h => ⟨by omega, h1, fun h => (by cases h), fun _ => h2, by omega⟩, fun h => (by have := h.2.2.2.2; omega)⟩
      · go_wp2_with fail
        with_reducible refine (HLR.out _ HB.out).mono ?_
        rintro e w2 ⟨b2, rfl, hb2, hb⟩
        clear c0 c1 c2 c3
        have HBB := Lib.hid (HB.out.trans (hb.mono HB.out.size))
        obtain ⟨_, c0, c1, c2, c3⟩ := HC.out _ HBB.out
        have HB2 := Lib.hid hb2
        clear hb hb2
        cases b2
        · go_wp2
          go_ret
          refine ⟨_, rfl, ?_, HBS.out _ HBB.out⟩
          refine ⟨fun h => (by cases h), fun h => ?_⟩
          have := HB2.out.2 ((HP.out.1 h).2.2.1 (by trivial))
          cases this
        · go_wp2_with fail
          with_reducible refine (HSZ.out _ HBB.out).mono ?_
          rintro e w3 ⟨rfl, hb⟩
          have HBC := Lib.hid (HBB.out.trans (hb.mono HBB.out.size))
          clear hb c0 c1 c2 c3
          go_wp2
          go_ret
          refine ⟨_, rfl, ?_, HBS.out _ HBC.out⟩
          rw [HP.out]
          have h1 := HB1.out.1 (by trivial)
          have h2 := HB2.out.1 (by trivial)
          have h3 := HI.out
          simp only [decide_eq_true_eq]
          exact ⟨fun h => ⟨by omega, h1, fun _ => h2, fun h => (by cases h), by omega⟩, fun h => (by have := h.2.2.2.2; omega)⟩

end Go.Proofs.YtngnmakeaniapaaGreatDoor

