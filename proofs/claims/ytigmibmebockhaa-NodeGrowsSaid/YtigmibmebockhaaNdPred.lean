/-
  node.isNoPage, isWrong; slices.IndexFunc, ContainsFunc at them: contracts.
-/
import Derived.Test.YtigmibmebockhaaNdSize
set_option linter.unusedVariables false
set_option maxRecDepth 100000
namespace Go.Proofs.Ytigmibmebockhaa
open Go.RowKit

def noPage (i : Int) : Bool := decide (i < 2) || decide (4096 ≤ i)
def wrongV (v : Vl) : Bool := if v.p = 0 then (v.g != 0 || decide (64 < v.l.length)) else (noPage v.p || decide (v.g ≤ 64) || decide (4096 < v.g) || decide (0 < v.l.length))
theorem noPage_iff (i : Int) : noPage i = false ↔ PageOk i := by
  unfold noPage PageOk
  simp
theorem wrongV_iff (v : Vl) : wrongV v = false ↔ v.s.Right := by
  unfold wrongV VlS.Right Vl.s
  dsimp only
  have hp0 : ¬ PageOk 0 := by unfold PageOk; omega
  split
  · rename_i h
    rw [h]
    simp [hp0]
  · rename_i h
    simp only [Bool.or_eq_false_iff, noPage_iff, decide_eq_false_iff_not, Int.not_le, Int.not_lt, Nat.not_lt, Nat.le_zero_eq, List.length_eq_zero_iff, h, false_and, false_or]
    constructor
    · rintro ⟨⟨⟨h1, h2⟩, h3⟩, h4⟩
      exact ⟨h1, by omega, h3, h4⟩
    · rintro ⟨h1, h2, h3, h4⟩
      exact ⟨⟨⟨h1, by omega⟩, h3⟩, h4⟩

theorem noPage_any (w : World) (i : Int) : Calls Try.prog 61 #[.int .i64 i] w fun e w' => e = .returned (.bool (noPage i)) ∧ Below w.heap.size w w' := by
  unfold noPage
  by_cases h : i < 2
  · go_enter Try.func61, Try.ntmps61
    go_wp2
    go_ret
    exact ⟨ret_bool (by simp [h]), Below.refl _ _⟩
  · go_enter Try.func61, Try.ntmps61
    go_wp2
    go_ret
    exact ⟨ret_bool (by rw [show decide (i < 2) = false from decide_eq_false (by omega), Bool.false_or]), Below.refl _ _⟩

set_option maxHeartbeats 1600000 in
theorem wrong_any (w : World) (v : Vl) (hok : v.Ok w) : Calls Try.prog 59 #[v.cell] w fun e w' => e = .returned (.bool (wrongV v)) ∧ Below w.heap.size w w' := by
  obtain ⟨q, c, l, g, p⟩ := v
  have h1 := hok.h1
  have h2 := hok.h2
  unfold Vl.cell wrongV
  dsimp only at h1 h2 ⊢
  generalize l.length = m at *
  have HN := Lib.hid (fun w => noPage_any w p)
  clear hok
  by_cases hp : p = 0
  · subst hp
    rw [if_pos rfl]
    by_cases hg : g = 0
    · subst hg
      go_enter Try.func59, Try.ntmps59
      go_wp2
      go_ret
      exact ⟨ret_bool (by simp; try omega), ((Below.refl _ _).alloc (Nat.le_refl _) _)⟩
    · have hgb : (g != 0) = true := by simpa using hg
      clear hg
      go_enter Try.func59, Try.ntmps59
      go_wp2
      go_ret
      exact ⟨ret_bool (by simp [hgb]), ((Below.refl _ _).alloc (Nat.le_refl _) _)⟩
  · rw [if_neg hp]
    have hpb : (p == 0) = false := by simpa using hp
    clear hp
    generalize noPage p = np at *
    obtain ⟨W, hW⟩ : ∃ W, W = w.alloc (.cells #[.slice q m c, .int .i64 g, .int .i64 p] 42) := ⟨_, rfl⟩
    have HBW : Hid (Below w.heap.size w W) := Lib.hid (by rw [hW]; exact (Below.refl _ _).alloc (Nat.le_refl _) _)
    have hblk : W.heap[w.heap.size]? = some (.cells #[.slice q m c, .int .i64 g, .int .i64 p] 42 (0, 0)) := by rw [hW]; exact heap_alloc_new w _
    have HC : Hid (∀ w', Below W.heap.size W w' → w'.cell? ⟨w.heap.size, 0, none⟩ = some (.slice q m c) ∧ w'.cell? ⟨w.heap.size, 1, none⟩ = some (.int .i64 g) ∧ w'.cell? ⟨w.heap.size, 2, none⟩ = some (.int .i64 p)) := Lib.hid fun w' hb => by
      have h1 := (hb.block w.heap.size (by rw [hW]; simp)).trans hblk
      exact ⟨Joins.cell_of_block h1 0, Joins.cell_of_block h1 1, Joins.cell_of_block h1 2⟩
    have HBE : Hid (∀ w', Below W.heap.size W w' → Below w.heap.size w w') := Lib.hid fun w' hb => HBW.out.trans (hb.mono HBW.out.size)
    clear hblk
    obtain ⟨c0, c1, c2⟩ := HC.out W (Below.refl _ _)
    go_enter Try.func59, Try.ntmps59
    go_wp2_with fail
    rw [← hW]
    replace hW := Lib.hid hW
    go_wp2_with fail
    refine (HN.out _).mono ?_
    rintro e w1 ⟨rfl, hb⟩
    clear c0 c1 c2
    obtain ⟨c0, c1, c2⟩ := HC.out _ hb
    have HB := Lib.hid (HBE.out _ hb)
    clear hb
    cases np
    · by_cases h64 : g ≤ 64
      · go_wp2
        go_ret
        exact ⟨ret_bool (by simp [h64]), HB.out⟩
      · by_cases h40 : 4096 < g
        · go_wp2
          go_ret
          exact ⟨ret_bool (by simp [h40]), HB.out⟩
        · go_wp2
          go_ret
          exact ⟨ret_bool (by simp; try omega), HB.out⟩
    · go_wp2
      go_ret
      exact ⟨ret_bool (by simp), HB.out⟩

set_option maxHeartbeats 400000 in
theorem indexV_any {w : World} {q : Option Addr} {n c : Nat} {l : List Vl} (hn : n = l.length) (h1 : n ≤ c) (h2 : c ≤ 9223372036854775807) (hl : Vls w q l) (hok : ∀ a ∈ l, a.Ok w) :
    Calls Try.prog 63 #[.slice q n c, .func (.func 59) #[] #[]] w fun e w' => ∃ r : Int, e = .returned (.int .i64 r) ∧ decide (0 ≤ r) = l.any wrongV ∧ Below w.heap.size w w' := by
  have eg : ∀ args (w : World), (callFunc 59 args).run Try.prog w = .ok (.enter 59 args) w := fun _ _ => rfl
  have HN := Lib.hid hn
  have HL := Lib.hid hl
  have HOK := Lib.hid hok
  clear hn hl hok
  go_enter Try.func63, Try.ntmps63
  go_wp2
  go_loopw [8] (fun i wr => ∃ j : Nat, i = .int .i64 j ∧ j ≤ n ∧ Below w.heap.size w wr ∧ (l.take j).any wrongV = false) (fun i _ => n - (intOf i).toNat)
  case atStart => exact ⟨0, rfl, by omega, Below.refl _ _, rfl⟩
  case round =>
    obtain ⟨j, rfl, hj, hb, hany⟩ := hrel
    have HB := Lib.hid hb
    have HA := Lib.hid hany
    clear hb hany
    by_cases hlt : j < n
    · have hjl : j < l.length := by have := HN.out; omega
      obtain ⟨a, ha⟩ : ∃ a, l[j]? = some a := ⟨_, List.getElem?_eq_getElem hjl⟩
      obtain ⟨b, o, rfl, hblt, c1, c2, c3⟩ := (HL.out.below HB.out).at ha
      have hk := List.mem_of_getElem? ha
      have HT : Hid ((l.take (j + 1)).any wrongV = ((l.take j).any wrongV || wrongV a)) := Lib.hid (by
        rw [List.take_add_one, ha]
        simp)
      have HS : Hid (wrongV a = true → l.any wrongV = true) := Lib.hid (fun h => List.any_eq_true.2 ⟨a, hk, h⟩)
      have HM := Lib.hid (fun w' hb => wrong_any w' a ((HOK.out a hk).below hb))
      unfold Vl.cell at HM
      have ham := (HOK.out a hk).h1
      have ham2 := (HOK.out a hk).h2
      clear hk ha hjl
      go_wp2_with fail
      with_reducible refine (HM.out _ HB.out).mono ?_; rintro e w1 ⟨rfl, hb1⟩
      have HB1 := Lib.hid (HB.out.trans (hb1.mono HB.out.size))
      clear hb1
      by_cases hpa : wrongV a = true
      · have HPA := Lib.hid hpa
        go_wp2
        go_ret
        refine ⟨_, rfl, ?_, HB1.out⟩
        rw [HS.out HPA.out]
        simp
      · have hpa' : wrongV a = false := by simpa using hpa
        clear hpa
        have HPA := Lib.hid hpa'
        go_wp2
        go_roundw
        case rel => exact ⟨j + 1, by go_num, by omega, HB1.out, by rw [HT.out, HA.out, HPA.out]; rfl⟩
        case measure => simp [intOf]; omega
    · go_wp2
      go_ret
      refine ⟨-1, rfl, ?_, HB.out⟩
      have h3 := HA.out
      rw [List.take_of_length_le (by have := HN.out; omega)] at h3
      rw [h3]
      rfl

theorem containsV_any {w : World} {q : Option Addr} {n c : Nat} {l : List Vl} (hn : n = l.length) (h1 : n ≤ c) (h2 : c ≤ 9223372036854775807) (hl : Vls w q l) (hok : ∀ a ∈ l, a.Ok w) :
    Calls Try.prog 58 #[.slice q n c, .func (.func 59) #[] #[]] w fun e w' => e = .returned (.bool (l.any wrongV)) ∧ Below w.heap.size w w' := by
  have HC := Lib.hid (indexV_any (w := w) hn h1 h2 hl hok)
  clear hn hl hok
  generalize l.any wrongV = x at *
  go_enter Try.func58, Try.ntmps58
  go_wp2_with fail
  refine HC.out.mono ?_; rintro e w1 ⟨r, rfl, hr, hb⟩
  have HR := Lib.hid hr
  clear hr
  go_wp2
  go_ret
  exact ⟨ret_bool HR.out, hb⟩

set_option maxHeartbeats 400000 in
theorem indexI_any {w : World} {q : Option Addr} {n c : Nat} {l : List Int} (hn : n = l.length) (h1 : n ≤ c) (h2 : c ≤ 9223372036854775807) (hl : Ks w q l) :
    Calls Try.prog 64 #[.slice q n c, .func (.func 61) #[] #[]] w fun e w' => ∃ r : Int, e = .returned (.int .i64 r) ∧ decide (0 ≤ r) = l.any noPage ∧ Below w.heap.size w w' := by
  have eg : ∀ args (w : World), (callFunc 61 args).run Try.prog w = .ok (.enter 61 args) w := fun _ _ => rfl
  have HN := Lib.hid hn
  have HL := Lib.hid hl
  clear hn hl
  go_enter Try.func64, Try.ntmps64
  go_wp2
  go_loopw [8] (fun i wr => ∃ j : Nat, i = .int .i64 j ∧ j ≤ n ∧ Below w.heap.size w wr ∧ (l.take j).any noPage = false) (fun i _ => n - (intOf i).toNat)
  case atStart => exact ⟨0, rfl, by omega, Below.refl _ _, rfl⟩
  case round =>
    obtain ⟨j, rfl, hj, hb, hany⟩ := hrel
    have HB := Lib.hid hb
    have HA := Lib.hid hany
    clear hb hany
    by_cases hlt : j < n
    · have hjl : j < l.length := by have := HN.out; omega
      obtain ⟨a, ha⟩ : ∃ a, l[j]? = some a := ⟨_, List.getElem?_eq_getElem hjl⟩
      obtain ⟨b, o, rfl, c1⟩ := (HL.out.below HB.out).at ha
      have hblt := World.block_lt_of_cell? _ _ c1
      have hk := List.mem_of_getElem? ha
      have HT : Hid ((l.take (j + 1)).any noPage = ((l.take j).any noPage || noPage a)) := Lib.hid (by
        rw [List.take_add_one, ha]
        simp)
      have HS : Hid (noPage a = true → l.any noPage = true) := Lib.hid (fun h => List.any_eq_true.2 ⟨a, hk, h⟩)
      have HM := Lib.hid (fun w' => noPage_any w' a)
      clear hk ha hjl
      go_wp2_with fail
      with_reducible refine (HM.out _).mono ?_; rintro e w1 ⟨rfl, hb1⟩
      have HB1 := Lib.hid (HB.out.trans (hb1.mono HB.out.size))
      clear hb1
      by_cases hpa : noPage a = true
      · have HPA := Lib.hid hpa
        go_wp2
        go_ret
        refine ⟨_, rfl, ?_, HB1.out⟩
        rw [HS.out HPA.out]
        simp
      · have hpa' : noPage a = false := by simpa using hpa
        clear hpa
        have HPA := Lib.hid hpa'
        go_wp2
        go_roundw
        case rel => exact ⟨j + 1, by go_num, by omega, HB1.out, by rw [HT.out, HA.out, HPA.out]; rfl⟩
        case measure => simp [intOf]; omega
    · go_wp2
      go_ret
      refine ⟨-1, rfl, ?_, HB.out⟩
      have h3 := HA.out
      rw [List.take_of_length_le (by have := HN.out; omega)] at h3
      rw [h3]
      rfl

theorem containsI_any {w : World} {q : Option Addr} {n c : Nat} {l : List Int} (hn : n = l.length) (h1 : n ≤ c) (h2 : c ≤ 9223372036854775807) (hl : Ks w q l) :
    Calls Try.prog 60 #[.slice q n c, .func (.func 61) #[] #[]] w fun e w' => e = .returned (.bool (l.any noPage)) ∧ Below w.heap.size w w' := by
  have HC := Lib.hid (indexI_any (w := w) hn h1 h2 hl)
  clear hn hl
  generalize l.any noPage = x at *
  go_enter Try.func60, Try.ntmps60
  go_wp2_with fail
  refine HC.out.mono ?_; rintro e w1 ⟨r, rfl, hr, hb⟩
  have HR := Lib.hid hr
  clear hr
  go_wp2
  go_ret
  exact ⟨ret_bool HR.out, hb⟩

end Go.Proofs.Ytigmibmebockhaa
