/-
  The law ValueLists: the walk.
-/
import Derived.Test.YtekaedafhiddeaaVlI
import Derived.Test.YtekaedafhiddeaaVRefW
import Derived.Test.YtekaedafhiddeaaO2
import Derived.Test.YtekaedafhiddeaaVlP
import Derived.Deep.RegionHeld
import Derived.LoopTactic
set_option linter.unusedVariables false
set_option linter.unusedSimpArgs false
set_option maxRecDepth 100000
namespace Go.Proofs.Ytekaedafhiddeaa
open Go.RowKit

theorem wp_cutV {P : Program} {c : Code} {Q : Exit → Act → World → Prop} {a : Act} {w : World} (R : Act → Act → World → Prop) (h1 : c.wp P (fun e a' w' => e = .normal ∧ R a a' w') a w) (h2 : ∀ a' w', R a a' w' → Q .normal a' w') : c.wp P Q a w :=
  Code.wp_mono (fun e a' w' h => by obtain ⟨rfl, h⟩ := h; exact h2 _ _ h) h1

/-- Three lists in boxes of the call's own. -/
structure EndV (Wb : World) (al : List At) (b c : At) (g8 g9 g10 : Nat) (v20 v24 v29 : Value) (w : World) : Prop where
  h8 : w.heap[g8]? = some (.cells #[.int .i64 6, .int .i64 0, .float .f64 0, .string ⟨#[]⟩, v20] 46 (0, 0))
  h9 : w.heap[g9]? = some (.cells #[.int .i64 6, .int .i64 0, .float .f64 0, .string ⟨#[]⟩, v24] 46 (0, 0))
  h10 : w.heap[g10]? = some (.cells #[.int .i64 6, .int .i64 0, .float .f64 0, .string ⟨#[]⟩, v29] 46 (0, 0))
  o20 : AOwn w Wb.heap.size v20 al
  o24 : AOwn w Wb.heap.size v24 (al ++ [b])
  o29 : AOwn w Wb.heap.size v29 (al ++ [c, b])
  bl : Below Wb.heap.size Wb w

set_option maxHeartbeats 400000000 in
theorem lawVLists_any {w : World} {q : Option Addr} {m0 c' : Nat} {al0 : List At} (hal : As w q al0) (hn0 : m0 = al0.length) (hmc : m0 ≤ c') (hc63 : c' ≤ 9223372036854775807) (hz : q = none → c' = 0) (hok : ∀ a ∈ al0, a.Ok) {b c : At} (hb : b.Ok) (hc : c.Ok) :
    Calls Try.prog 5 #[.slice q m0 c', .agg #[.int .i64 b.k, .int .i64 b.n, .float .f64 b.f, .string b.s], .agg #[.int .i64 c.k, .int .i64 c.n, .float .f64 c.f, .string c.s]] w fun e w' => e = .returned (.bool true) ∧ Below w.heap.size w w' := by
  have hst := store_flt
  have hmf : ∀ (fn : Fn) (first cap : Array Value) (w : World), (Instr.makeFunc fn first cap).run Try.prog w = .ok (.func fn first cap) w := fun _ _ _ _ => rfl
  by_cases h14 : 14 < m0
  · obtain ⟨m, hm⟩ : ∃ x, x = 14 := ⟨_, rfl⟩
    obtain ⟨al, hae⟩ : ∃ x, x = al0.take 14 := ⟨_, rfl⟩
    obtain ⟨hx1, hx2, hx3, hx4, hx5⟩ := boxes3 w #[.slice q 14 c'] #[.int .i64 b.k, .int .i64 b.n, .float .f64 b.f, .string b.s] #[.int .i64 c.k, .int .i64 c.n, .float .f64 c.f, .string c.s] 44 43 43
    obtain ⟨Wb, hWb⟩ : ∃ W, W = ((w.alloc (.cells #[.slice q 14 c'] 44)).alloc (.cells #[.int .i64 b.k, .int .i64 b.n, .float .f64 b.f, .string b.s] 43)).alloc (.cells #[.int .i64 c.k, .int .i64 c.n, .float .f64 c.f, .string c.s] 43) := ⟨_, rfl⟩
    have hn : m = al.length := by rw [hm, hae, List.length_take]; omega
    replace hal : As w q al := by rw [hae]; exact hal.take 14
    replace hok : ∀ a ∈ al, a.Ok := by rw [hae]; exact fun a h => hok a (List.mem_of_mem_take h)
    rw [← hWb] at hx1 hx2 hx3 hx4 hx5
    rw [← hm] at hx1
    have hm14 : m ≤ 14 := by omega
    clear hn0 hae
    have hn0 : m = al.length := hn
    clear hn
    have hc0 : ¬ c' = 0 := by omega
    replace hm := Lib.hid hm
    have HKS : Hid (∀ w', Below Wb.heap.size Wb w' → (w'.cell? ⟨w.heap.size, 0, none⟩ = some (.slice q m c') ∧ w'.cell? ⟨w.heap.size + 1, 0, none⟩ = some (.int .i64 b.k) ∧ w'.cell? ⟨w.heap.size + 1, 1, none⟩ = some (.int .i64 b.n) ∧ w'.cell? ⟨w.heap.size + 1, 2, none⟩ = some (.float .f64 b.f) ∧ w'.cell? ⟨w.heap.size + 1, 3, none⟩ = some (.string b.s) ∧ w'.cell? ⟨w.heap.size + 2, 0, none⟩ = some (.int .i64 c.k) ∧ w'.cell? ⟨w.heap.size + 2, 1, none⟩ = some (.int .i64 c.n) ∧ w'.cell? ⟨w.heap.size + 2, 2, none⟩ = some (.float .f64 c.f) ∧ w'.cell? ⟨w.heap.size + 2, 3, none⟩ = some (.string c.s))) := Lib.hid fun w' hb => by
      have f1 := (hb.block w.heap.size (by omega)).trans hx1
      have f2 := (hb.block (w.heap.size + 1) (by omega)).trans hx2
      have f3 := (hb.block (w.heap.size + 2) (by omega)).trans hx3
      refine ⟨?_, ?_, ?_, ?_, ?_, ?_, ?_, ?_, ?_⟩
      · rw [Joins.cell_of_block f1]; rfl
      · rw [Joins.cell_of_block f2]; rfl
      · rw [Joins.cell_of_block f2]; rfl
      · rw [Joins.cell_of_block f2]; rfl
      · rw [Joins.cell_of_block f2]; rfl
      · rw [Joins.cell_of_block f3]; rfl
      · rw [Joins.cell_of_block f3]; rfl
      · rw [Joins.cell_of_block f3]; rfl
      · rw [Joins.cell_of_block f3]; rfl
    have HWB : Hid (Below w.heap.size w Wb) := Lib.hid hx4
    have HAS : Hid (As Wb q al) := Lib.hid (hal.below hx4)
    have HL1 : Hid (∀ w', Below Wb.heap.size Wb w' → Calls Try.prog 20 #[.slice none 0 0, .pointer (some ⟨w.heap.size, 0, none⟩)] w' (ListPost al w')) := Lib.hid fun w' hb => by
      have h := list_any (l := []) (n := 0) (d := 0) (p := none) (HKS.out w' hb).1 hn0 hz (HAS.out.below hb) rfl (fun _ => rfl) (As.nil _ _) (by simp; omega)
      rwa [List.append_nil] at h
    have HL2 : Hid (∀ w' gs, As w' (some ⟨gs, 0, none⟩) [b] → Below Wb.heap.size Wb w' → Calls Try.prog 20 #[.slice (some ⟨gs, 0, none⟩) 1 1, .pointer (some ⟨w.heap.size, 0, none⟩)] w' (ListPost (al ++ [b]) w')) := Lib.hid fun w' gs hs hb =>
      list_any (l := [b]) (n := 1) (d := 1) (HKS.out w' hb).1 hn0 hz (HAS.out.below hb) rfl (fun h => by cases h) hs (by simp; omega)
    have HL3 : Hid (∀ w' gs, As w' (some ⟨gs, 0, none⟩) [c, b] → Below Wb.heap.size Wb w' → Calls Try.prog 20 #[.slice (some ⟨gs, 0, none⟩) 2 2, .pointer (some ⟨w.heap.size, 0, none⟩)] w' (ListPost (al ++ [c, b]) w')) := Lib.hid fun w' gs hs hb =>
      list_any (l := [c, b]) (n := 2) (d := 2) (HKS.out w' hb).1 hn0 hz (HAS.out.below hb) rfl (fun h => by cases h) hs (by simp; omega)
    clear hx1 hx2 hx3 hx4 hx5 hal
    replace hn0 := Lib.hid hn0
    go_enter Try.func5, Try.ntmps5
    go_wp2_with fail
    rw [← hWb]
    clear hWb
    rw [show decide ((14 : Int) < (m0 : Int)) = true from decide_eq_true (by omega)]
    refine wp_cutV (fun a a' w' => ∃ (x19 x20 x21 x22 x23 x24 x25 x26 x27 x28 x29 : Value) (g8 g9 g10 : Nat) (v20 v24 v29 : Value), a' = ((((((((((((((a.put (some 19) x19).put (some 20) x20).put (some 21) x21).put (some 22) x22).put (some 23) x23).put (some 24) x24).put (some 25) x25).put (some 26) x26).put (some 27) x27).put (some 28) x28).put (some 29) x29).put (some 8) (.pointer (some ⟨g8, 0, none⟩))).put (some 9) (.pointer (some ⟨g9, 0, none⟩))).put (some 10) (.pointer (some ⟨g10, 0, none⟩))) ∧ EndV Wb al b c g8 g9 g10 v20 v24 v29 w') ?_ ?_
    · refine wp_region_held_drew (S := fun w' => w'.cell? ⟨w.heap.size, 0, none⟩ = some (.slice q m c') ∧ w'.cell? ⟨w.heap.size + 1, 0, none⟩ = some (.int .i64 b.k) ∧ w'.cell? ⟨w.heap.size + 1, 1, none⟩ = some (.int .i64 b.n) ∧ w'.cell? ⟨w.heap.size + 1, 2, none⟩ = some (.float .f64 b.f) ∧ w'.cell? ⟨w.heap.size + 1, 3, none⟩ = some (.string b.s) ∧ w'.cell? ⟨w.heap.size + 2, 0, none⟩ = some (.int .i64 c.k) ∧ w'.cell? ⟨w.heap.size + 2, 1, none⟩ = some (.int .i64 c.n) ∧ w'.cell? ⟨w.heap.size + 2, 2, none⟩ = some (.float .f64 c.f) ∧ w'.cell? ⟨w.heap.size + 2, 3, none⟩ = some (.string c.s)) (by kernel_rfl) (HKS.out _ (Below.refl _ _).drew) (fun hHeld => ?_)
      obtain ⟨u0, hu0⟩ : ∃ x, x = Wb.drew := ⟨_, rfl⟩
      rw [← hu0] at hHeld ⊢
      have HB0 : Hid (Below Wb.heap.size Wb u0) := Lib.hid (by rw [hu0]; exact (Below.refl _ _).drew)
      clear hu0
      refine wpAnyH_take (i := 0) (v := ?_) rfl (by kernel_rfl) (by kernel_rfl) (by kernel_rfl) (fun _ _ _ h => nomatch h.1) (Or.inl ⟨by rfl, ?_⟩) (by assumption) ?_
      rotate_left
      · intro w hSw; obtain ⟨s0, s1, s2, s3, s4, s5, s6, s7, s8⟩ := hSw; go_simp; try with_reducible rfl
      simp only [Act.put, List.getElem_toArray, List.getElem_cons_zero, List.getElem_cons_succ, List.setIfInBounds_toArray, List.set_cons_zero, List.set_cons_succ]
      refine wpAnyH_take (i := 2) (v := ?_) rfl (by kernel_rfl) (by kernel_rfl) (by kernel_rfl) (fun _ _ _ h => nomatch h.1) (Or.inl ⟨by rfl, ?_⟩) (by assumption) ?_
      rotate_left
      · intro w hSw; obtain ⟨s0, s1, s2, s3, s4, s5, s6, s7, s8⟩ := hSw; go_simp; try with_reducible rfl
      simp only [Act.put, List.getElem_toArray, List.getElem_cons_zero, List.getElem_cons_succ, List.setIfInBounds_toArray, List.set_cons_zero, List.set_cons_succ]
      refine wpAnyH_take (i := 3) (v := ?_) rfl (by kernel_rfl) (by kernel_rfl) (by kernel_rfl) (fun _ _ _ h => nomatch h.1) (Or.inl ⟨by rfl, ?_⟩) (by assumption) ?_
      rotate_left
      · intro w hSw; obtain ⟨s0, s1, s2, s3, s4, s5, s6, s7, s8⟩ := hSw; go_simp; try with_reducible rfl
      simp only [Act.put, List.getElem_toArray, List.getElem_cons_zero, List.getElem_cons_succ, List.setIfInBounds_toArray, List.set_cons_zero, List.set_cons_succ]
      refine wpAnyH_take (i := 6) (v := ?_) rfl (by kernel_rfl) (by kernel_rfl) (by kernel_rfl) (fun _ _ _ h => nomatch h.1) (Or.inl ⟨by rfl, ?_⟩) (by assumption) ?_
      rotate_left
      · intro w hSw; obtain ⟨s0, s1, s2, s3, s4, s5, s6, s7, s8⟩ := hSw; go_simp; try with_reducible rfl
      simp only [Act.put, List.getElem_toArray, List.getElem_cons_zero, List.getElem_cons_succ, List.setIfInBounds_toArray, List.set_cons_zero, List.set_cons_succ]
      refine wpAnyH_take (i := 7) (v := ?_) rfl (by kernel_rfl) (by kernel_rfl) (by kernel_rfl) (fun _ _ _ h => nomatch h.1) (Or.inl ⟨by rfl, ?_⟩) (by assumption) ?_
      rotate_left
      · intro w hSw; obtain ⟨s0, s1, s2, s3, s4, s5, s6, s7, s8⟩ := hSw; go_simp; try with_reducible rfl
      simp only [Act.put, List.getElem_toArray, List.getElem_cons_zero, List.getElem_cons_succ, List.setIfInBounds_toArray, List.set_cons_zero, List.set_cons_succ]
      refine wpAnyH_take (i := 8) (v := ?_) rfl (by kernel_rfl) (by kernel_rfl) (by kernel_rfl) (fun _ _ _ h => nomatch h.1) (Or.inl ⟨by rfl, ?_⟩) (by assumption) ?_
      rotate_left
      · intro w hSw; obtain ⟨s0, s1, s2, s3, s4, s5, s6, s7, s8⟩ := hSw; go_simp; try with_reducible rfl
      simp only [Act.put, List.getElem_toArray, List.getElem_cons_zero, List.getElem_cons_succ, List.setIfInBounds_toArray, List.set_cons_zero, List.set_cons_succ]
      refine wpAnyH_upto (fun a0 listed a w' => ∃ (x20 x23 x24 x28 x29 x8 x9 x10 : Value) (l1 l4 l5 l9 l10 l11 l12 l13 : Bool), listed = #[true, l1, true, true, l4, l5, true, true, true, l9, l10, l11, l12, l13, false, false, false] ∧ a = ((((((((a0.put (some 20) x20).put (some 23) x23).put (some 24) x24).put (some 28) x28).put (some 29) x29).put (some 8) x8).put (some 9) x9).put (some 10) x10) ∧ VlI Wb al b c l1 l4 l5 l9 l10 l11 l12 l13 x20 x23 x24 x28 x29 x8 x9 x10 w') (#[true, true, true, true, true, true, true, true, true, true, true, true, true, true, false, false, false]) ?_ ?_ ?_ (of_decide_eq_true (by kernel_rfl)) ⟨undef, undef, undef, undef, undef, undef, undef, undef, false, false, false, false, false, false, false, false, by kernel_rfl, by kernel_rfl, ?_⟩
      · rintro listed a w' i ⟨x20, x23, x24, x28, x29, x8, x9, x10, l1, l4, l5, l9, l10, l11, l12, l13, rfl, rfl, hI⟩ hne hr
        obtain ⟨hlf, o, ho, hdeps⟩ := mem_ready.1 hr
        have hi17 : i < 17 := (Array.getElem?_eq_some_iff.1 ho).1
        have hi : i = 0 ∨ i = 1 ∨ i = 2 ∨ i = 3 ∨ i = 4 ∨ i = 5 ∨ i = 6 ∨ i = 7 ∨ i = 8 ∨ i = 9 ∨ i = 10 ∨ i = 11 ∨ i = 12 ∨ i = 13 ∨ i = 14 ∨ i = 15 ∨ i = 16 := by omega
        clear hr hi17
        rcases hi with rfl | rfl | rfl | rfl | rfl | rfl | rfl | rfl | rfl | rfl | rfl | rfl | rfl | rfl | rfl | rfl | rfl
        all_goals obtain rfl := Option.some.inj ho
        · simp at hlf
        · obtain rfl : l1 = false := by simpa using hlf
          refine wpOp_step (i := 1) rfl (fun K' hK' => ?_)
          replace hK' := Lib.hid hK'
          simp only [Act.put, List.getElem_toArray, List.getElem_cons_zero, List.getElem_cons_succ, List.setIfInBounds_toArray, List.set_cons_zero, List.set_cons_succ]
          go_simp
          refine (HL1.out _ hI.bl).mono ?_
          rintro e w2 ⟨v, rfl, ho, hb2⟩
          dsimp only
          refine hK'.out _ _ ?_
          exact ⟨HKS.out _ (hI.bl.trans (hb2.mono hI.bl.size)), (.agg #[.int .i64 6, .int .i64 0, .float .f64 0, .string ⟨#[]⟩, v]), x23, x24, x28, x29, x8, x9, x10, true, l4, l5, l9, l10, l11, l12, l13, by kernel_rfl, by kernel_rfl, hI.s1 hb2 ⟨v, rfl, ho⟩⟩
        · simp at hlf
        · simp at hlf
        · obtain rfl : l4 = false := by simpa using hlf
          refine wpOp_step (i := 4) rfl (fun K' hK' => ?_)
          replace hK' := Lib.hid hK'
          simp only [Act.put, List.getElem_toArray, List.getElem_cons_zero, List.getElem_cons_succ, List.setIfInBounds_toArray, List.set_cons_zero, List.set_cons_succ]
          go_simp
          refine hK'.out _ _ ?_
          exact ⟨HKS.out _ (hI.bl.alloc hI.bl.size _), x20, (.slice (some ⟨w'.heap.size, 0, none⟩) 1 1), x24, x28, x29, x8, x9, x10, l1, true, l5, l9, l10, l11, l12, l13, by kernel_rfl, by kernel_rfl, hI.s4 ((Below.refl _ _).alloc (Nat.le_refl _) _) (sl_one _)⟩
        · obtain rfl : l5 = false := by simpa using hlf
          obtain rfl : l1 = true := by simpa using hdeps ⟨1, .chain⟩ (by simp) rfl
          obtain rfl : l4 = true := by simpa using hdeps ⟨4, .data⟩ (by simp) rfl
          obtain ⟨gs, rfl, hsn, hsl⟩ := hI.p23 rfl
          clear hsn
          refine wpOp_step (i := 5) rfl (fun K' hK' => ?_)
          replace hK' := Lib.hid hK'
          simp only [Act.put, List.getElem_toArray, List.getElem_cons_zero, List.getElem_cons_succ, List.setIfInBounds_toArray, List.set_cons_zero, List.set_cons_succ]
          go_simp
          refine (HL2.out _ gs hsl hI.bl).mono ?_
          rintro e w2 ⟨v, rfl, ho, hb2⟩
          dsimp only
          refine hK'.out _ _ ?_
          exact ⟨HKS.out _ (hI.bl.trans (hb2.mono hI.bl.size)), x20, (.slice (some ⟨gs, 0, none⟩) 1 1), (.agg #[.int .i64 6, .int .i64 0, .float .f64 0, .string ⟨#[]⟩, v]), x28, x29, x8, x9, x10, true, true, true, l9, l10, l11, l12, l13, by kernel_rfl, by kernel_rfl, hI.s5 hb2 ⟨v, rfl, ho⟩⟩
        · simp at hlf
        · simp at hlf
        · simp at hlf
        · obtain rfl : l9 = false := by simpa using hlf
          refine wpOp_step (i := 9) rfl (fun K' hK' => ?_)
          replace hK' := Lib.hid hK'
          simp only [Act.put, List.getElem_toArray, List.getElem_cons_zero, List.getElem_cons_succ, List.setIfInBounds_toArray, List.set_cons_zero, List.set_cons_succ]
          go_simp
          refine hK'.out _ _ ?_
          exact ⟨HKS.out _ (hI.bl.alloc hI.bl.size _), x20, x23, x24, (.slice (some ⟨w'.heap.size, 0, none⟩) 2 2), x29, x8, x9, x10, l1, l4, l5, true, l10, l11, l12, l13, by kernel_rfl, by kernel_rfl, hI.s9 ((Below.refl _ _).alloc (Nat.le_refl _) _) (sl_two _)⟩
        · obtain rfl : l10 = false := by simpa using hlf
          obtain rfl : l5 = true := by simpa using hdeps ⟨5, .chain⟩ (by simp) rfl
          obtain rfl : l9 = true := by simpa using hdeps ⟨9, .data⟩ (by simp) rfl
          obtain ⟨gs, rfl, hsn, hsl⟩ := hI.p28 rfl
          clear hsn
          refine wpOp_step (i := 10) rfl (fun K' hK' => ?_)
          replace hK' := Lib.hid hK'
          simp only [Act.put, List.getElem_toArray, List.getElem_cons_zero, List.getElem_cons_succ, List.setIfInBounds_toArray, List.set_cons_zero, List.set_cons_succ]
          go_simp
          refine (HL3.out _ gs hsl hI.bl).mono ?_
          rintro e w2 ⟨v, rfl, ho, hb2⟩
          dsimp only
          refine hK'.out _ _ ?_
          exact ⟨HKS.out _ (hI.bl.trans (hb2.mono hI.bl.size)), x20, x23, x24, (.slice (some ⟨gs, 0, none⟩) 2 2), (.agg #[.int .i64 6, .int .i64 0, .float .f64 0, .string ⟨#[]⟩, v]), x8, x9, x10, l1, l4, true, true, true, l11, l12, l13, by kernel_rfl, by kernel_rfl, hI.s10 hb2 ⟨v, rfl, ho⟩⟩
        · obtain rfl : l11 = false := by simpa using hlf
          refine wpOp_step (i := 11) rfl (fun K' hK' => ?_)
          replace hK' := Lib.hid hK'
          simp only [Act.put, List.getElem_toArray, List.getElem_cons_zero, List.getElem_cons_succ, List.setIfInBounds_toArray, List.set_cons_zero, List.set_cons_succ]
          go_simp
          refine hK'.out _ _ ?_
          exact ⟨HKS.out _ (hI.bl.alloc hI.bl.size _), x20, x23, x24, x28, x29, (.pointer (some ⟨w'.heap.size, 0, none⟩)), x9, x10, l1, l4, l5, l9, l10, true, l12, l13, by kernel_rfl, by kernel_rfl, hI.s11⟩
        · obtain rfl : l12 = false := by simpa using hlf
          refine wpOp_step (i := 12) rfl (fun K' hK' => ?_)
          replace hK' := Lib.hid hK'
          simp only [Act.put, List.getElem_toArray, List.getElem_cons_zero, List.getElem_cons_succ, List.setIfInBounds_toArray, List.set_cons_zero, List.set_cons_succ]
          go_simp
          refine hK'.out _ _ ?_
          exact ⟨HKS.out _ (hI.bl.alloc hI.bl.size _), x20, x23, x24, x28, x29, x8, (.pointer (some ⟨w'.heap.size, 0, none⟩)), x10, l1, l4, l5, l9, l10, l11, true, l13, by kernel_rfl, by kernel_rfl, hI.s12⟩
        · obtain rfl : l13 = false := by simpa using hlf
          refine wpOp_step (i := 13) rfl (fun K' hK' => ?_)
          replace hK' := Lib.hid hK'
          simp only [Act.put, List.getElem_toArray, List.getElem_cons_zero, List.getElem_cons_succ, List.setIfInBounds_toArray, List.set_cons_zero, List.set_cons_succ]
          go_simp
          refine hK'.out _ _ ?_
          exact ⟨HKS.out _ (hI.bl.alloc hI.bl.size _), x20, x23, x24, x28, x29, x8, x9, (.pointer (some ⟨w'.heap.size, 0, none⟩)), l1, l4, l5, l9, l10, l11, l12, true, by kernel_rfl, by kernel_rfl, hI.s13⟩
        · obtain rfl : l10 = true := by simpa using hdeps ⟨10, .chain⟩ (by simp) rfl
          obtain rfl : l11 = true := by simpa using hdeps ⟨11, .data⟩ (by simp) rfl
          obtain rfl : l12 = true := by simpa using hdeps ⟨12, .phase⟩ (by simp) rfl
          obtain rfl : l13 = true := by simpa using hdeps ⟨13, .phase⟩ (by simp) rfl
          obtain ⟨rfl, rfl⟩ := hI.d10 rfl
          obtain ⟨rfl, rfl⟩ := hI.d5 rfl
          exact absurd rfl hne
        · have := hdeps ⟨14, .chain⟩ (by simp) rfl
          simp at this
        · have := hdeps ⟨15, .chain⟩ (by simp) rfl
          simp at this
      · rintro listed a w' ⟨x20, x23, x24, x28, x29, x8, x9, x10, l1, l4, l5, l9, l10, l11, l12, l13, rfl, rfl, hI⟩ hne hr
        have d5 := hI.d5
        have d10 := hI.d10
        clear hI
        revert l1 l4 l5 l9 l10 l11 l12 l13
        decide +kernel
      · rintro a w1 fuel ⟨x20, x23, x24, x28, x29, x8, x9, x10, l1, l4, l5, l9, l10, l11, l12, l13, hD, rfl, hI⟩ hfu
        have h3 : unl (#[true, true, true, true, true, true, true, true, true, true, true, true, true, true, false, false, false] : Array Bool) = 3 := by kernel_rfl
        rw [h3] at hfu
        obtain ⟨k, rfl⟩ : ∃ k, fuel = k + 1 + 1 + 1 := ⟨fuel - 3, by omega⟩
        clear h3
        have hl : l1 = true ∧ l4 = true ∧ l5 = true ∧ l9 = true ∧ l10 = true ∧ l11 = true ∧ l12 = true ∧ l13 = true := by
          simp only [Array.mk.injEq, List.cons.injEq, true_and, and_true, Bool.true_eq] at hD
          simpa [and_assoc, eq_comm] using hD
        obtain ⟨rfl, rfl, rfl, rfl, rfl, rfl, rfl, rfl⟩ := hl
        clear hD hfu
        obtain ⟨v20, rfl, o20⟩ := hI.p20 rfl
        obtain ⟨v24, rfl, o24⟩ := hI.p24 rfl
        obtain ⟨v29, rfl, o29⟩ := hI.p29 rfl
        obtain ⟨n20, hn20⟩ : ∃ n, n = al.length := ⟨_, rfl⟩
        obtain ⟨p20, d20, rfl, _, _, _⟩ := o20.form hn20
        clear hn20
        obtain ⟨n24, hn24⟩ : ∃ n, n = (al ++ [b]).length := ⟨_, rfl⟩
        obtain ⟨p24, d24, rfl, _, _, _⟩ := o24.form hn24
        clear hn24
        obtain ⟨n29, hn29⟩ : ∃ n, n = (al ++ [c, b]).length := ⟨_, rfl⟩
        obtain ⟨p29, d29, rfl, _, _, _⟩ := o29.form hn29
        clear hn29
        obtain ⟨g8, rfl, HGEg8, h8⟩ := hI.p8 rfl
        obtain ⟨g9, rfl, HGEg9, h9⟩ := hI.p9 rfl
        obtain ⟨g10, rfl, HGEg10, h10⟩ := hI.p10 rfl
        have n1 : g8 ≠ g9 := fun e => hI.n89 rfl rfl (by rw [e])
        have n2 : g8 ≠ g10 := fun e => hI.n8a rfl rfl (by rw [e])
        have n3 : g9 ≠ g10 := fun e => hI.n9a rfl rfl (by rw [e])
        have HI := Lib.hid hI.bl
        have H8 := Lib.hid h8
        have H9 := Lib.hid h9
        have H10 := Lib.hid h10
        have O20 := Lib.hid o20
        have O24 := Lib.hid o24
        have O29 := Lib.hid o29
        have HN := Lib.hid (And.intro n1 (And.intro n2 n3))
        clear hI h8 h9 h10 o20 o24 o29 n1 n2 n3
        simp only [Act.put, List.getElem_toArray, List.getElem_cons_zero, List.getElem_cons_succ, List.setIfInBounds_toArray, List.set_cons_zero, List.set_cons_succ]
        refine wpAnyH_ready (rs := [14]) (by kernel_rfl) (by simp) ?_
        refine AllReadyH.cons rfl (fun K hK => ?_) AllReadyH.nil
        obtain ⟨z0, f0⟩ := cell_at H8.out 0
        obtain ⟨z1, f1⟩ := cell_at H8.out 1
        obtain ⟨z2, f2⟩ := cell_at H8.out 2
        obtain ⟨z3, f3⟩ := cell_at H8.out 3
        obtain ⟨z4, f4⟩ := cell_at H8.out 4
        simp only [zeroV, List.getElem?_toArray, List.getElem?_cons_zero, List.getElem?_cons_succ] at z0 z1 z2 z3 z4
        have hglt : g8 < w1.heap.size := (Array.getElem?_eq_some_iff.1 H8.out).1
        obtain ⟨w2, hw2⟩ : ∃ x, x = putV w1 g8 (.slice p20 n20 d20) := ⟨_, rfl⟩
        have HBw2 : Hid (Below Wb.heap.size Wb w2) := Lib.hid (by rw [hw2]; exact boxV_below HI.out HGEg8 _)
        go_simp
        rw [show ((((w1.setCell ⟨g8, 0, none⟩ (.int .i64 6)).setCell ⟨g8, 1, none⟩ (.int .i64 0)).setCell ⟨g8, 2, none⟩ (.float .f64 0)).setCell ⟨g8, 3, none⟩ (.string ⟨#[]⟩)).setCell ⟨g8, 4, none⟩ (.slice p20 n20 d20) = w2 from hw2.symm]
        refine hK.out _ _ (HKS.out _ HBw2.out) (fun hHeld => ?_)
        replace hw2 := Lib.hid hw2
        clear hK K z0 z1 z2 z3 z4 f0 f1 f2 f3 f4 hglt
        simp only [Act.put, List.getElem_toArray, List.getElem_cons_zero, List.getElem_cons_succ, List.setIfInBounds_toArray, List.set_cons_zero, List.set_cons_succ]
        have H9' : Hid (w2.heap[g9]? = some (.cells zeroV 46 (0, 0))) := Lib.hid (by rw [hw2.out, boxV_far HN.out.1.symm]; exact H9.out)
        refine wpAnyH_ready (rs := [15]) (by kernel_rfl) (by simp) ?_
        refine AllReadyH.cons rfl (fun K hK => ?_) AllReadyH.nil
        obtain ⟨z0, f0⟩ := cell_at H9'.out 0
        obtain ⟨z1, f1⟩ := cell_at H9'.out 1
        obtain ⟨z2, f2⟩ := cell_at H9'.out 2
        obtain ⟨z3, f3⟩ := cell_at H9'.out 3
        obtain ⟨z4, f4⟩ := cell_at H9'.out 4
        simp only [zeroV, List.getElem?_toArray, List.getElem?_cons_zero, List.getElem?_cons_succ] at z0 z1 z2 z3 z4
        have hglt : g9 < w2.heap.size := (Array.getElem?_eq_some_iff.1 H9'.out).1
        obtain ⟨w3, hw3⟩ : ∃ x, x = putV w2 g9 (.slice p24 n24 d24) := ⟨_, rfl⟩
        have HBw3 : Hid (Below Wb.heap.size Wb w3) := Lib.hid (by rw [hw3]; exact boxV_below HBw2.out HGEg9 _)
        go_simp
        rw [show ((((w2.setCell ⟨g9, 0, none⟩ (.int .i64 6)).setCell ⟨g9, 1, none⟩ (.int .i64 0)).setCell ⟨g9, 2, none⟩ (.float .f64 0)).setCell ⟨g9, 3, none⟩ (.string ⟨#[]⟩)).setCell ⟨g9, 4, none⟩ (.slice p24 n24 d24) = w3 from hw3.symm]
        refine hK.out _ _ (HKS.out _ HBw3.out) (fun hHeld => ?_)
        replace hw3 := Lib.hid hw3
        clear hK K z0 z1 z2 z3 z4 f0 f1 f2 f3 f4 hglt
        simp only [Act.put, List.getElem_toArray, List.getElem_cons_zero, List.getElem_cons_succ, List.setIfInBounds_toArray, List.set_cons_zero, List.set_cons_succ]
        have H10' : Hid (w3.heap[g10]? = some (.cells zeroV 46 (0, 0))) := Lib.hid (by rw [hw3.out, boxV_far HN.out.2.2.symm, hw2.out, boxV_far HN.out.2.1.symm]; exact H10.out)
        refine wpAnyH_ready (rs := [16]) (by kernel_rfl) (by simp) ?_
        refine AllReadyH.cons rfl (fun K hK => ?_) AllReadyH.nil
        obtain ⟨z0, f0⟩ := cell_at H10'.out 0
        obtain ⟨z1, f1⟩ := cell_at H10'.out 1
        obtain ⟨z2, f2⟩ := cell_at H10'.out 2
        obtain ⟨z3, f3⟩ := cell_at H10'.out 3
        obtain ⟨z4, f4⟩ := cell_at H10'.out 4
        simp only [zeroV, List.getElem?_toArray, List.getElem?_cons_zero, List.getElem?_cons_succ] at z0 z1 z2 z3 z4
        have hglt : g10 < w3.heap.size := (Array.getElem?_eq_some_iff.1 H10'.out).1
        obtain ⟨w4, hw4⟩ : ∃ x, x = putV w3 g10 (.slice p29 n29 d29) := ⟨_, rfl⟩
        have HBw4 : Hid (Below Wb.heap.size Wb w4) := Lib.hid (by rw [hw4]; exact boxV_below HBw3.out HGEg10 _)
        go_simp
        rw [show ((((w3.setCell ⟨g10, 0, none⟩ (.int .i64 6)).setCell ⟨g10, 1, none⟩ (.int .i64 0)).setCell ⟨g10, 2, none⟩ (.float .f64 0)).setCell ⟨g10, 3, none⟩ (.string ⟨#[]⟩)).setCell ⟨g10, 4, none⟩ (.slice p29 n29 d29) = w4 from hw4.symm]
        refine hK.out _ _ (HKS.out _ HBw4.out) (fun hHeld => ?_)
        replace hw4 := Lib.hid hw4
        clear hK K z0 z1 z2 z3 z4 f0 f1 f2 f3 f4 hglt
        simp only [Act.put, List.getElem_toArray, List.getElem_cons_zero, List.getElem_cons_succ, List.setIfInBounds_toArray, List.set_cons_zero, List.set_cons_succ]
        refine wpAnyH_done (by kernel_rfl) ?_ _
        refine ⟨rfl, (.func (.func 20) #[] #[.pointer (some ⟨w.heap.size, 0, none⟩)]), (.agg #[.int .i64 6, .int .i64 0, .float .f64 0, .string ⟨#[]⟩, (.slice p20 n20 d20)]), (.func (.func 20) #[] #[.pointer (some ⟨w.heap.size, 0, none⟩)]), (.agg #[.int .i64 b.k, .int .i64 b.n, .float .f64 b.f, .string b.s]), x23, (.agg #[.int .i64 6, .int .i64 0, .float .f64 0, .string ⟨#[]⟩, (.slice p24 n24 d24)]), (.func (.func 20) #[] #[.pointer (some ⟨w.heap.size, 0, none⟩)]), (.agg #[.int .i64 c.k, .int .i64 c.n, .float .f64 c.f, .string c.s]), (.agg #[.int .i64 b.k, .int .i64 b.n, .float .f64 b.f, .string b.s]), x28, (.agg #[.int .i64 6, .int .i64 0, .float .f64 0, .string ⟨#[]⟩, (.slice p29 n29 d29)]), g8, g9, g10, (.slice p20 n20 d20), (.slice p24 n24 d24), (.slice p29 n29 d29), by kernel_rfl, ?_⟩
        have k8 : w2.heap[g8]? = some (.cells #[.int .i64 6, .int .i64 0, .float .f64 0, .string ⟨#[]⟩, (.slice p20 n20 d20)] 46 (0, 0)) := by rw [hw2.out]; exact boxV_put H8.out _
        have k9 : w3.heap[g9]? = some (.cells #[.int .i64 6, .int .i64 0, .float .f64 0, .string ⟨#[]⟩, (.slice p24 n24 d24)] 46 (0, 0)) := by rw [hw3.out]; exact boxV_put H9'.out _
        have k10 : w4.heap[g10]? = some (.cells #[.int .i64 6, .int .i64 0, .float .f64 0, .string ⟨#[]⟩, (.slice p29 n29 d29)] 46 (0, 0)) := by rw [hw4.out]; exact boxV_put H10'.out _
        have t1 : ∀ (v : Value) (l : List At), AOwn w1 Wb.heap.size v l → AOwn w4 Wb.heap.size v l := fun v l h => by
          have a1 : AOwn w2 Wb.heap.size v l := by rw [hw2.out]; exact h.box H8.out _
          have a2 : AOwn w3 Wb.heap.size v l := by rw [hw3.out]; exact a1.box H9'.out _
          rw [hw4.out]
          exact a2.box H10'.out _
        exact ⟨by rw [hw4.out, boxV_far HN.out.2.1, hw3.out, boxV_far HN.out.1]; exact k8, by rw [hw4.out, boxV_far HN.out.2.2]; exact k9, k10, t1 _ _ O20.out, t1 _ _ O24.out, t1 _ _ O29.out, HBw4.out⟩
      · exact ⟨(fun k => by cases k), (fun k => by cases k), (fun k => by cases k), (fun k => by cases k), (fun k => by cases k), (fun k => by cases k), (fun k => by cases k), (fun k => by cases k), (fun k => by cases k), (fun k => by cases k), (fun k => by cases k), (fun k => by cases k), (fun k => by cases k), HB0.out⟩
    · rintro a' w1 ⟨x19, x20, x21, x22, x23, x24, x25, x26, x27, x28, x29, g8, g9, g10, v20, v24, v29, rfl, hE⟩
      obtain ⟨n20, hn20⟩ : ∃ x, x = al.length := ⟨_, rfl⟩
      obtain ⟨p20, d20, rfl, q20a, q20b, q20c⟩ := hE.o20.form hn20
      obtain ⟨n24, hn24⟩ : ∃ x, x = (al ++ [b]).length := ⟨_, rfl⟩
      obtain ⟨p24, d24, rfl, q24a, q24b, q24c⟩ := hE.o24.form hn24
      obtain ⟨n29, hn29⟩ : ∃ x, x = (al ++ [c, b]).length := ⟨_, rfl⟩
      obtain ⟨p29, d29, rfl, q29a, q29b, q29c⟩ := hE.o29.form hn29
      have X20 : VaOk w1 ⟨6, 0, 0, ⟨#[]⟩⟩ p20 n20 d20 al := ⟨hd_ok, hn20, q20a, q20b, q20c, hok⟩
      have X24 : VaOk w1 ⟨6, 0, 0, ⟨#[]⟩⟩ p24 n24 d24 (al ++ [b]) := ⟨hd_ok, hn24, q24a, q24b, q24c, ok_app hok (by simpa using hb)⟩
      have X29 : VaOk w1 ⟨6, 0, 0, ⟨#[]⟩⟩ p29 n29 d29 (al ++ [c, b]) := ⟨hd_ok, hn29, q29a, q29b, q29c, ok_app hok (by intro x hx; rcases List.mem_cons.1 hx with rfl | hx; exact hc; obtain rfl := List.mem_singleton.1 hx; exact hb)⟩
      have XB : VaOk w1 b none 0 0 [] := ⟨hb, rfl, Nat.le_refl _, by omega, As.nil _ _, by simp⟩
      have XC : VaOk w1 c none 0 0 [] := ⟨hc, rfl, Nat.le_refl _, by omega, As.nil _ _, by simp⟩
      have HB1 : Hid (Below Wb.heap.size Wb w1) := Lib.hid hE.bl
      have HK9 : Hid (∀ w', Below w1.heap.size w1 w' → w'.cell? ⟨w.heap.size, 0, none⟩ = some (.slice q m c') ∧ w'.cell? ⟨w.heap.size + 1, 0, none⟩ = some (.int .i64 b.k) ∧ w'.cell? ⟨w.heap.size + 1, 1, none⟩ = some (.int .i64 b.n) ∧ w'.cell? ⟨w.heap.size + 1, 2, none⟩ = some (.float .f64 b.f) ∧ w'.cell? ⟨w.heap.size + 1, 3, none⟩ = some (.string b.s) ∧ w'.cell? ⟨w.heap.size + 2, 0, none⟩ = some (.int .i64 c.k) ∧ w'.cell? ⟨w.heap.size + 2, 1, none⟩ = some (.int .i64 c.n) ∧ w'.cell? ⟨w.heap.size + 2, 2, none⟩ = some (.float .f64 c.f) ∧ w'.cell? ⟨w.heap.size + 2, 3, none⟩ = some (.string c.s)) := Lib.hid fun w' hb => HKS.out w' (HB1.out.trans (hb.mono HB1.out.size))
      have HK15 : Hid (∀ w', Below w1.heap.size w1 w' → w'.cell? ⟨g8, 0, none⟩ = some (.int .i64 6) ∧ w'.cell? ⟨g8, 1, none⟩ = some (.int .i64 0) ∧ w'.cell? ⟨g8, 2, none⟩ = some (.float .f64 0) ∧ w'.cell? ⟨g8, 3, none⟩ = some (.string ⟨#[]⟩) ∧ w'.cell? ⟨g8, 4, none⟩ = some (.slice p20 n20 d20) ∧ w'.cell? ⟨g9, 0, none⟩ = some (.int .i64 6) ∧ w'.cell? ⟨g9, 1, none⟩ = some (.int .i64 0) ∧ w'.cell? ⟨g9, 2, none⟩ = some (.float .f64 0) ∧ w'.cell? ⟨g9, 3, none⟩ = some (.string ⟨#[]⟩) ∧ w'.cell? ⟨g9, 4, none⟩ = some (.slice p24 n24 d24) ∧ w'.cell? ⟨g10, 0, none⟩ = some (.int .i64 6) ∧ w'.cell? ⟨g10, 1, none⟩ = some (.int .i64 0) ∧ w'.cell? ⟨g10, 2, none⟩ = some (.float .f64 0) ∧ w'.cell? ⟨g10, 3, none⟩ = some (.string ⟨#[]⟩) ∧ w'.cell? ⟨g10, 4, none⟩ = some (.slice p29 n29 d29)) := Lib.hid fun w' hb => by
        have f1 := (cell_at ((hb.block g8 (Array.getElem?_eq_some_iff.1 hE.h8).1).trans hE.h8))
        have f2 := (cell_at ((hb.block g9 (Array.getElem?_eq_some_iff.1 hE.h9).1).trans hE.h9))
        have f3 := (cell_at ((hb.block g10 (Array.getElem?_eq_some_iff.1 hE.h10).1).trans hE.h10))
        exact ⟨(f1 0).1, (f1 1).1, (f1 2).1, (f1 3).1, (f1 4).1, (f2 0).1, (f2 1).1, (f2 2).1, (f2 3).1, (f2 4).1, (f3 0).1, (f3 1).1, (f3 2).1, (f3 3).1, (f3 4).1⟩
      have RX : Hid (∀ w', Below w1.heap.size w1 w' → Calls Try.prog 21 #[.agg #[.int .i64 6, .int .i64 0, .float .f64 0, .string ⟨#[]⟩, .slice p20 n20 d20]] w' (fun e w'' => e = .returned (.bool (validV ⟨6, 0, 0, ⟨#[]⟩⟩ al)) ∧ Below w'.heap.size w' w'')) := Lib.hid fun w' hb => refValid_any (X20.below hb)
      have RY : Hid (∀ w', Below w1.heap.size w1 w' → Calls Try.prog 21 #[.agg #[.int .i64 6, .int .i64 0, .float .f64 0, .string ⟨#[]⟩, .slice p24 n24 d24]] w' (fun e w'' => e = .returned (.bool (validV ⟨6, 0, 0, ⟨#[]⟩⟩ (al ++ [b]))) ∧ Below w'.heap.size w' w'')) := Lib.hid fun w' hb => refValid_any (X24.below hb)
      have RZ : Hid (∀ w', Below w1.heap.size w1 w' → Calls Try.prog 21 #[.agg #[.int .i64 6, .int .i64 0, .float .f64 0, .string ⟨#[]⟩, .slice p29 n29 d29]] w' (fun e w'' => e = .returned (.bool (validV ⟨6, 0, 0, ⟨#[]⟩⟩ (al ++ [c, b]))) ∧ Below w'.heap.size w' w'')) := Lib.hid fun w' hb => refValid_any (X29.below hb)
      have CXY : Hid (∀ w', Below w1.heap.size w1 w' → Calls Try.prog 22 #[.agg #[.int .i64 6, .int .i64 0, .float .f64 0, .string ⟨#[]⟩, .slice p20 n20 d20], .agg #[.int .i64 6, .int .i64 0, .float .f64 0, .string ⟨#[]⟩, .slice p24 n24 d24]] w' (fun e w'' => e = .returned (.int .i64 (cmpV ⟨6, 0, 0, ⟨#[]⟩⟩ al ⟨6, 0, 0, ⟨#[]⟩⟩ (al ++ [b]))) ∧ Below w'.heap.size w' w'')) := Lib.hid fun w' hb => valueCompare_any (X20.below hb) (X24.below hb)
      have CXX : Hid (∀ w', Below w1.heap.size w1 w' → Calls Try.prog 22 #[.agg #[.int .i64 6, .int .i64 0, .float .f64 0, .string ⟨#[]⟩, .slice p20 n20 d20], .agg #[.int .i64 6, .int .i64 0, .float .f64 0, .string ⟨#[]⟩, .slice p20 n20 d20]] w' (fun e w'' => e = .returned (.int .i64 0) ∧ Below w'.heap.size w' w'')) := Lib.hid fun w' hb => by
        have h := valueCompare_any (X20.below hb) (X20.below hb)
        rw [cmpV_self X20] at h
        exact h
      have CYZ : Hid (∀ w', Below w1.heap.size w1 w' → Calls Try.prog 22 #[.agg #[.int .i64 6, .int .i64 0, .float .f64 0, .string ⟨#[]⟩, .slice p24 n24 d24], .agg #[.int .i64 6, .int .i64 0, .float .f64 0, .string ⟨#[]⟩, .slice p29 n29 d29]] w' (fun e w'' => e = .returned (.int .i64 (cmpV ⟨6, 0, 0, ⟨#[]⟩⟩ (al ++ [b]) ⟨6, 0, 0, ⟨#[]⟩⟩ (al ++ [c, b]))) ∧ Below w'.heap.size w' w'')) := Lib.hid fun w' hb => valueCompare_any (X24.below hb) (X29.below hb)
      have CBC : Hid (∀ w', Below w1.heap.size w1 w' → Calls Try.prog 22 #[.agg #[.int .i64 b.k, .int .i64 b.n, .float .f64 b.f, .string b.s, .slice none 0 0], .agg #[.int .i64 c.k, .int .i64 c.n, .float .f64 c.f, .string c.s, .slice none 0 0]] w' (fun e w'' => e = .returned (.int .i64 (cmpV b [] c [])) ∧ Below w'.heap.size w' w'')) := Lib.hid fun w' hb => valueCompare_any (k := b.k) (n := b.n) (f := b.f) (s := b.s) (k' := c.k) (n' := c.n) (g := c.f) (t := c.s) (XB.below hb) (XC.below hb)
      have O1 := Lib.hid (fun w => ofInt_any (w := w) 1)
      have O2 := Lib.hid (fun w => ofInt_any (w := w) 2)
      have K12 : ∀ w', Calls Try.prog 22 #[.agg #[.int .i64 2, .int .i64 1, .float .f64 0, .string ⟨#[]⟩, .slice none 0 0], .agg #[.int .i64 2, .int .i64 2, .float .f64 0, .string ⟨#[]⟩, .slice none 0 0]] w' fun e w'' => e = .returned (.int .i64 (-1)) ∧ Below w'.heap.size w' w'' := fun w' => by
        have h := valueCompare_any (vlInt w' 1 (by omega) (by omega)) (vlInt w' 2 (by omega) (by omega))
        rw [vlInts] at h
        exact h
      replace K12 := Lib.hid K12
      have HXY : Hid (validV ⟨6, 0, 0, ⟨#[]⟩⟩ al = true → validV ⟨6, 0, 0, ⟨#[]⟩⟩ (al ++ [b]) = true → cmpV ⟨6, 0, 0, ⟨#[]⟩⟩ al ⟨6, 0, 0, ⟨#[]⟩⟩ (al ++ [b]) = -1) := Lib.hid (vl_xy hok hb)
      have HYZ : Hid (validV ⟨6, 0, 0, ⟨#[]⟩⟩ (al ++ [b]) = true → validV ⟨6, 0, 0, ⟨#[]⟩⟩ (al ++ [c, b]) = true → cmpV ⟨6, 0, 0, ⟨#[]⟩⟩ (al ++ [b]) ⟨6, 0, 0, ⟨#[]⟩⟩ (al ++ [c, b]) = orI (cmpV b [] c []) (-1)) := Lib.hid (vl_yz hok hb hc)
      have HF : Hid (∀ w', Below w1.heap.size w1 w' → Below w.heap.size w w') := Lib.hid fun w' hb => (HWB.out.trans (HB1.out.mono HWB.out.size)).trans (hb.mono (by have := HWB.out.size; have := HB1.out.size; omega))
      have HAS1 : Hid (As w1 q al) := Lib.hid (HAS.out.below HB1.out)
      obtain ⟨vx, hvx⟩ : ∃ x, x = validV ⟨6, 0, 0, ⟨#[]⟩⟩ al := ⟨_, rfl⟩
      obtain ⟨vy, hvy⟩ : ∃ x, x = validV ⟨6, 0, 0, ⟨#[]⟩⟩ (al ++ [b]) := ⟨_, rfl⟩
      obtain ⟨vz, hvz⟩ : ∃ x, x = validV ⟨6, 0, 0, ⟨#[]⟩⟩ (al ++ [c, b]) := ⟨_, rfl⟩
      obtain ⟨kxy, hkxy⟩ : ∃ x, x = cmpV ⟨6, 0, 0, ⟨#[]⟩⟩ al ⟨6, 0, 0, ⟨#[]⟩⟩ (al ++ [b]) := ⟨_, rfl⟩
      obtain ⟨kyz, hkyz⟩ : ∃ x, x = cmpV ⟨6, 0, 0, ⟨#[]⟩⟩ (al ++ [b]) ⟨6, 0, 0, ⟨#[]⟩⟩ (al ++ [c, b]) := ⟨_, rfl⟩
      obtain ⟨kbc, hkbc⟩ : ∃ x, x = cmpV b [] c [] := ⟨_, rfl⟩
      rw [← hvx] at RX HXY
      rw [← hvy] at RY HXY HYZ
      rw [← hvz] at RZ HYZ
      rw [← hkxy] at CXY HXY
      rw [← hkyz] at CYZ HYZ
      rw [← hkbc] at CBC HYZ
      clear hvx hvy hvz hkxy hkyz hkbc X20 X24 X29 XB XC hE q20a q20b q20c q24a q24b q24c q29a q29b q29c
      replace hn20 := Lib.hid hn20
      replace hn24 := Lib.hid hn24
      replace hn29 := Lib.hid hn29
      replace hok := Lib.hid hok
      replace hb := Lib.hid hb
      replace hc := Lib.hid hc
      obtain ⟨e0, e1, e2, e3, e4, e5, e6, e7, e8⟩ := HK9.out _ (Below.refl _ _)
      try dsimp only
      simp only [Act.put, List.getElem_toArray, List.getElem_cons_zero, List.getElem_cons_succ, List.setIfInBounds_toArray, List.set_cons_zero, List.set_cons_succ]
      go_wp2_with fail
      go_loopw [11] (fun i wr => ∃ (j : Nat), i = .int .i64 j ∧ j ≤ m ∧ Below w1.heap.size w1 wr) (fun i _ => m - (intOf i).toNat)
      case atStart => exact ⟨0, rfl, by omega, Below.refl _ _⟩
      case round =>
        obtain ⟨j, rfl, hj, hbr⟩ := hrel
        have HBR := Lib.hid hbr
        clear hbr e0 e1 e2 e3 e4 e5 e6 e7 e8
        obtain ⟨e0, e1, e2, e3, e4, e5, e6, e7, e8⟩ := HK9.out _ HBR.out
        by_cases hlt : j < m
        · have hjl : j < al.length := by have := hn0.out; omega
          obtain ⟨a, ha⟩ : ∃ a, al[j]? = some a := ⟨_, List.getElem?_eq_getElem hjl⟩
          obtain ⟨b', o, rfl, hc⟩ := HAS1.out.at ha
          obtain ⟨c0, c1, c2, c3⟩ := hc.below HBR.out
          clear hc ha hjl
          go_wp2
          · go_ret
            exact ⟨rfl, HF.out _ HBR.out⟩
          · go_roundw
            case rel => exact ⟨j + 1, by go_num, by omega, HBR.out⟩
            case measure => simp [intOf]; omega
        · obtain ⟨u0, u1, u2, u3, u4, u5, u6, u7, u8, u9, u10, u11, u12, u13, u14⟩ := HK15.out _ HBR.out
          by_cases hbs : 256 < (b.s.size : Int)
          · go_wp2_with fail
            refine (O1.out _).mono ?_; rintro e w7 ⟨rfl, hb7⟩
            have HB7 : Hid (Below w1.heap.size w1 w7) := Lib.hid (HBR.out.trans (hb7.mono HBR.out.size))
            clear hb7
            go_wp2_with fail
            refine (O2.out _).mono ?_; rintro e w8 ⟨rfl, hb8⟩
            have HB8 : Hid (Below w1.heap.size w1 w8) := Lib.hid (HB7.out.trans (hb8.mono HB7.out.size))
            clear hb8
            go_wp2_with fail
            refine (K12.out _).mono ?_; rintro e w9 ⟨rfl, hb9⟩
            have HB9 : Hid (Below w1.heap.size w1 w9) := Lib.hid (HB8.out.trans (hb9.mono HB8.out.size))
            clear hb9
            go_wp2
            go_ret
            exact ⟨rfl, HF.out _ HB9.out⟩
          · by_cases hcs : 256 < (c.s.size : Int)
            · go_wp2_with fail
              refine (O1.out _).mono ?_; rintro e w7 ⟨rfl, hb7⟩
              have HB7 : Hid (Below w1.heap.size w1 w7) := Lib.hid (HBR.out.trans (hb7.mono HBR.out.size))
              clear hb7
              go_wp2_with fail
              refine (O2.out _).mono ?_; rintro e w8 ⟨rfl, hb8⟩
              have HB8 : Hid (Below w1.heap.size w1 w8) := Lib.hid (HB7.out.trans (hb8.mono HB7.out.size))
              clear hb8
              go_wp2_with fail
              refine (K12.out _).mono ?_; rintro e w9 ⟨rfl, hb9⟩
              have HB9 : Hid (Below w1.heap.size w1 w9) := Lib.hid (HB8.out.trans (hb9.mono HB8.out.size))
              clear hb9
              go_wp2
              go_ret
              exact ⟨rfl, HF.out _ HB9.out⟩
            · go_wp2_with fail
              refine (RX.out _ HBR.out).mono ?_; rintro e w2 ⟨rfl, hb2⟩
              have HB2 : Hid (Below w1.heap.size w1 w2) := Lib.hid (HBR.out.trans (hb2.mono HBR.out.size))
              clear hb2
              clear e0 e1 e2 e3 e4 e5 e6 e7 e8 u0 u1 u2 u3 u4 u5 u6 u7 u8 u9 u10 u11 u12 u13 u14
              obtain ⟨e0, e1, e2, e3, e4, e5, e6, e7, e8⟩ := HK9.out _ HB2.out
              obtain ⟨u0, u1, u2, u3, u4, u5, u6, u7, u8, u9, u10, u11, u12, u13, u14⟩ := HK15.out _ HB2.out
              cases vx
              · go_wp2_with fail
                refine (O1.out _).mono ?_; rintro e w7 ⟨rfl, hb7⟩
                have HB7 : Hid (Below w1.heap.size w1 w7) := Lib.hid (HB2.out.trans (hb7.mono HB2.out.size))
                clear hb7
                go_wp2_with fail
                refine (O2.out _).mono ?_; rintro e w8 ⟨rfl, hb8⟩
                have HB8 : Hid (Below w1.heap.size w1 w8) := Lib.hid (HB7.out.trans (hb8.mono HB7.out.size))
                clear hb8
                go_wp2_with fail
                refine (K12.out _).mono ?_; rintro e w9 ⟨rfl, hb9⟩
                have HB9 : Hid (Below w1.heap.size w1 w9) := Lib.hid (HB8.out.trans (hb9.mono HB8.out.size))
                clear hb9
                go_wp2
                go_ret
                exact ⟨rfl, HF.out _ HB9.out⟩
              · go_wp2_with fail
                refine (RY.out _ HB2.out).mono ?_; rintro e w3 ⟨rfl, hb3⟩
                have HB3 : Hid (Below w1.heap.size w1 w3) := Lib.hid (HB2.out.trans (hb3.mono HB2.out.size))
                clear hb3
                clear e0 e1 e2 e3 e4 e5 e6 e7 e8 u0 u1 u2 u3 u4 u5 u6 u7 u8 u9 u10 u11 u12 u13 u14
                obtain ⟨e0, e1, e2, e3, e4, e5, e6, e7, e8⟩ := HK9.out _ HB3.out
                obtain ⟨u0, u1, u2, u3, u4, u5, u6, u7, u8, u9, u10, u11, u12, u13, u14⟩ := HK15.out _ HB3.out
                cases vy
                · go_wp2_with fail
                  refine (O1.out _).mono ?_; rintro e w7 ⟨rfl, hb7⟩
                  have HB7 : Hid (Below w1.heap.size w1 w7) := Lib.hid (HB3.out.trans (hb7.mono HB3.out.size))
                  clear hb7
                  go_wp2_with fail
                  refine (O2.out _).mono ?_; rintro e w8 ⟨rfl, hb8⟩
                  have HB8 : Hid (Below w1.heap.size w1 w8) := Lib.hid (HB7.out.trans (hb8.mono HB7.out.size))
                  clear hb8
                  go_wp2_with fail
                  refine (K12.out _).mono ?_; rintro e w9 ⟨rfl, hb9⟩
                  have HB9 : Hid (Below w1.heap.size w1 w9) := Lib.hid (HB8.out.trans (hb9.mono HB8.out.size))
                  clear hb9
                  go_wp2
                  go_ret
                  exact ⟨rfl, HF.out _ HB9.out⟩
                · go_wp2_with fail
                  refine (RZ.out _ HB3.out).mono ?_; rintro e w4 ⟨rfl, hb4⟩
                  have HB4 : Hid (Below w1.heap.size w1 w4) := Lib.hid (HB3.out.trans (hb4.mono HB3.out.size))
                  clear hb4
                  clear e0 e1 e2 e3 e4 e5 e6 e7 e8 u0 u1 u2 u3 u4 u5 u6 u7 u8 u9 u10 u11 u12 u13 u14
                  obtain ⟨e0, e1, e2, e3, e4, e5, e6, e7, e8⟩ := HK9.out _ HB4.out
                  obtain ⟨u0, u1, u2, u3, u4, u5, u6, u7, u8, u9, u10, u11, u12, u13, u14⟩ := HK15.out _ HB4.out
                  cases vz
                  · go_wp2_with fail
                    refine (O1.out _).mono ?_; rintro e w7 ⟨rfl, hb7⟩
                    have HB7 : Hid (Below w1.heap.size w1 w7) := Lib.hid (HB4.out.trans (hb7.mono HB4.out.size))
                    clear hb7
                    go_wp2_with fail
                    refine (O2.out _).mono ?_; rintro e w8 ⟨rfl, hb8⟩
                    have HB8 : Hid (Below w1.heap.size w1 w8) := Lib.hid (HB7.out.trans (hb8.mono HB7.out.size))
                    clear hb8
                    go_wp2_with fail
                    refine (K12.out _).mono ?_; rintro e w9 ⟨rfl, hb9⟩
                    have HB9 : Hid (Below w1.heap.size w1 w9) := Lib.hid (HB8.out.trans (hb9.mono HB8.out.size))
                    clear hb9
                    go_wp2
                    go_ret
                    exact ⟨rfl, HF.out _ HB9.out⟩
                  · obtain rfl := HXY.out (by first | exact rfl | trivial) (by first | exact rfl | trivial)
                    obtain rfl := HYZ.out (by first | exact rfl | trivial) (by first | exact rfl | trivial)
                    go_wp2_with fail
                    refine (CBC.out _ HB4.out).mono ?_; rintro e w5 ⟨rfl, hb5⟩
                    have HB5 : Hid (Below w1.heap.size w1 w5) := Lib.hid (HB4.out.trans (hb5.mono HB4.out.size))
                    clear hb5
                    clear e0 e1 e2 e3 e4 e5 e6 e7 e8 u0 u1 u2 u3 u4 u5 u6 u7 u8 u9 u10 u11 u12 u13 u14
                    obtain ⟨e0, e1, e2, e3, e4, e5, e6, e7, e8⟩ := HK9.out _ HB5.out
                    obtain ⟨u0, u1, u2, u3, u4, u5, u6, u7, u8, u9, u10, u11, u12, u13, u14⟩ := HK15.out _ HB5.out
                    by_cases hk : kbc = 0
                    · subst hk
                      rw [show orI 0 (-1) = -1 from rfl] at CYZ
                      go_wp2_with fail
                      refine (CXY.out _ HB5.out).mono ?_; rintro e w6 ⟨rfl, hb6⟩
                      have HB6 : Hid (Below w1.heap.size w1 w6) := Lib.hid (HB5.out.trans (hb6.mono HB5.out.size))
                      clear hb6
                      clear e0 e1 e2 e3 e4 e5 e6 e7 e8 u0 u1 u2 u3 u4 u5 u6 u7 u8 u9 u10 u11 u12 u13 u14
                      obtain ⟨e0, e1, e2, e3, e4, e5, e6, e7, e8⟩ := HK9.out _ HB6.out
                      obtain ⟨u0, u1, u2, u3, u4, u5, u6, u7, u8, u9, u10, u11, u12, u13, u14⟩ := HK15.out _ HB6.out
                      go_wp2_with fail
                      refine (CXX.out _ HB6.out).mono ?_; rintro e w7 ⟨rfl, hb7⟩
                      have HB7 : Hid (Below w1.heap.size w1 w7) := Lib.hid (HB6.out.trans (hb7.mono HB6.out.size))
                      clear hb7
                      clear e0 e1 e2 e3 e4 e5 e6 e7 e8 u0 u1 u2 u3 u4 u5 u6 u7 u8 u9 u10 u11 u12 u13 u14
                      obtain ⟨e0, e1, e2, e3, e4, e5, e6, e7, e8⟩ := HK9.out _ HB7.out
                      obtain ⟨u0, u1, u2, u3, u4, u5, u6, u7, u8, u9, u10, u11, u12, u13, u14⟩ := HK15.out _ HB7.out
                      go_wp2_with fail
                      refine (CYZ.out _ HB7.out).mono ?_; rintro e w8 ⟨rfl, hb8⟩
                      have HB8 : Hid (Below w1.heap.size w1 w8) := Lib.hid (HB7.out.trans (hb8.mono HB7.out.size))
                      clear hb8
                      go_wp2
                      go_ret
                      exact ⟨rfl, HF.out _ HB8.out⟩
                    · rw [orI_ne hk] at CYZ
                      go_wp2_with fail
                      refine (CXY.out _ HB5.out).mono ?_; rintro e w6 ⟨rfl, hb6⟩
                      have HB6 : Hid (Below w1.heap.size w1 w6) := Lib.hid (HB5.out.trans (hb6.mono HB5.out.size))
                      clear hb6
                      clear e0 e1 e2 e3 e4 e5 e6 e7 e8 u0 u1 u2 u3 u4 u5 u6 u7 u8 u9 u10 u11 u12 u13 u14
                      obtain ⟨e0, e1, e2, e3, e4, e5, e6, e7, e8⟩ := HK9.out _ HB6.out
                      obtain ⟨u0, u1, u2, u3, u4, u5, u6, u7, u8, u9, u10, u11, u12, u13, u14⟩ := HK15.out _ HB6.out
                      go_wp2_with fail
                      refine (CXX.out _ HB6.out).mono ?_; rintro e w7 ⟨rfl, hb7⟩
                      have HB7 : Hid (Below w1.heap.size w1 w7) := Lib.hid (HB6.out.trans (hb7.mono HB6.out.size))
                      clear hb7
                      clear e0 e1 e2 e3 e4 e5 e6 e7 e8 u0 u1 u2 u3 u4 u5 u6 u7 u8 u9 u10 u11 u12 u13 u14
                      obtain ⟨e0, e1, e2, e3, e4, e5, e6, e7, e8⟩ := HK9.out _ HB7.out
                      obtain ⟨u0, u1, u2, u3, u4, u5, u6, u7, u8, u9, u10, u11, u12, u13, u14⟩ := HK15.out _ HB7.out
                      go_wp2_with fail
                      refine (CYZ.out _ HB7.out).mono ?_; rintro e w8 ⟨rfl, hb8⟩
                      have HB8 : Hid (Below w1.heap.size w1 w8) := Lib.hid (HB7.out.trans (hb8.mono HB7.out.size))
                      clear hb8
                      go_wp2
                      go_ret
                      exact ⟨rfl, HF.out _ HB8.out⟩
  · obtain ⟨m, hm⟩ : ∃ m, m = m0 := ⟨_, rfl⟩
    obtain ⟨al, hae⟩ : ∃ al, al = al0 := ⟨_, rfl⟩
    subst hm hae
    obtain ⟨hx1, hx2, hx3, hx4, hx5⟩ := boxes3 w #[.slice q m c'] #[.int .i64 b.k, .int .i64 b.n, .float .f64 b.f, .string b.s] #[.int .i64 c.k, .int .i64 c.n, .float .f64 c.f, .string c.s] 44 43 43
    obtain ⟨Wb, hWb⟩ : ∃ W, W = ((w.alloc (.cells #[.slice q m c'] 44)).alloc (.cells #[.int .i64 b.k, .int .i64 b.n, .float .f64 b.f, .string b.s] 43)).alloc (.cells #[.int .i64 c.k, .int .i64 c.n, .float .f64 c.f, .string c.s] 43) := ⟨_, rfl⟩
    rw [← hWb] at hx1 hx2 hx3 hx4 hx5
    have hm14 : m ≤ 14 := by omega
    have HKS : Hid (∀ w', Below Wb.heap.size Wb w' → (w'.cell? ⟨w.heap.size, 0, none⟩ = some (.slice q m c') ∧ w'.cell? ⟨w.heap.size + 1, 0, none⟩ = some (.int .i64 b.k) ∧ w'.cell? ⟨w.heap.size + 1, 1, none⟩ = some (.int .i64 b.n) ∧ w'.cell? ⟨w.heap.size + 1, 2, none⟩ = some (.float .f64 b.f) ∧ w'.cell? ⟨w.heap.size + 1, 3, none⟩ = some (.string b.s) ∧ w'.cell? ⟨w.heap.size + 2, 0, none⟩ = some (.int .i64 c.k) ∧ w'.cell? ⟨w.heap.size + 2, 1, none⟩ = some (.int .i64 c.n) ∧ w'.cell? ⟨w.heap.size + 2, 2, none⟩ = some (.float .f64 c.f) ∧ w'.cell? ⟨w.heap.size + 2, 3, none⟩ = some (.string c.s))) := Lib.hid fun w' hb => by
      have f1 := (hb.block w.heap.size (by omega)).trans hx1
      have f2 := (hb.block (w.heap.size + 1) (by omega)).trans hx2
      have f3 := (hb.block (w.heap.size + 2) (by omega)).trans hx3
      refine ⟨?_, ?_, ?_, ?_, ?_, ?_, ?_, ?_, ?_⟩
      · rw [Joins.cell_of_block f1]; rfl
      · rw [Joins.cell_of_block f2]; rfl
      · rw [Joins.cell_of_block f2]; rfl
      · rw [Joins.cell_of_block f2]; rfl
      · rw [Joins.cell_of_block f2]; rfl
      · rw [Joins.cell_of_block f3]; rfl
      · rw [Joins.cell_of_block f3]; rfl
      · rw [Joins.cell_of_block f3]; rfl
      · rw [Joins.cell_of_block f3]; rfl
    have HWB : Hid (Below w.heap.size w Wb) := Lib.hid hx4
    have HAS : Hid (As Wb q al) := Lib.hid (hal.below hx4)
    have HL1 : Hid (∀ w', Below Wb.heap.size Wb w' → Calls Try.prog 20 #[.slice none 0 0, .pointer (some ⟨w.heap.size, 0, none⟩)] w' (ListPost al w')) := Lib.hid fun w' hb => by
      have h := list_any (l := []) (n := 0) (d := 0) (p := none) (HKS.out w' hb).1 hn0 hz (HAS.out.below hb) rfl (fun _ => rfl) (As.nil _ _) (by simp; omega)
      rwa [List.append_nil] at h
    have HL2 : Hid (∀ w' gs, As w' (some ⟨gs, 0, none⟩) [b] → Below Wb.heap.size Wb w' → Calls Try.prog 20 #[.slice (some ⟨gs, 0, none⟩) 1 1, .pointer (some ⟨w.heap.size, 0, none⟩)] w' (ListPost (al ++ [b]) w')) := Lib.hid fun w' gs hs hb =>
      list_any (l := [b]) (n := 1) (d := 1) (HKS.out w' hb).1 hn0 hz (HAS.out.below hb) rfl (fun h => by cases h) hs (by simp; omega)
    have HL3 : Hid (∀ w' gs, As w' (some ⟨gs, 0, none⟩) [c, b] → Below Wb.heap.size Wb w' → Calls Try.prog 20 #[.slice (some ⟨gs, 0, none⟩) 2 2, .pointer (some ⟨w.heap.size, 0, none⟩)] w' (ListPost (al ++ [c, b]) w')) := Lib.hid fun w' gs hs hb =>
      list_any (l := [c, b]) (n := 2) (d := 2) (HKS.out w' hb).1 hn0 hz (HAS.out.below hb) rfl (fun h => by cases h) hs (by simp; omega)
    clear hx1 hx2 hx3 hx4 hx5 hal
    replace hn0 := Lib.hid hn0
    go_enter Try.func5, Try.ntmps5
    go_wp2_with fail
    rw [← hWb]
    clear hWb
    refine wp_cutV (fun a a' w' => ∃ (x19 x20 x21 x22 x23 x24 x25 x26 x27 x28 x29 : Value) (g8 g9 g10 : Nat) (v20 v24 v29 : Value), a' = ((((((((((((((a.put (some 19) x19).put (some 20) x20).put (some 21) x21).put (some 22) x22).put (some 23) x23).put (some 24) x24).put (some 25) x25).put (some 26) x26).put (some 27) x27).put (some 28) x28).put (some 29) x29).put (some 8) (.pointer (some ⟨g8, 0, none⟩))).put (some 9) (.pointer (some ⟨g9, 0, none⟩))).put (some 10) (.pointer (some ⟨g10, 0, none⟩))) ∧ EndV Wb al b c g8 g9 g10 v20 v24 v29 w') ?_ ?_
    · refine wp_region_held_drew (S := fun w' => w'.cell? ⟨w.heap.size, 0, none⟩ = some (.slice q m c') ∧ w'.cell? ⟨w.heap.size + 1, 0, none⟩ = some (.int .i64 b.k) ∧ w'.cell? ⟨w.heap.size + 1, 1, none⟩ = some (.int .i64 b.n) ∧ w'.cell? ⟨w.heap.size + 1, 2, none⟩ = some (.float .f64 b.f) ∧ w'.cell? ⟨w.heap.size + 1, 3, none⟩ = some (.string b.s) ∧ w'.cell? ⟨w.heap.size + 2, 0, none⟩ = some (.int .i64 c.k) ∧ w'.cell? ⟨w.heap.size + 2, 1, none⟩ = some (.int .i64 c.n) ∧ w'.cell? ⟨w.heap.size + 2, 2, none⟩ = some (.float .f64 c.f) ∧ w'.cell? ⟨w.heap.size + 2, 3, none⟩ = some (.string c.s)) (by kernel_rfl) (HKS.out _ (Below.refl _ _).drew) (fun hHeld => ?_)
      obtain ⟨u0, hu0⟩ : ∃ x, x = Wb.drew := ⟨_, rfl⟩
      rw [← hu0] at hHeld ⊢
      have HB0 : Hid (Below Wb.heap.size Wb u0) := Lib.hid (by rw [hu0]; exact (Below.refl _ _).drew)
      clear hu0
      refine wpAnyH_take (i := 0) (v := ?_) rfl (by kernel_rfl) (by kernel_rfl) (by kernel_rfl) (fun _ _ _ h => nomatch h.1) (Or.inl ⟨by rfl, ?_⟩) (by assumption) ?_
      rotate_left
      · intro w hSw; obtain ⟨s0, s1, s2, s3, s4, s5, s6, s7, s8⟩ := hSw; go_simp; try with_reducible rfl
      simp only [Act.put, List.getElem_toArray, List.getElem_cons_zero, List.getElem_cons_succ, List.setIfInBounds_toArray, List.set_cons_zero, List.set_cons_succ]
      refine wpAnyH_take (i := 2) (v := ?_) rfl (by kernel_rfl) (by kernel_rfl) (by kernel_rfl) (fun _ _ _ h => nomatch h.1) (Or.inl ⟨by rfl, ?_⟩) (by assumption) ?_
      rotate_left
      · intro w hSw; obtain ⟨s0, s1, s2, s3, s4, s5, s6, s7, s8⟩ := hSw; go_simp; try with_reducible rfl
      simp only [Act.put, List.getElem_toArray, List.getElem_cons_zero, List.getElem_cons_succ, List.setIfInBounds_toArray, List.set_cons_zero, List.set_cons_succ]
      refine wpAnyH_take (i := 3) (v := ?_) rfl (by kernel_rfl) (by kernel_rfl) (by kernel_rfl) (fun _ _ _ h => nomatch h.1) (Or.inl ⟨by rfl, ?_⟩) (by assumption) ?_
      rotate_left
      · intro w hSw; obtain ⟨s0, s1, s2, s3, s4, s5, s6, s7, s8⟩ := hSw; go_simp; try with_reducible rfl
      simp only [Act.put, List.getElem_toArray, List.getElem_cons_zero, List.getElem_cons_succ, List.setIfInBounds_toArray, List.set_cons_zero, List.set_cons_succ]
      refine wpAnyH_take (i := 6) (v := ?_) rfl (by kernel_rfl) (by kernel_rfl) (by kernel_rfl) (fun _ _ _ h => nomatch h.1) (Or.inl ⟨by rfl, ?_⟩) (by assumption) ?_
      rotate_left
      · intro w hSw; obtain ⟨s0, s1, s2, s3, s4, s5, s6, s7, s8⟩ := hSw; go_simp; try with_reducible rfl
      simp only [Act.put, List.getElem_toArray, List.getElem_cons_zero, List.getElem_cons_succ, List.setIfInBounds_toArray, List.set_cons_zero, List.set_cons_succ]
      refine wpAnyH_take (i := 7) (v := ?_) rfl (by kernel_rfl) (by kernel_rfl) (by kernel_rfl) (fun _ _ _ h => nomatch h.1) (Or.inl ⟨by rfl, ?_⟩) (by assumption) ?_
      rotate_left
      · intro w hSw; obtain ⟨s0, s1, s2, s3, s4, s5, s6, s7, s8⟩ := hSw; go_simp; try with_reducible rfl
      simp only [Act.put, List.getElem_toArray, List.getElem_cons_zero, List.getElem_cons_succ, List.setIfInBounds_toArray, List.set_cons_zero, List.set_cons_succ]
      refine wpAnyH_take (i := 8) (v := ?_) rfl (by kernel_rfl) (by kernel_rfl) (by kernel_rfl) (fun _ _ _ h => nomatch h.1) (Or.inl ⟨by rfl, ?_⟩) (by assumption) ?_
      rotate_left
      · intro w hSw; obtain ⟨s0, s1, s2, s3, s4, s5, s6, s7, s8⟩ := hSw; go_simp; try with_reducible rfl
      simp only [Act.put, List.getElem_toArray, List.getElem_cons_zero, List.getElem_cons_succ, List.setIfInBounds_toArray, List.set_cons_zero, List.set_cons_succ]
      refine wpAnyH_upto (fun a0 listed a w' => ∃ (x20 x23 x24 x28 x29 x8 x9 x10 : Value) (l1 l4 l5 l9 l10 l11 l12 l13 : Bool), listed = #[true, l1, true, true, l4, l5, true, true, true, l9, l10, l11, l12, l13, false, false, false] ∧ a = ((((((((a0.put (some 20) x20).put (some 23) x23).put (some 24) x24).put (some 28) x28).put (some 29) x29).put (some 8) x8).put (some 9) x9).put (some 10) x10) ∧ VlI Wb al b c l1 l4 l5 l9 l10 l11 l12 l13 x20 x23 x24 x28 x29 x8 x9 x10 w') (#[true, true, true, true, true, true, true, true, true, true, true, true, true, true, false, false, false]) ?_ ?_ ?_ (of_decide_eq_true (by kernel_rfl)) ⟨undef, undef, undef, undef, undef, undef, undef, undef, false, false, false, false, false, false, false, false, by kernel_rfl, by kernel_rfl, ?_⟩
      · rintro listed a w' i ⟨x20, x23, x24, x28, x29, x8, x9, x10, l1, l4, l5, l9, l10, l11, l12, l13, rfl, rfl, hI⟩ hne hr
        obtain ⟨hlf, o, ho, hdeps⟩ := mem_ready.1 hr
        have hi17 : i < 17 := (Array.getElem?_eq_some_iff.1 ho).1
        have hi : i = 0 ∨ i = 1 ∨ i = 2 ∨ i = 3 ∨ i = 4 ∨ i = 5 ∨ i = 6 ∨ i = 7 ∨ i = 8 ∨ i = 9 ∨ i = 10 ∨ i = 11 ∨ i = 12 ∨ i = 13 ∨ i = 14 ∨ i = 15 ∨ i = 16 := by omega
        clear hr hi17
        rcases hi with rfl | rfl | rfl | rfl | rfl | rfl | rfl | rfl | rfl | rfl | rfl | rfl | rfl | rfl | rfl | rfl | rfl
        all_goals obtain rfl := Option.some.inj ho
        · simp at hlf
        · obtain rfl : l1 = false := by simpa using hlf
          refine wpOp_step (i := 1) rfl (fun K' hK' => ?_)
          replace hK' := Lib.hid hK'
          simp only [Act.put, List.getElem_toArray, List.getElem_cons_zero, List.getElem_cons_succ, List.setIfInBounds_toArray, List.set_cons_zero, List.set_cons_succ]
          go_simp
          refine (HL1.out _ hI.bl).mono ?_
          rintro e w2 ⟨v, rfl, ho, hb2⟩
          dsimp only
          refine hK'.out _ _ ?_
          exact ⟨HKS.out _ (hI.bl.trans (hb2.mono hI.bl.size)), (.agg #[.int .i64 6, .int .i64 0, .float .f64 0, .string ⟨#[]⟩, v]), x23, x24, x28, x29, x8, x9, x10, true, l4, l5, l9, l10, l11, l12, l13, by kernel_rfl, by kernel_rfl, hI.s1 hb2 ⟨v, rfl, ho⟩⟩
        · simp at hlf
        · simp at hlf
        · obtain rfl : l4 = false := by simpa using hlf
          refine wpOp_step (i := 4) rfl (fun K' hK' => ?_)
          replace hK' := Lib.hid hK'
          simp only [Act.put, List.getElem_toArray, List.getElem_cons_zero, List.getElem_cons_succ, List.setIfInBounds_toArray, List.set_cons_zero, List.set_cons_succ]
          go_simp
          refine hK'.out _ _ ?_
          exact ⟨HKS.out _ (hI.bl.alloc hI.bl.size _), x20, (.slice (some ⟨w'.heap.size, 0, none⟩) 1 1), x24, x28, x29, x8, x9, x10, l1, true, l5, l9, l10, l11, l12, l13, by kernel_rfl, by kernel_rfl, hI.s4 ((Below.refl _ _).alloc (Nat.le_refl _) _) (sl_one _)⟩
        · obtain rfl : l5 = false := by simpa using hlf
          obtain rfl : l1 = true := by simpa using hdeps ⟨1, .chain⟩ (by simp) rfl
          obtain rfl : l4 = true := by simpa using hdeps ⟨4, .data⟩ (by simp) rfl
          obtain ⟨gs, rfl, hsn, hsl⟩ := hI.p23 rfl
          clear hsn
          refine wpOp_step (i := 5) rfl (fun K' hK' => ?_)
          replace hK' := Lib.hid hK'
          simp only [Act.put, List.getElem_toArray, List.getElem_cons_zero, List.getElem_cons_succ, List.setIfInBounds_toArray, List.set_cons_zero, List.set_cons_succ]
          go_simp
          refine (HL2.out _ gs hsl hI.bl).mono ?_
          rintro e w2 ⟨v, rfl, ho, hb2⟩
          dsimp only
          refine hK'.out _ _ ?_
          exact ⟨HKS.out _ (hI.bl.trans (hb2.mono hI.bl.size)), x20, (.slice (some ⟨gs, 0, none⟩) 1 1), (.agg #[.int .i64 6, .int .i64 0, .float .f64 0, .string ⟨#[]⟩, v]), x28, x29, x8, x9, x10, true, true, true, l9, l10, l11, l12, l13, by kernel_rfl, by kernel_rfl, hI.s5 hb2 ⟨v, rfl, ho⟩⟩
        · simp at hlf
        · simp at hlf
        · simp at hlf
        · obtain rfl : l9 = false := by simpa using hlf
          refine wpOp_step (i := 9) rfl (fun K' hK' => ?_)
          replace hK' := Lib.hid hK'
          simp only [Act.put, List.getElem_toArray, List.getElem_cons_zero, List.getElem_cons_succ, List.setIfInBounds_toArray, List.set_cons_zero, List.set_cons_succ]
          go_simp
          refine hK'.out _ _ ?_
          exact ⟨HKS.out _ (hI.bl.alloc hI.bl.size _), x20, x23, x24, (.slice (some ⟨w'.heap.size, 0, none⟩) 2 2), x29, x8, x9, x10, l1, l4, l5, true, l10, l11, l12, l13, by kernel_rfl, by kernel_rfl, hI.s9 ((Below.refl _ _).alloc (Nat.le_refl _) _) (sl_two _)⟩
        · obtain rfl : l10 = false := by simpa using hlf
          obtain rfl : l5 = true := by simpa using hdeps ⟨5, .chain⟩ (by simp) rfl
          obtain rfl : l9 = true := by simpa using hdeps ⟨9, .data⟩ (by simp) rfl
          obtain ⟨gs, rfl, hsn, hsl⟩ := hI.p28 rfl
          clear hsn
          refine wpOp_step (i := 10) rfl (fun K' hK' => ?_)
          replace hK' := Lib.hid hK'
          simp only [Act.put, List.getElem_toArray, List.getElem_cons_zero, List.getElem_cons_succ, List.setIfInBounds_toArray, List.set_cons_zero, List.set_cons_succ]
          go_simp
          refine (HL3.out _ gs hsl hI.bl).mono ?_
          rintro e w2 ⟨v, rfl, ho, hb2⟩
          dsimp only
          refine hK'.out _ _ ?_
          exact ⟨HKS.out _ (hI.bl.trans (hb2.mono hI.bl.size)), x20, x23, x24, (.slice (some ⟨gs, 0, none⟩) 2 2), (.agg #[.int .i64 6, .int .i64 0, .float .f64 0, .string ⟨#[]⟩, v]), x8, x9, x10, l1, l4, true, true, true, l11, l12, l13, by kernel_rfl, by kernel_rfl, hI.s10 hb2 ⟨v, rfl, ho⟩⟩
        · obtain rfl : l11 = false := by simpa using hlf
          refine wpOp_step (i := 11) rfl (fun K' hK' => ?_)
          replace hK' := Lib.hid hK'
          simp only [Act.put, List.getElem_toArray, List.getElem_cons_zero, List.getElem_cons_succ, List.setIfInBounds_toArray, List.set_cons_zero, List.set_cons_succ]
          go_simp
          refine hK'.out _ _ ?_
          exact ⟨HKS.out _ (hI.bl.alloc hI.bl.size _), x20, x23, x24, x28, x29, (.pointer (some ⟨w'.heap.size, 0, none⟩)), x9, x10, l1, l4, l5, l9, l10, true, l12, l13, by kernel_rfl, by kernel_rfl, hI.s11⟩
        · obtain rfl : l12 = false := by simpa using hlf
          refine wpOp_step (i := 12) rfl (fun K' hK' => ?_)
          replace hK' := Lib.hid hK'
          simp only [Act.put, List.getElem_toArray, List.getElem_cons_zero, List.getElem_cons_succ, List.setIfInBounds_toArray, List.set_cons_zero, List.set_cons_succ]
          go_simp
          refine hK'.out _ _ ?_
          exact ⟨HKS.out _ (hI.bl.alloc hI.bl.size _), x20, x23, x24, x28, x29, x8, (.pointer (some ⟨w'.heap.size, 0, none⟩)), x10, l1, l4, l5, l9, l10, l11, true, l13, by kernel_rfl, by kernel_rfl, hI.s12⟩
        · obtain rfl : l13 = false := by simpa using hlf
          refine wpOp_step (i := 13) rfl (fun K' hK' => ?_)
          replace hK' := Lib.hid hK'
          simp only [Act.put, List.getElem_toArray, List.getElem_cons_zero, List.getElem_cons_succ, List.setIfInBounds_toArray, List.set_cons_zero, List.set_cons_succ]
          go_simp
          refine hK'.out _ _ ?_
          exact ⟨HKS.out _ (hI.bl.alloc hI.bl.size _), x20, x23, x24, x28, x29, x8, x9, (.pointer (some ⟨w'.heap.size, 0, none⟩)), l1, l4, l5, l9, l10, l11, l12, true, by kernel_rfl, by kernel_rfl, hI.s13⟩
        · obtain rfl : l10 = true := by simpa using hdeps ⟨10, .chain⟩ (by simp) rfl
          obtain rfl : l11 = true := by simpa using hdeps ⟨11, .data⟩ (by simp) rfl
          obtain rfl : l12 = true := by simpa using hdeps ⟨12, .phase⟩ (by simp) rfl
          obtain rfl : l13 = true := by simpa using hdeps ⟨13, .phase⟩ (by simp) rfl
          obtain ⟨rfl, rfl⟩ := hI.d10 rfl
          obtain ⟨rfl, rfl⟩ := hI.d5 rfl
          exact absurd rfl hne
        · have := hdeps ⟨14, .chain⟩ (by simp) rfl
          simp at this
        · have := hdeps ⟨15, .chain⟩ (by simp) rfl
          simp at this
      · rintro listed a w' ⟨x20, x23, x24, x28, x29, x8, x9, x10, l1, l4, l5, l9, l10, l11, l12, l13, rfl, rfl, hI⟩ hne hr
        have d5 := hI.d5
        have d10 := hI.d10
        clear hI
        revert l1 l4 l5 l9 l10 l11 l12 l13
        decide +kernel
      · rintro a w1 fuel ⟨x20, x23, x24, x28, x29, x8, x9, x10, l1, l4, l5, l9, l10, l11, l12, l13, hD, rfl, hI⟩ hfu
        have h3 : unl (#[true, true, true, true, true, true, true, true, true, true, true, true, true, true, false, false, false] : Array Bool) = 3 := by kernel_rfl
        rw [h3] at hfu
        obtain ⟨k, rfl⟩ : ∃ k, fuel = k + 1 + 1 + 1 := ⟨fuel - 3, by omega⟩
        clear h3
        have hl : l1 = true ∧ l4 = true ∧ l5 = true ∧ l9 = true ∧ l10 = true ∧ l11 = true ∧ l12 = true ∧ l13 = true := by
          simp only [Array.mk.injEq, List.cons.injEq, true_and, and_true, Bool.true_eq] at hD
          simpa [and_assoc, eq_comm] using hD
        obtain ⟨rfl, rfl, rfl, rfl, rfl, rfl, rfl, rfl⟩ := hl
        clear hD hfu
        obtain ⟨v20, rfl, o20⟩ := hI.p20 rfl
        obtain ⟨v24, rfl, o24⟩ := hI.p24 rfl
        obtain ⟨v29, rfl, o29⟩ := hI.p29 rfl
        obtain ⟨n20, hn20⟩ : ∃ n, n = al.length := ⟨_, rfl⟩
        obtain ⟨p20, d20, rfl, _, _, _⟩ := o20.form hn20
        clear hn20
        obtain ⟨n24, hn24⟩ : ∃ n, n = (al ++ [b]).length := ⟨_, rfl⟩
        obtain ⟨p24, d24, rfl, _, _, _⟩ := o24.form hn24
        clear hn24
        obtain ⟨n29, hn29⟩ : ∃ n, n = (al ++ [c, b]).length := ⟨_, rfl⟩
        obtain ⟨p29, d29, rfl, _, _, _⟩ := o29.form hn29
        clear hn29
        obtain ⟨g8, rfl, HGEg8, h8⟩ := hI.p8 rfl
        obtain ⟨g9, rfl, HGEg9, h9⟩ := hI.p9 rfl
        obtain ⟨g10, rfl, HGEg10, h10⟩ := hI.p10 rfl
        have n1 : g8 ≠ g9 := fun e => hI.n89 rfl rfl (by rw [e])
        have n2 : g8 ≠ g10 := fun e => hI.n8a rfl rfl (by rw [e])
        have n3 : g9 ≠ g10 := fun e => hI.n9a rfl rfl (by rw [e])
        have HI := Lib.hid hI.bl
        have H8 := Lib.hid h8
        have H9 := Lib.hid h9
        have H10 := Lib.hid h10
        have O20 := Lib.hid o20
        have O24 := Lib.hid o24
        have O29 := Lib.hid o29
        have HN := Lib.hid (And.intro n1 (And.intro n2 n3))
        clear hI h8 h9 h10 o20 o24 o29 n1 n2 n3
        simp only [Act.put, List.getElem_toArray, List.getElem_cons_zero, List.getElem_cons_succ, List.setIfInBounds_toArray, List.set_cons_zero, List.set_cons_succ]
        refine wpAnyH_ready (rs := [14]) (by kernel_rfl) (by simp) ?_
        refine AllReadyH.cons rfl (fun K hK => ?_) AllReadyH.nil
        obtain ⟨z0, f0⟩ := cell_at H8.out 0
        obtain ⟨z1, f1⟩ := cell_at H8.out 1
        obtain ⟨z2, f2⟩ := cell_at H8.out 2
        obtain ⟨z3, f3⟩ := cell_at H8.out 3
        obtain ⟨z4, f4⟩ := cell_at H8.out 4
        simp only [zeroV, List.getElem?_toArray, List.getElem?_cons_zero, List.getElem?_cons_succ] at z0 z1 z2 z3 z4
        have hglt : g8 < w1.heap.size := (Array.getElem?_eq_some_iff.1 H8.out).1
        obtain ⟨w2, hw2⟩ : ∃ x, x = putV w1 g8 (.slice p20 n20 d20) := ⟨_, rfl⟩
        have HBw2 : Hid (Below Wb.heap.size Wb w2) := Lib.hid (by rw [hw2]; exact boxV_below HI.out HGEg8 _)
        go_simp
        rw [show ((((w1.setCell ⟨g8, 0, none⟩ (.int .i64 6)).setCell ⟨g8, 1, none⟩ (.int .i64 0)).setCell ⟨g8, 2, none⟩ (.float .f64 0)).setCell ⟨g8, 3, none⟩ (.string ⟨#[]⟩)).setCell ⟨g8, 4, none⟩ (.slice p20 n20 d20) = w2 from hw2.symm]
        refine hK.out _ _ (HKS.out _ HBw2.out) (fun hHeld => ?_)
        replace hw2 := Lib.hid hw2
        clear hK K z0 z1 z2 z3 z4 f0 f1 f2 f3 f4 hglt
        simp only [Act.put, List.getElem_toArray, List.getElem_cons_zero, List.getElem_cons_succ, List.setIfInBounds_toArray, List.set_cons_zero, List.set_cons_succ]
        have H9' : Hid (w2.heap[g9]? = some (.cells zeroV 46 (0, 0))) := Lib.hid (by rw [hw2.out, boxV_far HN.out.1.symm]; exact H9.out)
        refine wpAnyH_ready (rs := [15]) (by kernel_rfl) (by simp) ?_
        refine AllReadyH.cons rfl (fun K hK => ?_) AllReadyH.nil
        obtain ⟨z0, f0⟩ := cell_at H9'.out 0
        obtain ⟨z1, f1⟩ := cell_at H9'.out 1
        obtain ⟨z2, f2⟩ := cell_at H9'.out 2
        obtain ⟨z3, f3⟩ := cell_at H9'.out 3
        obtain ⟨z4, f4⟩ := cell_at H9'.out 4
        simp only [zeroV, List.getElem?_toArray, List.getElem?_cons_zero, List.getElem?_cons_succ] at z0 z1 z2 z3 z4
        have hglt : g9 < w2.heap.size := (Array.getElem?_eq_some_iff.1 H9'.out).1
        obtain ⟨w3, hw3⟩ : ∃ x, x = putV w2 g9 (.slice p24 n24 d24) := ⟨_, rfl⟩
        have HBw3 : Hid (Below Wb.heap.size Wb w3) := Lib.hid (by rw [hw3]; exact boxV_below HBw2.out HGEg9 _)
        go_simp
        rw [show ((((w2.setCell ⟨g9, 0, none⟩ (.int .i64 6)).setCell ⟨g9, 1, none⟩ (.int .i64 0)).setCell ⟨g9, 2, none⟩ (.float .f64 0)).setCell ⟨g9, 3, none⟩ (.string ⟨#[]⟩)).setCell ⟨g9, 4, none⟩ (.slice p24 n24 d24) = w3 from hw3.symm]
        refine hK.out _ _ (HKS.out _ HBw3.out) (fun hHeld => ?_)
        replace hw3 := Lib.hid hw3
        clear hK K z0 z1 z2 z3 z4 f0 f1 f2 f3 f4 hglt
        simp only [Act.put, List.getElem_toArray, List.getElem_cons_zero, List.getElem_cons_succ, List.setIfInBounds_toArray, List.set_cons_zero, List.set_cons_succ]
        have H10' : Hid (w3.heap[g10]? = some (.cells zeroV 46 (0, 0))) := Lib.hid (by rw [hw3.out, boxV_far HN.out.2.2.symm, hw2.out, boxV_far HN.out.2.1.symm]; exact H10.out)
        refine wpAnyH_ready (rs := [16]) (by kernel_rfl) (by simp) ?_
        refine AllReadyH.cons rfl (fun K hK => ?_) AllReadyH.nil
        obtain ⟨z0, f0⟩ := cell_at H10'.out 0
        obtain ⟨z1, f1⟩ := cell_at H10'.out 1
        obtain ⟨z2, f2⟩ := cell_at H10'.out 2
        obtain ⟨z3, f3⟩ := cell_at H10'.out 3
        obtain ⟨z4, f4⟩ := cell_at H10'.out 4
        simp only [zeroV, List.getElem?_toArray, List.getElem?_cons_zero, List.getElem?_cons_succ] at z0 z1 z2 z3 z4
        have hglt : g10 < w3.heap.size := (Array.getElem?_eq_some_iff.1 H10'.out).1
        obtain ⟨w4, hw4⟩ : ∃ x, x = putV w3 g10 (.slice p29 n29 d29) := ⟨_, rfl⟩
        have HBw4 : Hid (Below Wb.heap.size Wb w4) := Lib.hid (by rw [hw4]; exact boxV_below HBw3.out HGEg10 _)
        go_simp
        rw [show ((((w3.setCell ⟨g10, 0, none⟩ (.int .i64 6)).setCell ⟨g10, 1, none⟩ (.int .i64 0)).setCell ⟨g10, 2, none⟩ (.float .f64 0)).setCell ⟨g10, 3, none⟩ (.string ⟨#[]⟩)).setCell ⟨g10, 4, none⟩ (.slice p29 n29 d29) = w4 from hw4.symm]
        refine hK.out _ _ (HKS.out _ HBw4.out) (fun hHeld => ?_)
        replace hw4 := Lib.hid hw4
        clear hK K z0 z1 z2 z3 z4 f0 f1 f2 f3 f4 hglt
        simp only [Act.put, List.getElem_toArray, List.getElem_cons_zero, List.getElem_cons_succ, List.setIfInBounds_toArray, List.set_cons_zero, List.set_cons_succ]
        refine wpAnyH_done (by kernel_rfl) ?_ _
        refine ⟨rfl, (.func (.func 20) #[] #[.pointer (some ⟨w.heap.size, 0, none⟩)]), (.agg #[.int .i64 6, .int .i64 0, .float .f64 0, .string ⟨#[]⟩, (.slice p20 n20 d20)]), (.func (.func 20) #[] #[.pointer (some ⟨w.heap.size, 0, none⟩)]), (.agg #[.int .i64 b.k, .int .i64 b.n, .float .f64 b.f, .string b.s]), x23, (.agg #[.int .i64 6, .int .i64 0, .float .f64 0, .string ⟨#[]⟩, (.slice p24 n24 d24)]), (.func (.func 20) #[] #[.pointer (some ⟨w.heap.size, 0, none⟩)]), (.agg #[.int .i64 c.k, .int .i64 c.n, .float .f64 c.f, .string c.s]), (.agg #[.int .i64 b.k, .int .i64 b.n, .float .f64 b.f, .string b.s]), x28, (.agg #[.int .i64 6, .int .i64 0, .float .f64 0, .string ⟨#[]⟩, (.slice p29 n29 d29)]), g8, g9, g10, (.slice p20 n20 d20), (.slice p24 n24 d24), (.slice p29 n29 d29), by kernel_rfl, ?_⟩
        have k8 : w2.heap[g8]? = some (.cells #[.int .i64 6, .int .i64 0, .float .f64 0, .string ⟨#[]⟩, (.slice p20 n20 d20)] 46 (0, 0)) := by rw [hw2.out]; exact boxV_put H8.out _
        have k9 : w3.heap[g9]? = some (.cells #[.int .i64 6, .int .i64 0, .float .f64 0, .string ⟨#[]⟩, (.slice p24 n24 d24)] 46 (0, 0)) := by rw [hw3.out]; exact boxV_put H9'.out _
        have k10 : w4.heap[g10]? = some (.cells #[.int .i64 6, .int .i64 0, .float .f64 0, .string ⟨#[]⟩, (.slice p29 n29 d29)] 46 (0, 0)) := by rw [hw4.out]; exact boxV_put H10'.out _
        have t1 : ∀ (v : Value) (l : List At), AOwn w1 Wb.heap.size v l → AOwn w4 Wb.heap.size v l := fun v l h => by
          have a1 : AOwn w2 Wb.heap.size v l := by rw [hw2.out]; exact h.box H8.out _
          have a2 : AOwn w3 Wb.heap.size v l := by rw [hw3.out]; exact a1.box H9'.out _
          rw [hw4.out]
          exact a2.box H10'.out _
        exact ⟨by rw [hw4.out, boxV_far HN.out.2.1, hw3.out, boxV_far HN.out.1]; exact k8, by rw [hw4.out, boxV_far HN.out.2.2]; exact k9, k10, t1 _ _ O20.out, t1 _ _ O24.out, t1 _ _ O29.out, HBw4.out⟩
      · exact ⟨(fun k => by cases k), (fun k => by cases k), (fun k => by cases k), (fun k => by cases k), (fun k => by cases k), (fun k => by cases k), (fun k => by cases k), (fun k => by cases k), (fun k => by cases k), (fun k => by cases k), (fun k => by cases k), (fun k => by cases k), (fun k => by cases k), HB0.out⟩
    · rintro a' w1 ⟨x19, x20, x21, x22, x23, x24, x25, x26, x27, x28, x29, g8, g9, g10, v20, v24, v29, rfl, hE⟩
      obtain ⟨n20, hn20⟩ : ∃ x, x = al.length := ⟨_, rfl⟩
      obtain ⟨p20, d20, rfl, q20a, q20b, q20c⟩ := hE.o20.form hn20
      obtain ⟨n24, hn24⟩ : ∃ x, x = (al ++ [b]).length := ⟨_, rfl⟩
      obtain ⟨p24, d24, rfl, q24a, q24b, q24c⟩ := hE.o24.form hn24
      obtain ⟨n29, hn29⟩ : ∃ x, x = (al ++ [c, b]).length := ⟨_, rfl⟩
      obtain ⟨p29, d29, rfl, q29a, q29b, q29c⟩ := hE.o29.form hn29
      have X20 : VaOk w1 ⟨6, 0, 0, ⟨#[]⟩⟩ p20 n20 d20 al := ⟨hd_ok, hn20, q20a, q20b, q20c, hok⟩
      have X24 : VaOk w1 ⟨6, 0, 0, ⟨#[]⟩⟩ p24 n24 d24 (al ++ [b]) := ⟨hd_ok, hn24, q24a, q24b, q24c, ok_app hok (by simpa using hb)⟩
      have X29 : VaOk w1 ⟨6, 0, 0, ⟨#[]⟩⟩ p29 n29 d29 (al ++ [c, b]) := ⟨hd_ok, hn29, q29a, q29b, q29c, ok_app hok (by intro x hx; rcases List.mem_cons.1 hx with rfl | hx; exact hc; obtain rfl := List.mem_singleton.1 hx; exact hb)⟩
      have XB : VaOk w1 b none 0 0 [] := ⟨hb, rfl, Nat.le_refl _, by omega, As.nil _ _, by simp⟩
      have XC : VaOk w1 c none 0 0 [] := ⟨hc, rfl, Nat.le_refl _, by omega, As.nil _ _, by simp⟩
      have HB1 : Hid (Below Wb.heap.size Wb w1) := Lib.hid hE.bl
      have HK9 : Hid (∀ w', Below w1.heap.size w1 w' → w'.cell? ⟨w.heap.size, 0, none⟩ = some (.slice q m c') ∧ w'.cell? ⟨w.heap.size + 1, 0, none⟩ = some (.int .i64 b.k) ∧ w'.cell? ⟨w.heap.size + 1, 1, none⟩ = some (.int .i64 b.n) ∧ w'.cell? ⟨w.heap.size + 1, 2, none⟩ = some (.float .f64 b.f) ∧ w'.cell? ⟨w.heap.size + 1, 3, none⟩ = some (.string b.s) ∧ w'.cell? ⟨w.heap.size + 2, 0, none⟩ = some (.int .i64 c.k) ∧ w'.cell? ⟨w.heap.size + 2, 1, none⟩ = some (.int .i64 c.n) ∧ w'.cell? ⟨w.heap.size + 2, 2, none⟩ = some (.float .f64 c.f) ∧ w'.cell? ⟨w.heap.size + 2, 3, none⟩ = some (.string c.s)) := Lib.hid fun w' hb => HKS.out w' (HB1.out.trans (hb.mono HB1.out.size))
      have HK15 : Hid (∀ w', Below w1.heap.size w1 w' → w'.cell? ⟨g8, 0, none⟩ = some (.int .i64 6) ∧ w'.cell? ⟨g8, 1, none⟩ = some (.int .i64 0) ∧ w'.cell? ⟨g8, 2, none⟩ = some (.float .f64 0) ∧ w'.cell? ⟨g8, 3, none⟩ = some (.string ⟨#[]⟩) ∧ w'.cell? ⟨g8, 4, none⟩ = some (.slice p20 n20 d20) ∧ w'.cell? ⟨g9, 0, none⟩ = some (.int .i64 6) ∧ w'.cell? ⟨g9, 1, none⟩ = some (.int .i64 0) ∧ w'.cell? ⟨g9, 2, none⟩ = some (.float .f64 0) ∧ w'.cell? ⟨g9, 3, none⟩ = some (.string ⟨#[]⟩) ∧ w'.cell? ⟨g9, 4, none⟩ = some (.slice p24 n24 d24) ∧ w'.cell? ⟨g10, 0, none⟩ = some (.int .i64 6) ∧ w'.cell? ⟨g10, 1, none⟩ = some (.int .i64 0) ∧ w'.cell? ⟨g10, 2, none⟩ = some (.float .f64 0) ∧ w'.cell? ⟨g10, 3, none⟩ = some (.string ⟨#[]⟩) ∧ w'.cell? ⟨g10, 4, none⟩ = some (.slice p29 n29 d29)) := Lib.hid fun w' hb => by
        have f1 := (cell_at ((hb.block g8 (Array.getElem?_eq_some_iff.1 hE.h8).1).trans hE.h8))
        have f2 := (cell_at ((hb.block g9 (Array.getElem?_eq_some_iff.1 hE.h9).1).trans hE.h9))
        have f3 := (cell_at ((hb.block g10 (Array.getElem?_eq_some_iff.1 hE.h10).1).trans hE.h10))
        exact ⟨(f1 0).1, (f1 1).1, (f1 2).1, (f1 3).1, (f1 4).1, (f2 0).1, (f2 1).1, (f2 2).1, (f2 3).1, (f2 4).1, (f3 0).1, (f3 1).1, (f3 2).1, (f3 3).1, (f3 4).1⟩
      have RX : Hid (∀ w', Below w1.heap.size w1 w' → Calls Try.prog 21 #[.agg #[.int .i64 6, .int .i64 0, .float .f64 0, .string ⟨#[]⟩, .slice p20 n20 d20]] w' (fun e w'' => e = .returned (.bool (validV ⟨6, 0, 0, ⟨#[]⟩⟩ al)) ∧ Below w'.heap.size w' w'')) := Lib.hid fun w' hb => refValid_any (X20.below hb)
      have RY : Hid (∀ w', Below w1.heap.size w1 w' → Calls Try.prog 21 #[.agg #[.int .i64 6, .int .i64 0, .float .f64 0, .string ⟨#[]⟩, .slice p24 n24 d24]] w' (fun e w'' => e = .returned (.bool (validV ⟨6, 0, 0, ⟨#[]⟩⟩ (al ++ [b]))) ∧ Below w'.heap.size w' w'')) := Lib.hid fun w' hb => refValid_any (X24.below hb)
      have RZ : Hid (∀ w', Below w1.heap.size w1 w' → Calls Try.prog 21 #[.agg #[.int .i64 6, .int .i64 0, .float .f64 0, .string ⟨#[]⟩, .slice p29 n29 d29]] w' (fun e w'' => e = .returned (.bool (validV ⟨6, 0, 0, ⟨#[]⟩⟩ (al ++ [c, b]))) ∧ Below w'.heap.size w' w'')) := Lib.hid fun w' hb => refValid_any (X29.below hb)
      have CXY : Hid (∀ w', Below w1.heap.size w1 w' → Calls Try.prog 22 #[.agg #[.int .i64 6, .int .i64 0, .float .f64 0, .string ⟨#[]⟩, .slice p20 n20 d20], .agg #[.int .i64 6, .int .i64 0, .float .f64 0, .string ⟨#[]⟩, .slice p24 n24 d24]] w' (fun e w'' => e = .returned (.int .i64 (cmpV ⟨6, 0, 0, ⟨#[]⟩⟩ al ⟨6, 0, 0, ⟨#[]⟩⟩ (al ++ [b]))) ∧ Below w'.heap.size w' w'')) := Lib.hid fun w' hb => valueCompare_any (X20.below hb) (X24.below hb)
      have CXX : Hid (∀ w', Below w1.heap.size w1 w' → Calls Try.prog 22 #[.agg #[.int .i64 6, .int .i64 0, .float .f64 0, .string ⟨#[]⟩, .slice p20 n20 d20], .agg #[.int .i64 6, .int .i64 0, .float .f64 0, .string ⟨#[]⟩, .slice p20 n20 d20]] w' (fun e w'' => e = .returned (.int .i64 0) ∧ Below w'.heap.size w' w'')) := Lib.hid fun w' hb => by
        have h := valueCompare_any (X20.below hb) (X20.below hb)
        rw [cmpV_self X20] at h
        exact h
      have CYZ : Hid (∀ w', Below w1.heap.size w1 w' → Calls Try.prog 22 #[.agg #[.int .i64 6, .int .i64 0, .float .f64 0, .string ⟨#[]⟩, .slice p24 n24 d24], .agg #[.int .i64 6, .int .i64 0, .float .f64 0, .string ⟨#[]⟩, .slice p29 n29 d29]] w' (fun e w'' => e = .returned (.int .i64 (cmpV ⟨6, 0, 0, ⟨#[]⟩⟩ (al ++ [b]) ⟨6, 0, 0, ⟨#[]⟩⟩ (al ++ [c, b]))) ∧ Below w'.heap.size w' w'')) := Lib.hid fun w' hb => valueCompare_any (X24.below hb) (X29.below hb)
      have CBC : Hid (∀ w', Below w1.heap.size w1 w' → Calls Try.prog 22 #[.agg #[.int .i64 b.k, .int .i64 b.n, .float .f64 b.f, .string b.s, .slice none 0 0], .agg #[.int .i64 c.k, .int .i64 c.n, .float .f64 c.f, .string c.s, .slice none 0 0]] w' (fun e w'' => e = .returned (.int .i64 (cmpV b [] c [])) ∧ Below w'.heap.size w' w'')) := Lib.hid fun w' hb => valueCompare_any (k := b.k) (n := b.n) (f := b.f) (s := b.s) (k' := c.k) (n' := c.n) (g := c.f) (t := c.s) (XB.below hb) (XC.below hb)
      have O1 := Lib.hid (fun w => ofInt_any (w := w) 1)
      have O2 := Lib.hid (fun w => ofInt_any (w := w) 2)
      have K12 : ∀ w', Calls Try.prog 22 #[.agg #[.int .i64 2, .int .i64 1, .float .f64 0, .string ⟨#[]⟩, .slice none 0 0], .agg #[.int .i64 2, .int .i64 2, .float .f64 0, .string ⟨#[]⟩, .slice none 0 0]] w' fun e w'' => e = .returned (.int .i64 (-1)) ∧ Below w'.heap.size w' w'' := fun w' => by
        have h := valueCompare_any (vlInt w' 1 (by omega) (by omega)) (vlInt w' 2 (by omega) (by omega))
        rw [vlInts] at h
        exact h
      replace K12 := Lib.hid K12
      have HXY : Hid (validV ⟨6, 0, 0, ⟨#[]⟩⟩ al = true → validV ⟨6, 0, 0, ⟨#[]⟩⟩ (al ++ [b]) = true → cmpV ⟨6, 0, 0, ⟨#[]⟩⟩ al ⟨6, 0, 0, ⟨#[]⟩⟩ (al ++ [b]) = -1) := Lib.hid (vl_xy hok hb)
      have HYZ : Hid (validV ⟨6, 0, 0, ⟨#[]⟩⟩ (al ++ [b]) = true → validV ⟨6, 0, 0, ⟨#[]⟩⟩ (al ++ [c, b]) = true → cmpV ⟨6, 0, 0, ⟨#[]⟩⟩ (al ++ [b]) ⟨6, 0, 0, ⟨#[]⟩⟩ (al ++ [c, b]) = orI (cmpV b [] c []) (-1)) := Lib.hid (vl_yz hok hb hc)
      have HF : Hid (∀ w', Below w1.heap.size w1 w' → Below w.heap.size w w') := Lib.hid fun w' hb => (HWB.out.trans (HB1.out.mono HWB.out.size)).trans (hb.mono (by have := HWB.out.size; have := HB1.out.size; omega))
      have HAS1 : Hid (As w1 q al) := Lib.hid (HAS.out.below HB1.out)
      obtain ⟨vx, hvx⟩ : ∃ x, x = validV ⟨6, 0, 0, ⟨#[]⟩⟩ al := ⟨_, rfl⟩
      obtain ⟨vy, hvy⟩ : ∃ x, x = validV ⟨6, 0, 0, ⟨#[]⟩⟩ (al ++ [b]) := ⟨_, rfl⟩
      obtain ⟨vz, hvz⟩ : ∃ x, x = validV ⟨6, 0, 0, ⟨#[]⟩⟩ (al ++ [c, b]) := ⟨_, rfl⟩
      obtain ⟨kxy, hkxy⟩ : ∃ x, x = cmpV ⟨6, 0, 0, ⟨#[]⟩⟩ al ⟨6, 0, 0, ⟨#[]⟩⟩ (al ++ [b]) := ⟨_, rfl⟩
      obtain ⟨kyz, hkyz⟩ : ∃ x, x = cmpV ⟨6, 0, 0, ⟨#[]⟩⟩ (al ++ [b]) ⟨6, 0, 0, ⟨#[]⟩⟩ (al ++ [c, b]) := ⟨_, rfl⟩
      obtain ⟨kbc, hkbc⟩ : ∃ x, x = cmpV b [] c [] := ⟨_, rfl⟩
      rw [← hvx] at RX HXY
      rw [← hvy] at RY HXY HYZ
      rw [← hvz] at RZ HYZ
      rw [← hkxy] at CXY HXY
      rw [← hkyz] at CYZ HYZ
      rw [← hkbc] at CBC HYZ
      clear hvx hvy hvz hkxy hkyz hkbc X20 X24 X29 XB XC hE q20a q20b q20c q24a q24b q24c q29a q29b q29c
      replace hn20 := Lib.hid hn20
      replace hn24 := Lib.hid hn24
      replace hn29 := Lib.hid hn29
      replace hok := Lib.hid hok
      replace hb := Lib.hid hb
      replace hc := Lib.hid hc
      obtain ⟨e0, e1, e2, e3, e4, e5, e6, e7, e8⟩ := HK9.out _ (Below.refl _ _)
      try dsimp only
      simp only [Act.put, List.getElem_toArray, List.getElem_cons_zero, List.getElem_cons_succ, List.setIfInBounds_toArray, List.set_cons_zero, List.set_cons_succ]
      go_wp2_with fail
      go_loopw [11] (fun i wr => ∃ (j : Nat), i = .int .i64 j ∧ j ≤ m ∧ Below w1.heap.size w1 wr) (fun i _ => m - (intOf i).toNat)
      case atStart => exact ⟨0, rfl, by omega, Below.refl _ _⟩
      case round =>
        obtain ⟨j, rfl, hj, hbr⟩ := hrel
        have HBR := Lib.hid hbr
        clear hbr e0 e1 e2 e3 e4 e5 e6 e7 e8
        obtain ⟨e0, e1, e2, e3, e4, e5, e6, e7, e8⟩ := HK9.out _ HBR.out
        by_cases hlt : j < m
        · have hjl : j < al.length := by have := hn0.out; omega
          obtain ⟨a, ha⟩ : ∃ a, al[j]? = some a := ⟨_, List.getElem?_eq_getElem hjl⟩
          obtain ⟨b', o, rfl, hc⟩ := HAS1.out.at ha
          obtain ⟨c0, c1, c2, c3⟩ := hc.below HBR.out
          clear hc ha hjl
          go_wp2
          · go_ret
            exact ⟨rfl, HF.out _ HBR.out⟩
          · go_roundw
            case rel => exact ⟨j + 1, by go_num, by omega, HBR.out⟩
            case measure => simp [intOf]; omega
        · obtain ⟨u0, u1, u2, u3, u4, u5, u6, u7, u8, u9, u10, u11, u12, u13, u14⟩ := HK15.out _ HBR.out
          by_cases hbs : 256 < (b.s.size : Int)
          · go_wp2_with fail
            refine (O1.out _).mono ?_; rintro e w7 ⟨rfl, hb7⟩
            have HB7 : Hid (Below w1.heap.size w1 w7) := Lib.hid (HBR.out.trans (hb7.mono HBR.out.size))
            clear hb7
            go_wp2_with fail
            refine (O2.out _).mono ?_; rintro e w8 ⟨rfl, hb8⟩
            have HB8 : Hid (Below w1.heap.size w1 w8) := Lib.hid (HB7.out.trans (hb8.mono HB7.out.size))
            clear hb8
            go_wp2_with fail
            refine (K12.out _).mono ?_; rintro e w9 ⟨rfl, hb9⟩
            have HB9 : Hid (Below w1.heap.size w1 w9) := Lib.hid (HB8.out.trans (hb9.mono HB8.out.size))
            clear hb9
            go_wp2
            go_ret
            exact ⟨rfl, HF.out _ HB9.out⟩
          · by_cases hcs : 256 < (c.s.size : Int)
            · go_wp2_with fail
              refine (O1.out _).mono ?_; rintro e w7 ⟨rfl, hb7⟩
              have HB7 : Hid (Below w1.heap.size w1 w7) := Lib.hid (HBR.out.trans (hb7.mono HBR.out.size))
              clear hb7
              go_wp2_with fail
              refine (O2.out _).mono ?_; rintro e w8 ⟨rfl, hb8⟩
              have HB8 : Hid (Below w1.heap.size w1 w8) := Lib.hid (HB7.out.trans (hb8.mono HB7.out.size))
              clear hb8
              go_wp2_with fail
              refine (K12.out _).mono ?_; rintro e w9 ⟨rfl, hb9⟩
              have HB9 : Hid (Below w1.heap.size w1 w9) := Lib.hid (HB8.out.trans (hb9.mono HB8.out.size))
              clear hb9
              go_wp2
              go_ret
              exact ⟨rfl, HF.out _ HB9.out⟩
            · go_wp2_with fail
              refine (RX.out _ HBR.out).mono ?_; rintro e w2 ⟨rfl, hb2⟩
              have HB2 : Hid (Below w1.heap.size w1 w2) := Lib.hid (HBR.out.trans (hb2.mono HBR.out.size))
              clear hb2
              clear e0 e1 e2 e3 e4 e5 e6 e7 e8 u0 u1 u2 u3 u4 u5 u6 u7 u8 u9 u10 u11 u12 u13 u14
              obtain ⟨e0, e1, e2, e3, e4, e5, e6, e7, e8⟩ := HK9.out _ HB2.out
              obtain ⟨u0, u1, u2, u3, u4, u5, u6, u7, u8, u9, u10, u11, u12, u13, u14⟩ := HK15.out _ HB2.out
              cases vx
              · go_wp2_with fail
                refine (O1.out _).mono ?_; rintro e w7 ⟨rfl, hb7⟩
                have HB7 : Hid (Below w1.heap.size w1 w7) := Lib.hid (HB2.out.trans (hb7.mono HB2.out.size))
                clear hb7
                go_wp2_with fail
                refine (O2.out _).mono ?_; rintro e w8 ⟨rfl, hb8⟩
                have HB8 : Hid (Below w1.heap.size w1 w8) := Lib.hid (HB7.out.trans (hb8.mono HB7.out.size))
                clear hb8
                go_wp2_with fail
                refine (K12.out _).mono ?_; rintro e w9 ⟨rfl, hb9⟩
                have HB9 : Hid (Below w1.heap.size w1 w9) := Lib.hid (HB8.out.trans (hb9.mono HB8.out.size))
                clear hb9
                go_wp2
                go_ret
                exact ⟨rfl, HF.out _ HB9.out⟩
              · go_wp2_with fail
                refine (RY.out _ HB2.out).mono ?_; rintro e w3 ⟨rfl, hb3⟩
                have HB3 : Hid (Below w1.heap.size w1 w3) := Lib.hid (HB2.out.trans (hb3.mono HB2.out.size))
                clear hb3
                clear e0 e1 e2 e3 e4 e5 e6 e7 e8 u0 u1 u2 u3 u4 u5 u6 u7 u8 u9 u10 u11 u12 u13 u14
                obtain ⟨e0, e1, e2, e3, e4, e5, e6, e7, e8⟩ := HK9.out _ HB3.out
                obtain ⟨u0, u1, u2, u3, u4, u5, u6, u7, u8, u9, u10, u11, u12, u13, u14⟩ := HK15.out _ HB3.out
                cases vy
                · go_wp2_with fail
                  refine (O1.out _).mono ?_; rintro e w7 ⟨rfl, hb7⟩
                  have HB7 : Hid (Below w1.heap.size w1 w7) := Lib.hid (HB3.out.trans (hb7.mono HB3.out.size))
                  clear hb7
                  go_wp2_with fail
                  refine (O2.out _).mono ?_; rintro e w8 ⟨rfl, hb8⟩
                  have HB8 : Hid (Below w1.heap.size w1 w8) := Lib.hid (HB7.out.trans (hb8.mono HB7.out.size))
                  clear hb8
                  go_wp2_with fail
                  refine (K12.out _).mono ?_; rintro e w9 ⟨rfl, hb9⟩
                  have HB9 : Hid (Below w1.heap.size w1 w9) := Lib.hid (HB8.out.trans (hb9.mono HB8.out.size))
                  clear hb9
                  go_wp2
                  go_ret
                  exact ⟨rfl, HF.out _ HB9.out⟩
                · go_wp2_with fail
                  refine (RZ.out _ HB3.out).mono ?_; rintro e w4 ⟨rfl, hb4⟩
                  have HB4 : Hid (Below w1.heap.size w1 w4) := Lib.hid (HB3.out.trans (hb4.mono HB3.out.size))
                  clear hb4
                  clear e0 e1 e2 e3 e4 e5 e6 e7 e8 u0 u1 u2 u3 u4 u5 u6 u7 u8 u9 u10 u11 u12 u13 u14
                  obtain ⟨e0, e1, e2, e3, e4, e5, e6, e7, e8⟩ := HK9.out _ HB4.out
                  obtain ⟨u0, u1, u2, u3, u4, u5, u6, u7, u8, u9, u10, u11, u12, u13, u14⟩ := HK15.out _ HB4.out
                  cases vz
                  · go_wp2_with fail
                    refine (O1.out _).mono ?_; rintro e w7 ⟨rfl, hb7⟩
                    have HB7 : Hid (Below w1.heap.size w1 w7) := Lib.hid (HB4.out.trans (hb7.mono HB4.out.size))
                    clear hb7
                    go_wp2_with fail
                    refine (O2.out _).mono ?_; rintro e w8 ⟨rfl, hb8⟩
                    have HB8 : Hid (Below w1.heap.size w1 w8) := Lib.hid (HB7.out.trans (hb8.mono HB7.out.size))
                    clear hb8
                    go_wp2_with fail
                    refine (K12.out _).mono ?_; rintro e w9 ⟨rfl, hb9⟩
                    have HB9 : Hid (Below w1.heap.size w1 w9) := Lib.hid (HB8.out.trans (hb9.mono HB8.out.size))
                    clear hb9
                    go_wp2
                    go_ret
                    exact ⟨rfl, HF.out _ HB9.out⟩
                  · obtain rfl := HXY.out (by first | exact rfl | trivial) (by first | exact rfl | trivial)
                    obtain rfl := HYZ.out (by first | exact rfl | trivial) (by first | exact rfl | trivial)
                    go_wp2_with fail
                    refine (CBC.out _ HB4.out).mono ?_; rintro e w5 ⟨rfl, hb5⟩
                    have HB5 : Hid (Below w1.heap.size w1 w5) := Lib.hid (HB4.out.trans (hb5.mono HB4.out.size))
                    clear hb5
                    clear e0 e1 e2 e3 e4 e5 e6 e7 e8 u0 u1 u2 u3 u4 u5 u6 u7 u8 u9 u10 u11 u12 u13 u14
                    obtain ⟨e0, e1, e2, e3, e4, e5, e6, e7, e8⟩ := HK9.out _ HB5.out
                    obtain ⟨u0, u1, u2, u3, u4, u5, u6, u7, u8, u9, u10, u11, u12, u13, u14⟩ := HK15.out _ HB5.out
                    by_cases hk : kbc = 0
                    · subst hk
                      rw [show orI 0 (-1) = -1 from rfl] at CYZ
                      go_wp2_with fail
                      refine (CXY.out _ HB5.out).mono ?_; rintro e w6 ⟨rfl, hb6⟩
                      have HB6 : Hid (Below w1.heap.size w1 w6) := Lib.hid (HB5.out.trans (hb6.mono HB5.out.size))
                      clear hb6
                      clear e0 e1 e2 e3 e4 e5 e6 e7 e8 u0 u1 u2 u3 u4 u5 u6 u7 u8 u9 u10 u11 u12 u13 u14
                      obtain ⟨e0, e1, e2, e3, e4, e5, e6, e7, e8⟩ := HK9.out _ HB6.out
                      obtain ⟨u0, u1, u2, u3, u4, u5, u6, u7, u8, u9, u10, u11, u12, u13, u14⟩ := HK15.out _ HB6.out
                      go_wp2_with fail
                      refine (CXX.out _ HB6.out).mono ?_; rintro e w7 ⟨rfl, hb7⟩
                      have HB7 : Hid (Below w1.heap.size w1 w7) := Lib.hid (HB6.out.trans (hb7.mono HB6.out.size))
                      clear hb7
                      clear e0 e1 e2 e3 e4 e5 e6 e7 e8 u0 u1 u2 u3 u4 u5 u6 u7 u8 u9 u10 u11 u12 u13 u14
                      obtain ⟨e0, e1, e2, e3, e4, e5, e6, e7, e8⟩ := HK9.out _ HB7.out
                      obtain ⟨u0, u1, u2, u3, u4, u5, u6, u7, u8, u9, u10, u11, u12, u13, u14⟩ := HK15.out _ HB7.out
                      go_wp2_with fail
                      refine (CYZ.out _ HB7.out).mono ?_; rintro e w8 ⟨rfl, hb8⟩
                      have HB8 : Hid (Below w1.heap.size w1 w8) := Lib.hid (HB7.out.trans (hb8.mono HB7.out.size))
                      clear hb8
                      go_wp2
                      go_ret
                      exact ⟨rfl, HF.out _ HB8.out⟩
                    · rw [orI_ne hk] at CYZ
                      go_wp2_with fail
                      refine (CXY.out _ HB5.out).mono ?_; rintro e w6 ⟨rfl, hb6⟩
                      have HB6 : Hid (Below w1.heap.size w1 w6) := Lib.hid (HB5.out.trans (hb6.mono HB5.out.size))
                      clear hb6
                      clear e0 e1 e2 e3 e4 e5 e6 e7 e8 u0 u1 u2 u3 u4 u5 u6 u7 u8 u9 u10 u11 u12 u13 u14
                      obtain ⟨e0, e1, e2, e3, e4, e5, e6, e7, e8⟩ := HK9.out _ HB6.out
                      obtain ⟨u0, u1, u2, u3, u4, u5, u6, u7, u8, u9, u10, u11, u12, u13, u14⟩ := HK15.out _ HB6.out
                      go_wp2_with fail
                      refine (CXX.out _ HB6.out).mono ?_; rintro e w7 ⟨rfl, hb7⟩
                      have HB7 : Hid (Below w1.heap.size w1 w7) := Lib.hid (HB6.out.trans (hb7.mono HB6.out.size))
                      clear hb7
                      clear e0 e1 e2 e3 e4 e5 e6 e7 e8 u0 u1 u2 u3 u4 u5 u6 u7 u8 u9 u10 u11 u12 u13 u14
                      obtain ⟨e0, e1, e2, e3, e4, e5, e6, e7, e8⟩ := HK9.out _ HB7.out
                      obtain ⟨u0, u1, u2, u3, u4, u5, u6, u7, u8, u9, u10, u11, u12, u13, u14⟩ := HK15.out _ HB7.out
                      go_wp2_with fail
                      refine (CYZ.out _ HB7.out).mono ?_; rintro e w8 ⟨rfl, hb8⟩
                      have HB8 : Hid (Below w1.heap.size w1 w8) := Lib.hid (HB7.out.trans (hb8.mono HB7.out.size))
                      clear hb8
                      go_wp2
                      go_ret
                      exact ⟨rfl, HF.out _ HB8.out⟩

end Go.Proofs.Ytekaedafhiddeaa
