/-
  cobweblaw10.found: what is found behind a crash.
-/
import Derived.Test.YtmlnpgbnbchbkaaDoorH27
import Derived.Test.YtmlnpgbnbchbkaaDoorH28
import Derived.Deep.RegionWith
set_option linter.unusedVariables false
set_option maxRecDepth 100000
namespace Go.Proofs.YtmlnpgbnbchbkaaDoor
open Go.RowKit

/-- A disk that has a Meta, and these pages. -/
structure FoundOn (C : SD) (g r n d : Nat) (ps : List Page) : Prop where
  left : C.left = -1
  ops : C.ops = 0
  size : 4 ≤ C.size ∧ C.size ≤ 4096
  right : MRight g r n d
  rs : (r : Int) < C.size
  m1 : C.read ((g % 2 : Nat) : Int) = mPage g r n d
  m2 : mG (C.read (((g + 1) % 2 : Nat) : Int)) (((g + 1) % 2 : Nat) : Int) < g
  nd : (pnos ps).Nodup
  pg : ∀ x ∈ ps, 2 ≤ x.no ∧ (x.no : Int) < C.size ∧ x.b.length ≤ 493 ∧ ∃ gen, gen ≤ 1152921504606846976 ∧ C.read x.no = pageB 5 x.no gen x.b

/-- The pager behind Keep. -/
noncomputable def foundX (C : SD) (g r n d : Nat) (ps : List Page) : PG := { PG.new (openS C g) g r n d with kept := true, F := (PG.new (openS C g) g r n d).F.takes (pnos ps) }
theorem mem_pnos {ps : List Page} {k : Int} : k ∈ pnos ps ↔ ∃ x ∈ ps, (x.no : Int) = k := by simp [pnos]
theorem FoundOn.free {C : SD} {g r n d : Nat} {ps : List Page} (h : FoundOn C g r n d ps) : ∀ k ∈ pnos ps, (PG.new (openS C g) g r n d).F.st k = 1 := by
  intro k hk
  obtain ⟨x, hx, rfl⟩ := mem_pnos.1 hk
  obtain ⟨h1, h2, _⟩ := h.pg x hx
  show (FL.new 2 (openS C g).size).st _ = 1
  have hh : (FL.new 2 (openS C g).size).has (x.no : Int) = true := FL.has_iff.2 ⟨show (2 : Int) ≤ _ by omega, show (x.no : Int) < (openS C g).size by rw [openS_size]; exact h2⟩
  unfold FL.st
  rw [if_pos hh]
  rfl
theorem FoundOn.pages {C : SD} {g r n d : Nat} {ps : List Page} (h : FoundOn C g r n d ps) : PagesIn (foundX C g r n d ps) ps := by
  intro x hx
  obtain ⟨h1, h2, h3, gen, h4, h5⟩ := h.pg x hx
  have hm : (x.no : Int) ∈ pnos ps := mem_pnos.2 ⟨x, hx, rfl⟩
  refine ⟨by show (x.no : Int) < (openS C g).size; rw [openS_size]; exact h2, h3, gen, h4, ?_, ?_⟩
  · show (openS C g).read _ = _
    rw [openS_read C g (by omega)]
    exact h5
  · have hu := (FL.takes_used (PG.new (openS C g) g r n d).F (pnos ps) (x.no : Int))
    have : (foundX C g r n d ps).F.st (x.no : Int) = 2 := FL.st_two.2 ⟨FL.has_iff.2 ?_, ?_⟩
    · rw [this]; decide
    · show ((PG.new (openS C g) g r n d).F.takes (pnos ps)).lo ≤ _ ∧ _ < ((PG.new (openS C g) g r n d).F.takes (pnos ps)).hi
      rw [hu.2.2.1, hu.2.2.2]
      exact ⟨show (2 : Int) ≤ _ by omega, show (x.no : Int) < (openS C g).size by rw [openS_size]; exact h2⟩
    · show ((PG.new (openS C g) g r n d).F.takes (pnos ps)).used _ = true
      rw [hu.1]
      simp [hm]
theorem FoundOn.used {C : SD} {g r n d : Nat} {ps : List Page} (h : FoundOn C g r n d ps) (hF : (foundX C g r n d ps).F.Ok) : (foundX C g r n d ps).F.nUsed = ps.length := by
  rw [hF.used_len h.nd fun k => ?_]
  · simp [pnos]
  · have hu := (FL.takes_used (PG.new (openS C g) g r n d).F (pnos ps) k).1
    show _ ↔ ((PG.new (openS C g) g r n d).F.takes (pnos ps)).used k = true
    rw [hu]
    show _ ↔ (false || (pnos ps).contains k) = true
    simp

set_option maxHeartbeats 6400000 in
theorem found_any {w : World} (hT : Tab w) {B pd lm fm : Nat} {S : SD} (hD : DiskAt w B pd lm fm S) {kq : Option Addr} {kn kc : Nat} {keep : List Int} (hk : Ks w kq keep) (hkn : kn = keep.length) (hkm : kn ≤ 9223372036854775807)
    {g r n d : Nat} {ps : List Page} (hf : FoundOn (S.crash keep) g r n d ps) {C : Nat} {q1 q2 : Option Addr} {n1 c1 n2 c2 : Nat} (h1 : Lie C w (.slice q1 n1 c1) (pnos ps)) (h2 : LieS C w (.slice q2 n2 c2) (pstr ps)) (rt : Int) :
    Calls Tryd.prog 11 #[.pointer (some ⟨pd, 0, none⟩), .slice kq kn kc, .agg #[.slice q1 n1 c1, .slice q2 n2 c2, .int .i64 rt]] w fun e w' => e = .returned (.bool (decide ((r : Int) = rt))) ∧ Below w.heap.size w w' := by
  obtain ⟨W, hW⟩ : ∃ W, W = w.alloc (.cells #[.slice q1 n1 c1, .slice q2 n2 c2, .int .i64 rt] 35) := ⟨_, rfl⟩
  have hb : Below w.heap.size w W := by rw [hW]; exact sbox1 w _
  have hx : W.heap[w.heap.size]? = some (.cells #[.slice q1 n1 c1, .slice q2 n2 c2, .int .i64 rt] 35 (0, 0)) := by rw [hW]; exact heap_alloc_new w _
  have HBX : Hid (∀ w', Below W.heap.size W w' → w'.cell? ⟨w.heap.size, 0, none⟩ = some (.slice q1 n1 c1) ∧ w'.cell? ⟨w.heap.size, 1, none⟩ = some (.slice q2 n2 c2) ∧ w'.cell? ⟨w.heap.size, 2, none⟩ = some (.int .i64 rt)) := Lib.hid fun w' hb' => by
    have hx' : w'.heap[w.heap.size]? = _ := (hb'.block _ (Array.getElem?_eq_some_iff.1 hx).1).trans hx
    exact ⟨(Joins.cell_of_block hx' 0).trans rfl, (Joins.cell_of_block hx' 1).trans rfl, (Joins.cell_of_block hx' 2).trans rfl⟩
  have HB := Lib.hid hb
  have HN1 : Hid (n1 = ps.length) := Lib.hid (by obtain ⟨_, _, hv, _⟩ := h1; cases hv; simp [pnos])
  have HM1 : Hid (n1 ≤ 9223372036854775807) := Lib.hid (by
    obtain ⟨_, _, hv, hc, hm, _⟩ := h1
    cases hv
    omega)
  have hm1 := HM1.out
  have HTW := Lib.hid (hT.below hT.lt hb)
  have HF := Lib.hid hf
  have HL1 := Lib.hid (h1.stay (Stay.below hb))
  have HL2 := Lib.hid (h2.stay (Stay.below hb))
  have HCR := Lib.hid (crash_any (hD.below hb) (kc := kc) (hk.below hb) hkn hkm)
  obtain ⟨bb, hbb⟩ : ∃ bb : Bool, decide ((r : Int) = rt) = bb := ⟨_, rfl⟩
  rw [hbb]
  have hbe : ((r : Int) == rt) = bb := by rw [← hbb]; rfl
  clear hD hk hkn hkm hf h1 h2 hT hx hb hbb
  go_enter Tryd.func11, Tryd.ntmps11
  go_wp2_with fail
  rw [← hW]
  clear hW
  refine HCR.out.mono ?_; rintro e w1 ⟨p1, lm1, fm1, rfl, hd1, hb1⟩
  have HB1 := Lib.hid hb1
  have HOP := Lib.hid (grOpen_meta (HTW.out.below HTW.out.lt hb1) hd1 hb1.size HF.out.left (by rw [HF.out.ops]; decide) (by have := HF.out.size; omega) HF.out.right HF.out.rs HF.out.m1 HF.out.m2)
  clear hd1 hb1
  go_wp2_with fail
  refine HOP.out.mono ?_; rintro e w2 ⟨P, rfl, hs2⟩
  have HB2 : Hid (Below W.heap.size W w2) := Lib.hid (HB1.out.trans hs2.below)
  obtain ⟨lm2, fm2, pl, um, wm, la, v, hg2⟩ := hs2.at_
  have HG2 := Lib.hid hg2
  have HBD := Lib.hid (HB2.out.trans ((Below.drew (Below.refl w2.heap.size w2)).mono HB2.out.size))
  have HGD := Lib.hid (hg2.below (Below.drew (Below.refl _ _)))
  have HME : Hid (Calls Tryd.prog 15 #[.pointer (some ⟨P, 0, none⟩)] w2.drew fun e w' => e = .returned (.agg #[.int .i64 g, .int .i64 r, .int .i64 n, .int .i64 d]) ∧ Below w2.drew.heap.size w2.drew w') := Lib.hid (grMeta HGD.out)
  have HKP : Hid (∀ w3, Below w2.drew.heap.size w2.drew w3 → Calls Tryd.prog 7 #[.pointer (some ⟨P, 0, none⟩), .slice q1 n1 c1] w3 fun e w' => e = .returned (.int .i64 0) ∧ GrStep w3 w' W.heap.size P p1 (foundX (S.crash keep) g r n d ps)) := Lib.hid fun w3 hb3 => by
    have hL := (HL1.out.stay (B := C) (Stay.below HBD.out)).stay (Stay.below (B := C) hb3)
    exact grKeep (HGD.out.below hb3) rfl rfl hL.gks (by obtain ⟨_, _, hv, _⟩ := hL; cases hv; rfl) hm1 HF.out.nd HF.out.free
  have HHOG : Hid (∀ w4 lm fm pl um wm la v, Below W.heap.size W w4 → GrIs w4 W.heap.size P p1 lm fm pl um wm la v (foundX (S.crash keep) g r n d ps) → Calls Tryd.prog 18 #[.pointer (some ⟨P, 0, none⟩), .agg #[.slice q1 n1 c1, .slice q2 n2 c2, .int .i64 rt]] w4 fun e w' => e = .returned (.bool true) ∧ Below w4.heap.size w4 w') := Lib.hid fun w4 lm fm pl um wm la v hb4 hg4 =>
    holds_any (HTW.out.below HTW.out.lt hb4) hg4 HF.out.pages (HL1.out.stay (Stay.below hb4)) (HL2.out.stay (Stay.below hb4)) rt
  have HUSH : Hid (∀ w4 lm fm pl um wm la v, GrIs w4 W.heap.size P p1 lm fm pl um wm la v (foundX (S.crash keep) g r n d ps) → ∀ w5, Below w4.heap.size w4 w5 → Calls Tryd.prog 20 #[.pointer (some ⟨P, 0, none⟩)] w5 fun e w' => e = .returned (.int .i64 (n1 : Int)) ∧ w5 = w') := Lib.hid fun w4 lm fm pl um wm la v hg4 w5 hb5 => by
    have h := grUsed (hg4.below hb5)
    rw [HF.out.used hg4.list.ok, ← HN1.out] at h
    exact h
  obtain ⟨x0, x1, x2⟩ := HBX.out _ HBD.out
  have hmr := meta_root
  clear hs2 hg2
  cases bb
  · go_wp2_with fail
    clear x0 x1 x2
    refine wp_region_held_drew (S := fun w' => w'.cell? ⟨w.heap.size, 0, none⟩ = some (.slice q1 n1 c1) ∧ w'.cell? ⟨w.heap.size, 1, none⟩ = some (.slice q2 n2 c2) ∧ w'.cell? ⟨w.heap.size, 2, none⟩ = some (.int .i64 rt)) (by kernel_rfl) (HBX.out _ HBD.out) (fun hHeld => ?_)
    refine wpAnyH_take (i := 0) (v := ?_) rfl (by kernel_rfl) (by kernel_rfl) (by kernel_rfl) (fun _ _ _ h => h) (Or.inl ⟨by rfl, ?_⟩) (by assumption) ?_
    rotate_left
    · intro w hSw; (try dsimp only at hSw); go_simp; try with_reducible rfl
    simp only [Act.put, List.getElem_toArray, List.getElem_cons_zero, List.setIfInBounds_toArray, List.set_cons_zero, List.set_cons_succ]
    refine wpAnyH_take (i := 1) (v := ?_) rfl (by kernel_rfl) (by kernel_rfl) (by kernel_rfl) (fun _ _ _ h => h) (Or.inl ⟨by rfl, ?_⟩) (by assumption) ?_
    rotate_left
    · intro w hSw; (try dsimp only at hSw); go_simp; try with_reducible rfl
    simp only [Act.put, List.getElem_toArray, List.getElem_cons_zero, List.getElem_cons_succ, List.setIfInBounds_toArray, List.set_cons_zero, List.set_cons_succ]
    refine wpAnyH_take (i := 2) (v := ?_) rfl (by kernel_rfl) (by kernel_rfl) (by kernel_rfl) (fun _ _ _ h => h) (Or.inl ⟨by rfl, ?_⟩) (by assumption) ?_
    rotate_left
    · intro w hSw; (try dsimp only at hSw); go_simp; try with_reducible rfl
    simp only [Act.put, List.getElem_toArray, List.getElem_cons_zero, List.getElem_cons_succ, List.setIfInBounds_toArray, List.set_cons_zero, List.set_cons_succ]
    refine wpAnyH_take (i := 3) (v := ?_) rfl (by kernel_rfl) (by kernel_rfl) (by kernel_rfl) (fun _ _ _ h => h) (Or.inl ⟨by rfl, ?_⟩) (by assumption) ?_
    rotate_left
    · intro w hSw; (try dsimp only at hSw); go_simp; try with_reducible rfl
    simp only [Act.put, List.getElem_toArray, List.getElem_cons_zero, List.getElem_cons_succ, List.setIfInBounds_toArray, List.set_cons_zero, List.set_cons_succ]
    refine wpAnyH_take (i := 4) (v := ?_) rfl (by kernel_rfl) (by kernel_rfl) (by kernel_rfl) (fun _ _ _ h => h) (Or.inl ⟨by rfl, ?_⟩) (by assumption) ?_
    rotate_left
    · intro w hSw; (try dsimp only at hSw); go_simp; try with_reducible rfl
    simp only [Act.put, List.getElem_toArray, List.getElem_cons_zero, List.getElem_cons_succ, List.setIfInBounds_toArray, List.set_cons_zero, List.set_cons_succ]
    refine wpAnyH_take (i := 5) (v := ?_) rfl (by kernel_rfl) (by kernel_rfl) (by kernel_rfl) (fun _ _ _ h => h) (Or.inl ⟨by rfl, ?_⟩) (by assumption) ?_
    rotate_left
    · intro w hSw; (try dsimp only at hSw); go_simp; try with_reducible rfl
    simp only [Act.put, List.getElem_toArray, List.getElem_cons_zero, List.getElem_cons_succ, List.setIfInBounds_toArray, List.set_cons_zero, List.set_cons_succ]
    refine wpAnyH_take (i := 6) (v := ?_) rfl (by kernel_rfl) (by kernel_rfl) (by kernel_rfl) (fun _ _ _ h => h) (Or.inl ⟨by rfl, ?_⟩) (by assumption) ?_
    rotate_left
    · intro w hSw; (try dsimp only at hSw); go_simp; try with_reducible rfl
    simp only [Act.put, List.getElem_toArray, List.getElem_cons_zero, List.getElem_cons_succ, List.setIfInBounds_toArray, List.set_cons_zero, List.set_cons_succ]
    refine wpAnyH_take (i := 7) (v := ?_) rfl (by kernel_rfl) (by kernel_rfl) (by kernel_rfl) (fun _ _ _ h => h) (Or.inl ⟨by rfl, ?_⟩) (by assumption) ?_
    rotate_left
    · intro w hSw; (try dsimp only at hSw); go_simp; try with_reducible rfl
    simp only [Act.put, List.getElem_toArray, List.getElem_cons_zero, List.getElem_cons_succ, List.setIfInBounds_toArray, List.set_cons_zero, List.set_cons_succ]
    refine wpAnyH_take (i := 10) (v := ?_) rfl (by kernel_rfl) (by kernel_rfl) (by kernel_rfl) (fun _ _ _ h => h) (Or.inl ⟨by rfl, ?_⟩) (by assumption) ?_
    rotate_left
    · intro w hSw; (try dsimp only at hSw); go_simp; try with_reducible rfl
    simp only [Act.put, List.getElem_toArray, List.getElem_cons_zero, List.getElem_cons_succ, List.setIfInBounds_toArray, List.set_cons_zero, List.set_cons_succ]
    refine wpAnyH_take (i := 11) (v := ?_) rfl (by kernel_rfl) (by kernel_rfl) (by kernel_rfl) (fun _ _ _ h => h) (Or.inl ⟨by rfl, ?_⟩) (by assumption) ?_
    rotate_left
    · intro w hSw; (try dsimp only at hSw); go_simp; try with_reducible rfl
    simp only [Act.put, List.getElem_toArray, List.getElem_cons_zero, List.getElem_cons_succ, List.setIfInBounds_toArray, List.set_cons_zero, List.set_cons_succ]
    refine wpAnyH_ready (rs := [8]) (by kernel_rfl) (by simp) ?_
    refine AllReadyH.cons rfl (fun K hK => ?_) AllReadyH.nil
    go_simp
    (with_reducible refine HME.out.mono ?_); rintro e w3 ⟨rfl, hb3⟩
    have HB3' := Lib.hid (HBD.out.trans (hb3.mono HBD.out.size))
    clear hb3
    dsimp only
    refine hK.out _ _ (HBX.out _ HB3'.out) (fun hHeld => ?_)
    clear hK K
    try simp only [Act.put, List.getElem_toArray, List.getElem_cons_zero, List.getElem_cons_succ, List.setIfInBounds_toArray, List.set_cons_zero, List.set_cons_succ]
    refine wpAnyH_take (i := 9) (v := ?_) rfl (by kernel_rfl) (by kernel_rfl) (by kernel_rfl) (fun _ _ _ h => h) (Or.inl ⟨by rfl, ?_⟩) (by assumption) ?_
    rotate_left
    · intro w hSw; (try dsimp only at hSw); go_simp; try with_reducible rfl
    simp only [Act.put, List.getElem_toArray, List.getElem_cons_zero, List.getElem_cons_succ, List.setIfInBounds_toArray, List.set_cons_zero, List.set_cons_succ]
    refine wpAnyH_take (i := 12) (v := ?_) rfl (by kernel_rfl) (by kernel_rfl) (by kernel_rfl) (fun _ _ _ h => h) (Or.inl ⟨by rfl, ?_⟩) (by assumption) ?_
    rotate_left
    · intro w hSw; (try dsimp only at hSw); go_simp; try with_reducible rfl
    simp only [Act.put, List.getElem_toArray, List.getElem_cons_zero, List.getElem_cons_succ, List.setIfInBounds_toArray, List.set_cons_zero, List.set_cons_succ]
    refine wpAnyH_take (i := 13) (v := ?_) rfl (by kernel_rfl) (by kernel_rfl) (by kernel_rfl) (fun _ _ _ h => h) (Or.inl ⟨by rfl, ?_⟩) (by assumption) ?_
    rotate_left
    · intro w hSw; (try dsimp only at hSw); go_simp; try with_reducible rfl
    simp only [Act.put, List.getElem_toArray, List.getElem_cons_zero, List.getElem_cons_succ, List.setIfInBounds_toArray, List.set_cons_zero, List.set_cons_succ]
    refine wpAnyH_take (i := 14) (v := ?_) rfl (by kernel_rfl) (by kernel_rfl) (by kernel_rfl) (fun _ _ _ h => h) (Or.inl ⟨by rfl, ?_⟩) (by assumption) ?_
    rotate_left
    · intro w hSw; (try dsimp only at hSw); go_simp; try with_reducible rfl
    simp only [Act.put, List.getElem_toArray, List.getElem_cons_zero, List.getElem_cons_succ, List.setIfInBounds_toArray, List.set_cons_zero, List.set_cons_succ]
    refine wpAnyH_take (i := 15) (v := undef) rfl (by kernel_rfl) (by kernel_rfl) (by kernel_rfl) (fun _ _ _ h => h) (Or.inr ⟨by rfl, rfl⟩) (by assumption) ?_
    simp only [Act.put, List.getElem_toArray, List.getElem_cons_zero, List.getElem_cons_succ, List.setIfInBounds_toArray, List.set_cons_zero, List.set_cons_succ]
    refine wpAnyH_take (i := 16) (v := undef) rfl (by kernel_rfl) (by kernel_rfl) (by kernel_rfl) (fun _ _ _ h => h) (Or.inr ⟨by rfl, rfl⟩) (by assumption) ?_
    simp only [Act.put, List.getElem_toArray, List.getElem_cons_zero, List.getElem_cons_succ, List.setIfInBounds_toArray, List.set_cons_zero, List.set_cons_succ]
    refine wpAnyH_take (i := 17) (v := undef) rfl (by kernel_rfl) (by kernel_rfl) (by kernel_rfl) (fun _ _ _ h => h) (Or.inr ⟨by rfl, rfl⟩) (by assumption) ?_
    simp only [Act.put, List.getElem_toArray, List.getElem_cons_zero, List.getElem_cons_succ, List.setIfInBounds_toArray, List.set_cons_zero, List.set_cons_succ]
    refine wpAnyH_take (i := 18) (v := undef) rfl (by kernel_rfl) (by kernel_rfl) (by kernel_rfl) (fun _ _ _ h => h) (Or.inr ⟨by rfl, rfl⟩) (by assumption) ?_
    simp only [Act.put, List.getElem_toArray, List.getElem_cons_zero, List.getElem_cons_succ, List.setIfInBounds_toArray, List.set_cons_zero, List.set_cons_succ]
    refine wpAnyH_take (i := 19) (v := undef) rfl (by kernel_rfl) (by kernel_rfl) (by kernel_rfl) (fun _ _ _ h => h) (Or.inr ⟨by rfl, rfl⟩) (by assumption) ?_
    simp only [Act.put, List.getElem_toArray, List.getElem_cons_zero, List.getElem_cons_succ, List.setIfInBounds_toArray, List.set_cons_zero, List.set_cons_succ]
    refine wpAnyH_take (i := 20) (v := ?_) rfl (by kernel_rfl) (by kernel_rfl) (by kernel_rfl) (fun _ _ _ h => h) (Or.inl ⟨by rfl, ?_⟩) (by assumption) ?_
    rotate_left
    · intro w hSw; (try dsimp only at hSw); go_simp; try with_reducible rfl
    simp only [Act.put, List.getElem_toArray, List.getElem_cons_zero, List.getElem_cons_succ, List.setIfInBounds_toArray, List.set_cons_zero, List.set_cons_succ]
    refine wpAnyH_take (i := 21) (v := ?_) rfl (by kernel_rfl) (by kernel_rfl) (by kernel_rfl) (fun _ _ _ h => h) (Or.inl ⟨by rfl, ?_⟩) (by assumption) ?_
    rotate_left
    · intro w hSw; (try dsimp only at hSw); go_simp; try with_reducible rfl
    simp only [Act.put, List.getElem_toArray, List.getElem_cons_zero, List.getElem_cons_succ, List.setIfInBounds_toArray, List.set_cons_zero, List.set_cons_succ]
    refine wpAnyH_take (i := 22) (v := undef) rfl (by kernel_rfl) (by kernel_rfl) (by kernel_rfl) (fun _ _ _ h => h) (Or.inr ⟨by rfl, rfl⟩) (by assumption) ?_
    simp only [Act.put, List.getElem_toArray, List.getElem_cons_zero, List.getElem_cons_succ, List.setIfInBounds_toArray, List.set_cons_zero, List.set_cons_succ]
    refine wpAnyH_take (i := 23) (v := undef) rfl (by kernel_rfl) (by kernel_rfl) (by kernel_rfl) (fun _ _ _ h => h) (Or.inr ⟨by rfl, rfl⟩) (by assumption) ?_
    simp only [Act.put, List.getElem_toArray, List.getElem_cons_zero, List.getElem_cons_succ, List.setIfInBounds_toArray, List.set_cons_zero, List.set_cons_succ]
    refine wpAnyH_take (i := 24) (v := undef) rfl (by kernel_rfl) (by kernel_rfl) (by kernel_rfl) (fun _ _ _ h => h) (Or.inr ⟨by rfl, rfl⟩) (by assumption) ?_
    simp only [Act.put, List.getElem_toArray, List.getElem_cons_zero, List.getElem_cons_succ, List.setIfInBounds_toArray, List.set_cons_zero, List.set_cons_succ]
    refine wpAnyH_take (i := 25) (v := ?_) rfl (by kernel_rfl) (by kernel_rfl) (by kernel_rfl) (fun _ _ _ h => h) (Or.inl ⟨by rfl, ?_⟩) (by assumption) ?_
    rotate_left
    · intro w hSw; (try dsimp only at hSw); go_simp; try with_reducible rfl
    simp only [Act.put, List.getElem_toArray, List.getElem_cons_zero, List.getElem_cons_succ, List.setIfInBounds_toArray, List.set_cons_zero, List.set_cons_succ]
    refine wpAnyH_take (i := 26) (v := ?_) rfl (by kernel_rfl) (by kernel_rfl) (by kernel_rfl) (fun _ _ _ h => h) (Or.inl ⟨by rfl, ?_⟩) (by assumption) ?_
    rotate_left
    · intro w hSw; (try dsimp only at hSw); go_simp; try with_reducible rfl
    simp only [Act.put, List.getElem_toArray, List.getElem_cons_zero, List.getElem_cons_succ, List.setIfInBounds_toArray, List.set_cons_zero, List.set_cons_succ]
    refine wpAnyH_take (i := 27) (v := undef) rfl (by kernel_rfl) (by kernel_rfl) (by kernel_rfl) (fun _ _ _ h => h) (Or.inr ⟨by rfl, rfl⟩) (by assumption) ?_
    simp only [Act.put, List.getElem_toArray, List.getElem_cons_zero, List.getElem_cons_succ, List.setIfInBounds_toArray, List.set_cons_zero, List.set_cons_succ]
    refine wpAnyH_take (i := 28) (v := undef) rfl (by kernel_rfl) (by kernel_rfl) (by kernel_rfl) (fun _ _ _ h => h) (Or.inr ⟨by rfl, rfl⟩) (by assumption) ?_
    simp only [Act.put, List.getElem_toArray, List.getElem_cons_zero, List.getElem_cons_succ, List.setIfInBounds_toArray, List.set_cons_zero, List.set_cons_succ]
    refine wpAnyH_take (i := 29) (v := undef) rfl (by kernel_rfl) (by kernel_rfl) (by kernel_rfl) (fun _ _ _ h => h) (Or.inr ⟨by rfl, rfl⟩) (by assumption) ?_
    simp only [Act.put, List.getElem_toArray, List.getElem_cons_zero, List.getElem_cons_succ, List.setIfInBounds_toArray, List.set_cons_zero, List.set_cons_succ]
    refine wpAnyH_take (i := 30) (v := undef) rfl (by kernel_rfl) (by kernel_rfl) (by kernel_rfl) (fun _ _ _ h => h) (Or.inr ⟨by rfl, rfl⟩) (by assumption) ?_
    simp only [Act.put, List.getElem_toArray, List.getElem_cons_zero, List.getElem_cons_succ, List.setIfInBounds_toArray, List.set_cons_zero, List.set_cons_succ]
    refine wpAnyH_take (i := 31) (v := undef) rfl (by kernel_rfl) (by kernel_rfl) (by kernel_rfl) (fun _ _ _ h => h) (Or.inr ⟨by rfl, rfl⟩) (by assumption) ?_
    simp only [Act.put, List.getElem_toArray, List.getElem_cons_zero, List.getElem_cons_succ, List.setIfInBounds_toArray, List.set_cons_zero, List.set_cons_succ]
    refine wpAnyH_take (i := 32) (v := undef) rfl (by kernel_rfl) (by kernel_rfl) (by kernel_rfl) (fun _ _ _ h => h) (Or.inr ⟨by rfl, rfl⟩) (by assumption) ?_
    simp only [Act.put, List.getElem_toArray, List.getElem_cons_zero, List.getElem_cons_succ, List.setIfInBounds_toArray, List.set_cons_zero, List.set_cons_succ]
    refine wpAnyH_take (i := 33) (v := ?_) rfl (by kernel_rfl) (by kernel_rfl) (by kernel_rfl) (fun _ _ _ h => h) (Or.inl ⟨by rfl, ?_⟩) (by assumption) ?_
    rotate_left
    · intro w hSw; (try dsimp only at hSw); go_simp; try with_reducible rfl
    simp only [Act.put, List.getElem_toArray, List.getElem_cons_zero, List.getElem_cons_succ, List.setIfInBounds_toArray, List.set_cons_zero, List.set_cons_succ]
    refine wpAnyH_take (i := 34) (v := ?_) rfl (by kernel_rfl) (by kernel_rfl) (by kernel_rfl) (fun _ _ _ h => h) (Or.inl ⟨by rfl, ?_⟩) (by assumption) ?_
    rotate_left
    · intro w hSw; (try dsimp only at hSw); go_simp; try with_reducible rfl
    simp only [Act.put, List.getElem_toArray, List.getElem_cons_zero, List.getElem_cons_succ, List.setIfInBounds_toArray, List.set_cons_zero, List.set_cons_succ]
    refine wpAnyH_done (by kernel_rfl) ?_ _
    go_wp2
    go_ret
    exact ⟨rfl, HB.out.trans (HB3'.out.mono HB.out.size)⟩
  · skip
    go_wp2_with fail
    clear x0 x1 x2
    go_region_held3 (fun w' => w'.cell? ⟨w.heap.size, 0, none⟩ = some (.slice q1 n1 c1) ∧ w'.cell? ⟨w.heap.size, 1, none⟩ = some (.slice q2 n2 c2) ∧ w'.cell? ⟨w.heap.size, 2, none⟩ = some (.int .i64 rt))
      (first | exact HBX.out _ HBD.out | exact HBX.out _ HB3'.out | exact HBX.out _ HB4.out | exact HBX.out _ HB5.out)
      (first
        | (go_at_call 20; (with_reducible refine HUS.out.mono ?_); rintro e w6 ⟨rfl, rfl⟩)
        | (go_at_call 18; (with_reducible refine HHO.out.mono ?_); rintro e w5 ⟨rfl, hb5⟩; have HB5 := Lib.hid (HB4.out.trans (hb5.mono HB4.out.size)); have HUS := Lib.hid (HUSG.out _ hb5); clear hb5)
        | (go_at_call 7; (with_reducible refine (HKP.out _ HB3.out).mono ?_); rintro e w4 ⟨rfl, hs4⟩; have HB4 := Lib.hid (HB3'.out.trans hs4.below); obtain ⟨lm4, fm4, pl4, um4, wm4, la4, v4, hg4⟩ := hs4.at_; have HHO := Lib.hid (HHOG.out _ _ _ _ _ _ _ _ HB4.out hg4); have HUSG := Lib.hid (HUSH.out _ _ _ _ _ _ _ _ hg4); clear hs4 hg4)
        | (go_at_call 15; (with_reducible refine HME.out.mono ?_); rintro e w3 ⟨rfl, hb3⟩; have HB3 := Lib.hid hb3; have HB3' := Lib.hid (HBD.out.trans (hb3.mono HBD.out.size)); clear hb3))
    all_goals
      go_wp2
      go_ret
      exact ⟨rfl, HB.out.trans (HB5.out.mono HB.out.size)⟩

end Go.Proofs.YtmlnpgbnbchbkaaDoor
