/-
  tree: places; place.takes.
  node's rest: part, number, text: contracts.
-/
import Derived.Test.YtngnmakeaniapaaGreatDoorH20
import Derived.Test.YtngnmakeaniapaaGreatDoorH21
import Derived.Test.YtngnmakeaniapaaGreatDoorH19
import Derived.Deep.RegionHeld3
import Derived.Deep.QuietTactic
import Derived.BigQuiet
set_option linter.unusedVariables false
set_option linter.unusedSimpArgs false
set_option maxRecDepth 100000
namespace Go.Proofs.YtngnmakeaniapaaGreatDoor
open Go.RowKit

/-- A place. -/
structure Pc where
  no : Int
  deep : Int
  s : Sp
def Pc.v (p : Pc) : Value := .agg #[.int .i64 p.no, .int .i64 p.deep, .slice p.s.f.q p.s.f.l.length p.s.f.c, .slice p.s.t.q p.s.t.l.length p.s.t.c, .bool p.s.e]
def Pc.cells (p : Pc) : Array Value := #[.int .i64 p.no, .int .i64 p.deep, .slice p.s.f.q p.s.f.l.length p.s.f.c, .slice p.s.t.q p.s.t.l.length p.s.t.c, .bool p.s.e]

/-- The box of a place. -/
structure PBox (w : World) (b : Nat) (p : Pc) : Prop where
  c0 : w.cell? ⟨b, 0, none⟩ = some (.int .i64 p.no)
  c1 : w.cell? ⟨b, 1, none⟩ = some (.int .i64 p.deep)
  c2 : w.cell? ⟨b, 2, none⟩ = some (.slice p.s.f.q p.s.f.l.length p.s.f.c)
  c3 : w.cell? ⟨b, 3, none⟩ = some (.slice p.s.t.q p.s.t.l.length p.s.t.c)
  c4 : w.cell? ⟨b, 4, none⟩ = some (.bool p.s.e)
theorem PBox.of {w : World} {b : Nat} {p : Pc} {t : TypeId} {f : Nat × Nat} (h : w.heap[b]? = some (.cells p.cells t f)) : PBox w b p :=
  ⟨(Joins.cell_of_block h 0).trans rfl, (Joins.cell_of_block h 1).trans rfl, (Joins.cell_of_block h 2).trans rfl, (Joins.cell_of_block h 3).trans rfl, (Joins.cell_of_block h 4).trans rfl⟩
theorem PBox.low {w w' : World} {b B : Nat} {p : Pc} (h : PBox w b p) (hb : Below B w w') (hB : b < B) : PBox w' b p := by
  obtain ⟨c0, c1, c2, c3, c4⟩ := h
  exact ⟨by rw [hb.cell hB]; exact c0, by rw [hb.cell hB]; exact c1, by rw [hb.cell hB]; exact c2, by rw [hb.cell hB]; exact c3, by rw [hb.cell hB]; exact c4⟩
theorem NBox.of {w : World} {b : Nat} {n : Nd} {t : TypeId} {f : Nat × Nat} (h : w.heap[b]? = some (.cells n.cells t f)) : NBox w b n :=
  ⟨(Joins.cell_of_block h 0).trans rfl, (Joins.cell_of_block h 1).trans rfl, (Joins.cell_of_block h 2).trans rfl, (Joins.cell_of_block h 3).trans rfl⟩

/-- Whether a node may stand there, plain. -/
def takesS (s : SpS) (n : NdS) : Bool := if n.ks.length = 0 then !n.leaf || !s.all else s.has (n.ks.headD []) && s.has (n.ks.getLastD [])

set_option maxHeartbeats 3200000 in
theorem takes_any {w : World} {p : Pc} (hp : p.s.Ok w) {n : Nd} (hn : n.Ok w) (hl : n.ks.length ≤ 1000000) :
    Calls Tryz.prog 161 #[p.v, n.cell] w fun e w' => e = .returned (.bool (takesS p.s.s n.s)) ∧ Below w.heap.size w w' := by
  obtain ⟨W, hW⟩ : ∃ W, W = (w.alloc (.cells p.cells 172)).alloc (.cells n.cells 154) := ⟨_, rfl⟩
  have e1 : (w.alloc (.cells p.cells 172)).heap.size = w.heap.size + 1 := by simp
  have hbw : Below w.heap.size w W := by rw [hW]; exact sbox2 _ _ _
  have hp0 : W.heap[w.heap.size]? = some (.cells p.cells 172 (0, 0)) := by
    rw [hW, Below.heap_alloc _ _ _ (by omega)]
    exact heap_alloc_new w _
  have hn0 : W.heap[w.heap.size + 1]? = some (.cells n.cells 154 (0, 0)) := by
    have := heap_alloc_new (w.alloc (.cells p.cells 172)) (.cells n.cells 154)
    rw [e1] at this
    rw [hW]
    exact this
  have hws : W.heap.size = w.heap.size + 2 := by rw [hW]; simp
  have HP : Hid (∀ w', Below W.heap.size W w' → PBox w' w.heap.size p) := Lib.hid fun w' hb => (PBox.of hp0).low hb (by omega)
  have HN : Hid (∀ w', Below W.heap.size W w' → NBox w' (w.heap.size + 1) n) := Lib.hid fun w' hb => (NBox.of hn0).low hb (by omega)
  have HBW := Lib.hid hbw
  have HBX : Hid (∀ w', Below W.heap.size W w' → Below w.heap.size w w') := Lib.hid fun w' hb => hbw.trans (hb.mono hbw.size)
  have HSP := Lib.hid (hp.below hbw)
  have HND := Lib.hid (hn.below hbw)
  have k1 := hn.k1
  have k2 := hn.k2
  unfold Pc.v Nd.cell
  unfold Pc.cells Nd.cells at hW
  by_cases h0 : n.ks.length = 0
  · have HR : Hid (takesS p.s.s n.s = (!n.leaf || !p.s.s.all)) := Lib.hid (by unfold takesS; rw [if_pos (by show (n.ks.map Kb.l).length = 0; rw [List.length_map]; exact h0)]; rfl)
    have HA := Lib.hid (spAll (w := W) (s := p.s))
    unfold Sp.v at HA
    generalize takesS p.s.s n.s = R at *
    generalize p.s.s.all = A at *
    obtain ⟨y0, y1, y2, y3, y4⟩ := PBox.of hp0
    obtain ⟨x0, x1, x2, x3⟩ := NBox.of hn0
    have HZ := Lib.hid h0
    generalize n.ks.length = kn at *
    subst h0
    generalize n.vs.length = vn at *
    generalize n.is.length = inn at *
    generalize p.s.f.l.length = fn at *
    generalize p.s.t.l.length = tn at *
    cases hl2 : n.leaf
    · rw [hl2] at HR x0 hW
      clear hp hn hl hp0 hn0
      go_enter Tryz.func161, Tryz.ntmps161
      go_wp2
      rw [← hW]
      go_ret
      exact ⟨by rw [HR.out]; rfl, HBW.out⟩
    · rw [hl2] at HR x0 hW
      clear hp hn hl hp0 hn0
      go_enter Tryz.func161, Tryz.ntmps161
      go_wp2_with fail
      rw [← hW]
      clear hW
      refine HA.out.mono ?_; rintro e w1 ⟨rfl, hb1⟩
      have HB1 := Lib.hid (HBX.out _ hb1)
      clear hb1
      go_wp2
      go_ret
      exact ⟨by rw [HR.out]; cases A <;> rfl, HB1.out⟩
  · obtain ⟨k0, hk0⟩ : ∃ k, n.ks[0]? = some k := ⟨_, List.getElem?_eq_getElem (by omega)⟩
    obtain ⟨kl, hkl⟩ : ∃ k, n.ks[n.ks.length - 1]? = some k := ⟨_, List.getElem?_eq_getElem (by omega)⟩
    have HR : Hid (takesS p.s.s n.s = (p.s.s.has k0.l && p.s.s.has kl.l)) := Lib.hid (by
      unfold takesS
      have e1 : n.s.ks = n.ks.map Kb.l := rfl
      rw [if_neg (by rw [e1, List.length_map]; exact h0), e1]
      have e2 : (n.ks.map Kb.l).headD [] = k0.l := by rw [List.headD_eq_head?_getD, List.head?_eq_getElem?, List.getElem?_map, hk0]; rfl
      have e3 : (n.ks.map Kb.l).getLastD [] = kl.l := by rw [List.getLastD_eq_getLast?, List.getLast?_eq_getElem?, List.length_map, List.getElem?_map, hkl]; rfl
      rw [e2, e3])
    obtain ⟨b, o, hq, hbl, hc0⟩ := hn.kl.at hk0
    obtain ⟨b', o', hq', _, hcl⟩ := hn.kl.at hkl
    rw [hq] at hq'
    cases hq'
    have HO0 := Lib.hid (hn.ko k0 (List.mem_of_getElem? hk0))
    have HOL := Lib.hid (hn.ko kl (List.mem_of_getElem? hkl))
    have HH0 := Lib.hid fun w' (hb : Below W.heap.size W w') => spHas (HSP.out.below hb) ((HO0.out.below HBW.out).below hb)
    have HDR : Hid (Below W.heap.size W W.drew) := Lib.hid (Below.refl _ _).drew
    have HHL := Lib.hid fun w' (hb : Below W.heap.size W w') => spHas (HSP.out.below hb) ((HOL.out.below HBW.out).below hb)
    unfold Sp.v at HH0 HHL
    have HKC : Hid (∀ w', Below W.heap.size W w' → w'.cell? ⟨b, o, none⟩ = some (.slice k0.q k0.l.length k0.c) ∧ w'.cell? ⟨b, o + (n.ks.length - 1), none⟩ = some (.slice kl.q kl.l.length kl.c)) := Lib.hid fun w' hb => by
      have hbb := HBX.out _ hb
      exact ⟨by rw [hbb.cell (p := ⟨b, o, none⟩) hbl]; exact hc0, by rw [hbb.cell (p := ⟨b, o + (n.ks.length - 1), none⟩) hbl]; exact hcl⟩
    generalize takesS p.s.s n.s = R at *
    generalize p.s.s.has k0.l = A0 at *
    generalize p.s.s.has kl.l = AL at *
    generalize k0.l.length = z0 at *
    generalize kl.l.length = zl at *
    obtain ⟨m, hm⟩ : ∃ m, n.ks.length = m + 1 := ⟨n.ks.length - 1, by omega⟩
    rw [hm] at HKC hW h0 k1 hl ⊢
    simp only [Nat.add_sub_cancel] at HKC
    have hN : ∀ w', NBox w' (w.heap.size + 1) n → w'.cell? ⟨w.heap.size + 1, 1, none⟩ = some (.slice (some ⟨b, o, none⟩) (m + 1) n.kc) := fun w' h => by rw [← hq, ← hm]; exact h.c1
    have HN1 := Lib.hid fun w' hb => hN w' (HN.out w' hb)
    clear hN
    rw [hq] at hW ⊢
    generalize n.kc = kc at *
    generalize n.vs.length = vn at *
    generalize n.is.length = inn at *
    have HFT : Hid (∀ w', Below W.heap.size W w' → w'.cell? ⟨w.heap.size, 2, none⟩ = some (.slice p.s.f.q p.s.f.l.length p.s.f.c) ∧ w'.cell? ⟨w.heap.size, 3, none⟩ = some (.slice p.s.t.q p.s.t.l.length p.s.t.c) ∧ w'.cell? ⟨w.heap.size, 4, none⟩ = some (.bool p.s.e)) := Lib.hid fun w' hb => ⟨(HP.out w' hb).c2, (HP.out w' hb).c3, (HP.out w' hb).c4⟩
    generalize p.s.f.l.length = fn at *
    generalize p.s.t.l.length = tn at *
    have b1 : ((m : Int) + 1 == 0) = false := by rw [beq_eq_false_iff_ne]; omega
    have b2 : (0 : Int) < (m : Int) + 1 := by omega
    have b3 : IntKind.i64.wrap ((m : Int) + 1 - 1) = (m : Int) := by rw [IntKind.wrap_i64]; omega
    have b3' : IntKind.i64.wrap (m : Int) = (m : Int) := by rw [IntKind.wrap_i64]; omega
    have b4 : (m : Int) < (m : Int) + 1 := by omega
    have b5 : (0 : Int) ≤ (m : Int) := by omega
    have HCC : Hid (∀ w', Below W.heap.size W w' → w'.cell? ⟨w.heap.size, 2, none⟩ = some (.slice p.s.f.q fn p.s.f.c) ∧ w'.cell? ⟨w.heap.size, 3, none⟩ = some (.slice p.s.t.q tn p.s.t.c) ∧ w'.cell? ⟨w.heap.size, 4, none⟩ = some (.bool p.s.e) ∧ w'.cell? ⟨w.heap.size + 1, 1, none⟩ = some (.slice (some ⟨b, o, none⟩) (m + 1) kc) ∧ w'.cell? ⟨b, o, none⟩ = some (.slice k0.q z0 k0.c) ∧ w'.cell? ⟨b, o + m, none⟩ = some (.slice kl.q zl kl.c)) := Lib.hid fun w' hb => ⟨(HFT.out w' hb).1, (HFT.out w' hb).2.1, (HFT.out w' hb).2.2, HN1.out w' hb, HKC.out w' hb⟩
    clear HFT HKC HN1 HP HN hp hn hl hp0 hn0 hc0 hcl hk0 hkl hm hq h0 hbl
    cases A0
    · go_enter Tryz.func161, Tryz.ntmps161
      go_wp2_with fail
      rw [← hW]
      clear hW
      refine wp_region_held_drew (S := fun w' => w'.cell? ⟨w.heap.size, 2, none⟩ = some (.slice p.s.f.q fn p.s.f.c) ∧ w'.cell? ⟨w.heap.size, 3, none⟩ = some (.slice p.s.t.q tn p.s.t.c) ∧ w'.cell? ⟨w.heap.size, 4, none⟩ = some (.bool p.s.e) ∧ w'.cell? ⟨w.heap.size + 1, 1, none⟩ = some (.slice (some ⟨b, o, none⟩) (m + 1) kc) ∧ w'.cell? ⟨b, o, none⟩ = some (.slice k0.q z0 k0.c) ∧ w'.cell? ⟨b, o + m, none⟩ = some (.slice kl.q zl kl.c)) (by kernel_rfl) (HCC.out _ HDR.out) (fun hHeld => ?_)
      refine wpAnyH_take (i := 0) (v := ?_) rfl (by kernel_rfl) (by kernel_rfl) (by kernel_rfl) (fun _ _ _ h => h) (Or.inl ⟨by rfl, ?_⟩) (by assumption) ?_
      rotate_left
      · intro w hSw; (try dsimp only at hSw); go_simp; try with_reducible rfl
      simp only [Act.put, List.getElem_toArray, List.getElem_cons_zero, List.setIfInBounds_toArray, List.set_cons_zero, List.set_cons_succ]
      refine wpAnyH_take (i := 1) (v := ?_) rfl (by kernel_rfl) (by kernel_rfl) (by kernel_rfl) (fun _ _ _ h => h) (Or.inl ⟨by rfl, ?_⟩) (by assumption) ?_
      rotate_left
      · intro w hSw; (try dsimp only at hSw); go_simp; try with_reducible rfl
      simp only [Act.put, List.getElem_toArray, List.getElem_cons_zero, List.getElem_cons_succ, List.setIfInBounds_toArray, List.set_cons_zero, List.set_cons_succ]
      refine wpAnyH_take (i := 2) (v := ?_) rfl (by kernel_rfl) (by kernel_rfl) (by kernel_rfl) (fun _ _ _ h => h) (Or.inl ⟨by rfl, ?_⟩) (by assumption) ?_
      rotate_left
      · intro w hSw; (try dsimp only at hSw); go_simp; try with_reducible rfl
      simp only [Act.put, List.getElem_toArray, List.getElem_cons_zero, List.getElem_cons_succ, List.setIfInBounds_toArray, List.set_cons_zero, List.set_cons_succ]
      refine wpAnyH_take (i := 3) (v := ?_) rfl (by kernel_rfl) (by kernel_rfl) (by kernel_rfl) (fun _ _ _ h => h) (Or.inl ⟨by rfl, ?_⟩) (by assumption) ?_
      rotate_left
      · intro w hSw; (try dsimp only at hSw); go_simp; try with_reducible rfl
      simp only [Act.put, List.getElem_toArray, List.getElem_cons_zero, List.getElem_cons_succ, List.setIfInBounds_toArray, List.set_cons_zero, List.set_cons_succ]
      refine wpAnyH_take (i := 4) (v := ?_) rfl (by kernel_rfl) (by kernel_rfl) (by kernel_rfl) (fun _ _ _ h => h) (Or.inl ⟨by rfl, ?_⟩) (by assumption) ?_
      rotate_left
      · intro w hSw; (try dsimp only at hSw); go_simp; try with_reducible rfl
      simp only [Act.put, List.getElem_toArray, List.getElem_cons_zero, List.getElem_cons_succ, List.setIfInBounds_toArray, List.set_cons_zero, List.set_cons_succ]
      refine wpAnyH_take (i := 5) (v := ?_) rfl (by kernel_rfl) (by kernel_rfl) (by kernel_rfl) (fun _ _ _ h => h) (Or.inl ⟨by rfl, ?_⟩) (by assumption) ?_
      rotate_left
      · intro w hSw; (try dsimp only at hSw); go_simp; try with_reducible rfl
      simp only [Act.put, List.getElem_toArray, List.getElem_cons_zero, List.getElem_cons_succ, List.setIfInBounds_toArray, List.set_cons_zero, List.set_cons_succ]
      refine wpAnyH_ready (rs := [6]) (by kernel_rfl) (by simp) ?_
      refine AllReadyH.cons rfl (fun K hK => ?_) AllReadyH.nil
      go_simp
      (with_reducible refine (HH0.out _ HDR.out).mono ?_); rintro e w1 ⟨rfl, hb1⟩
      have HB1 := Lib.hid (HDR.out.trans (hb1.mono HDR.out.size))
      clear hb1
      dsimp only
      refine hK.out _ _ (HCC.out _ HB1.out) (fun hHeld => ?_)
      clear hK K
      try simp only [Act.put, List.getElem_toArray, List.getElem_cons_zero, List.getElem_cons_succ, List.setIfInBounds_toArray, List.set_cons_zero, List.set_cons_succ]
      refine wpAnyH_take (i := 7) (v := ?_) rfl (by kernel_rfl) (by kernel_rfl) (by kernel_rfl) (fun _ _ _ h => h) (Or.inl ⟨by rfl, ?_⟩) (by assumption) ?_
      rotate_left
      · intro w hSw; (try dsimp only at hSw); go_simp; try with_reducible rfl
      simp only [Act.put, List.getElem_toArray, List.getElem_cons_zero, List.getElem_cons_succ, List.setIfInBounds_toArray, List.set_cons_zero, List.set_cons_succ]
      refine wpAnyH_take (i := 8) (v := undef) rfl (by kernel_rfl) (by kernel_rfl) (by kernel_rfl) (fun _ _ _ h => h) (Or.inr ⟨by rfl, rfl⟩) (by assumption) ?_
      simp only [Act.put, List.getElem_toArray, List.getElem_cons_zero, List.getElem_cons_succ, List.setIfInBounds_toArray, List.set_cons_zero, List.set_cons_succ]
      refine wpAnyH_take (i := 9) (v := undef) rfl (by kernel_rfl) (by kernel_rfl) (by kernel_rfl) (fun _ _ _ h => h) (Or.inr ⟨by rfl, rfl⟩) (by assumption) ?_
      simp only [Act.put, List.getElem_toArray, List.getElem_cons_zero, List.getElem_cons_succ, List.setIfInBounds_toArray, List.set_cons_zero, List.set_cons_succ]
      refine wpAnyH_take (i := 10) (v := undef) rfl (by kernel_rfl) (by kernel_rfl) (by kernel_rfl) (fun _ _ _ h => h) (Or.inr ⟨by rfl, rfl⟩) (by assumption) ?_
      simp only [Act.put, List.getElem_toArray, List.getElem_cons_zero, List.getElem_cons_succ, List.setIfInBounds_toArray, List.set_cons_zero, List.set_cons_succ]
      refine wpAnyH_take (i := 11) (v := undef) rfl (by kernel_rfl) (by kernel_rfl) (by kernel_rfl) (fun _ _ _ h => h) (Or.inr ⟨by rfl, rfl⟩) (by assumption) ?_
      simp only [Act.put, List.getElem_toArray, List.getElem_cons_zero, List.getElem_cons_succ, List.setIfInBounds_toArray, List.set_cons_zero, List.set_cons_succ]
      refine wpAnyH_take (i := 12) (v := undef) rfl (by kernel_rfl) (by kernel_rfl) (by kernel_rfl) (fun _ _ _ h => h) (Or.inr ⟨by rfl, rfl⟩) (by assumption) ?_
      simp only [Act.put, List.getElem_toArray, List.getElem_cons_zero, List.getElem_cons_succ, List.setIfInBounds_toArray, List.set_cons_zero, List.set_cons_succ]
      refine wpAnyH_take (i := 13) (v := undef) rfl (by kernel_rfl) (by kernel_rfl) (by kernel_rfl) (fun _ _ _ h => h) (Or.inr ⟨by rfl, rfl⟩) (by assumption) ?_
      simp only [Act.put, List.getElem_toArray, List.getElem_cons_zero, List.getElem_cons_succ, List.setIfInBounds_toArray, List.set_cons_zero, List.set_cons_succ]
      refine wpAnyH_take (i := 14) (v := undef) rfl (by kernel_rfl) (by kernel_rfl) (by kernel_rfl) (fun _ _ _ h => h) (Or.inr ⟨by rfl, rfl⟩) (by assumption) ?_
      simp only [Act.put, List.getElem_toArray, List.getElem_cons_zero, List.getElem_cons_succ, List.setIfInBounds_toArray, List.set_cons_zero, List.set_cons_succ]
      refine wpAnyH_take (i := 15) (v := undef) rfl (by kernel_rfl) (by kernel_rfl) (by kernel_rfl) (fun _ _ _ h => h) (Or.inr ⟨by rfl, rfl⟩) (by assumption) ?_
      simp only [Act.put, List.getElem_toArray, List.getElem_cons_zero, List.getElem_cons_succ, List.setIfInBounds_toArray, List.set_cons_zero, List.set_cons_succ]
      refine wpAnyH_take (i := 16) (v := undef) rfl (by kernel_rfl) (by kernel_rfl) (by kernel_rfl) (fun _ _ _ h => h) (Or.inr ⟨by rfl, rfl⟩) (by assumption) ?_
      simp only [Act.put, List.getElem_toArray, List.getElem_cons_zero, List.getElem_cons_succ, List.setIfInBounds_toArray, List.set_cons_zero, List.set_cons_succ]
      refine wpAnyH_take (i := 17) (v := undef) rfl (by kernel_rfl) (by kernel_rfl) (by kernel_rfl) (fun _ _ _ h => h) (Or.inr ⟨by rfl, rfl⟩) (by assumption) ?_
      simp only [Act.put, List.getElem_toArray, List.getElem_cons_zero, List.getElem_cons_succ, List.setIfInBounds_toArray, List.set_cons_zero, List.set_cons_succ]
      refine wpAnyH_take (i := 18) (v := undef) rfl (by kernel_rfl) (by kernel_rfl) (by kernel_rfl) (fun _ _ _ h => h) (Or.inr ⟨by rfl, rfl⟩) (by assumption) ?_
      simp only [Act.put, List.getElem_toArray, List.getElem_cons_zero, List.getElem_cons_succ, List.setIfInBounds_toArray, List.set_cons_zero, List.set_cons_succ]
      refine wpAnyH_take (i := 19) (v := ?_) rfl (by kernel_rfl) (by kernel_rfl) (by kernel_rfl) (fun _ _ _ h => h) (Or.inl ⟨by rfl, ?_⟩) (by assumption) ?_
      rotate_left
      · intro w hSw; (try dsimp only at hSw); go_simp; try with_reducible rfl
      simp only [Act.put, List.getElem_toArray, List.getElem_cons_zero, List.getElem_cons_succ, List.setIfInBounds_toArray, List.set_cons_zero, List.set_cons_succ]
      refine wpAnyH_take (i := 20) (v := ?_) rfl (by kernel_rfl) (by kernel_rfl) (by kernel_rfl) (fun _ _ _ h => h) (Or.inl ⟨by rfl, ?_⟩) (by assumption) ?_
      rotate_left
      · intro w hSw; (try dsimp only at hSw); go_simp; try with_reducible rfl
      simp only [Act.put, List.getElem_toArray, List.getElem_cons_zero, List.getElem_cons_succ, List.setIfInBounds_toArray, List.set_cons_zero, List.set_cons_succ]
      refine wpAnyH_done (by kernel_rfl) ?_ _
      go_wp2
      go_ret
      exact ⟨by rw [HR.out]; rfl, HBX.out _ HB1.out⟩
    · go_enter Tryz.func161, Tryz.ntmps161
      go_wp2_with fail
      rw [← hW]
      clear hW
      go_region_held3 (fun w' => w'.cell? ⟨w.heap.size, 2, none⟩ = some (.slice p.s.f.q fn p.s.f.c) ∧ w'.cell? ⟨w.heap.size, 3, none⟩ = some (.slice p.s.t.q tn p.s.t.c) ∧ w'.cell? ⟨w.heap.size, 4, none⟩ = some (.bool p.s.e) ∧ w'.cell? ⟨w.heap.size + 1, 1, none⟩ = some (.slice (some ⟨b, o, none⟩) (m + 1) kc) ∧ w'.cell? ⟨b, o, none⟩ = some (.slice k0.q z0 k0.c) ∧ w'.cell? ⟨b, o + m, none⟩ = some (.slice kl.q zl kl.c))
        (first | exact HCC.out _ (Below.refl _ _) | exact HCC.out _ HB1.out | exact HCC.out _ HB2.out | exact HCC.out _ HDR.out)
        (first
          | (go_at_call 101; (with_reducible refine (HHL.out _ HB1.out).mono ?_); rintro e w2 ⟨rfl, hb2⟩; have HB2 := Lib.hid (HB1.out.trans (hb2.mono HB1.out.size)); clear hb2)
          | (go_at_call 101; (with_reducible refine (HH0.out _ HDR.out).mono ?_); rintro e w1 ⟨rfl, hb1⟩; have HB1 := Lib.hid (HDR.out.trans (hb1.mono HDR.out.size)); clear hb1)
          | fail)
      all_goals
        go_wp2
        go_ret
        exact ⟨by rw [HR.out]; rfl, HBX.out _ HB2.out⟩

end Go.Proofs.YtngnmakeaniapaaGreatDoor

set_option linter.unusedVariables false
set_option maxRecDepth 100000
namespace Go.Proofs.YtngnmakeaniapaaGreatDoor
open Go.RowKit

/-- What was not read yet stands at g. -/
def Rs (w : World) (g : Nat) (l : List UInt8) : Prop :=
  ∃ p n c, w.heap[g]? = some (.cells #[.slice p n c] 271 (0, 0)) ∧ Bs w p l ∧ n = l.length ∧ n ≤ c ∧ c ≤ 9223372036854775807 ∧ (p = none → c = 0) ∧ ∀ a, p = some a → Lo w g a
theorem Rs.lt {w : World} {g : Nat} {l : List UInt8} (h : Rs w g l) : g < w.heap.size := by
  obtain ⟨p, n, c, hb, _⟩ := h
  exact (Array.getElem?_eq_some_iff.1 hb).1
theorem Rs.low {w w' : World} {g : Nat} {l : List UInt8} (h : Rs w g l) (hb : Below (g + 1) w w') : Rs w' g l := by
  obtain ⟨p, n, c, h1, h2, h3, h4, h5, h6, h7⟩ := h
  exact ⟨p, n, c, by rw [hb.block g (by omega)]; exact h1, h2.low' h7 (hb.mono (by omega)), h3, h4, h5, h6, fun a ha => (h7 a ha).low (hb.mono (by omega))⟩
theorem Rs.below {w w' : World} {g : Nat} {l : List UInt8} (h : Rs w g l) (hb : Below w.heap.size w w') : Rs w' g l := h.low (hb.mono h.lt)
theorem rs_set {w : World} {g : Nat} {a v : Value} {t : TypeId} (h : w.heap[g]? = some (.cells #[a] t (0, 0))) : (w.setCell ⟨g, 0, none⟩ v).heap[g]? = some (.cells #[v] t (0, 0)) := by
  simp [World.setCell, Array.getElem?_modify, h]

/-- A part of a page's bytes, and what is left. -/
def PartPost (w : World) (g : Nat) (t l : List UInt8) (e : Ending) (w' : World) : Prop :=
  ∃ p m, e = .returned (.slice p m m) ∧ m = t.length ∧ Bs w' p t ∧ (p = none → m = 0) ∧ (∀ a, p = some a → Lo w' g a) ∧ Rs w' g l ∧ w.grownBy w' (some g)

theorem drop_addr {w : World} {ad : Addr} {l : List UInt8} {k : Nat} (h : Bs w (some ad) l) : Bs w (some (ad.add k)) (l.drop k) := by
  intro hne
  obtain ⟨b, o, hp, hc⟩ := h (by intro e; subst e; simp at hne)
  obtain rfl := Option.some.inj hp
  rw [Addr.add_lit]
  exact Bs.drop hc k hne

theorem add_block (ad : Addr) (m : Nat) : (ad.add m).block = ad.block := by
  unfold Addr.add
  first | rfl | (split <;> rfl)

theorem part_end {w : World} {g : Nat} {p : Option Addr} {n c : Nat} {l : List UInt8} (hblk : w.heap[g]? = some (.cells #[.slice p n c] 271 (0, 0))) (hbs : Bs w p l) (hn : n = l.length) (hnc : n ≤ c) (hc : c ≤ 9223372036854775807) (hz : p = none → c = 0) (hlo : ∀ a, p = some a → Lo w g a)
    (k m : Nat) (hm : m = (l.take k).length) (p' : Option Addr) (n' c' : Nat) (hp : (c = m ∧ p' = p) ∨ (∃ ad, p = some ad ∧ p' = some (ad.add m))) (hn' : n' = n - m) (hc' : c' = c - m) :
    PartPost w g (l.take k) (l.drop k) (.returned (.slice p m m)) (w.setCell ⟨g, 0, none⟩ (.slice p' n' c')) := by
  have hmn : m ≤ n := by rw [hm, List.length_take]; omega
  have hdr : l.drop m = l.drop k := by
    rw [hm, List.length_take]
    rcases Nat.le_total k l.length with h | h
    · rw [Nat.min_eq_left h]
    · rw [Nat.min_eq_right h, List.drop_eq_nil_of_le (Nat.le_refl _), List.drop_eq_nil_of_le h]
  have hbl : Below g w (w.setCell ⟨g, 0, none⟩ (.slice p' n' c')) := (Below.refl _ _).setCell (p := ⟨g, 0, none⟩) (Nat.le_refl _) _
  refine ⟨p, m, rfl, hm, (hbs.take k).low' hlo hbl, (fun e => by have := hz e; omega), (fun a ha => (hlo a ha).low hbl), ⟨p', n', c', rs_set hblk, ?_, by rw [List.length_drop]; rw [hm, List.length_take] at hn'; omega, by omega, by omega, ?_, ?_⟩, gb_set (gb_refl w g) 0 _⟩
  · rcases hp with ⟨h1, rfl⟩ | ⟨ad, rfl, rfl⟩
    · rw [← hdr, List.drop_eq_nil_of_le (by omega)]
      exact Bs.nil _ _
    · rw [← hdr]
      refine (drop_addr hbs).low ?_ hbl
      intro a ha
      obtain rfl := Option.some.inj ha
      rw [add_block]
      exact (hlo ad rfl).1
  · rcases hp with ⟨h1, rfl⟩ | ⟨ad, rfl, rfl⟩
    · intro e; have := hz e; omega
    · intro e; cases e
  · rcases hp with ⟨h1, rfl⟩ | ⟨ad, rfl, rfl⟩
    · exact fun a ha => (hlo a ha).low hbl
    · intro a ha
      obtain rfl := Option.some.inj ha
      unfold Lo
      rw [add_block]
      exact (hlo ad rfl).low hbl

set_option maxHeartbeats 1600000 in
theorem part_any {w : World} {g : Nat} {l : List UInt8} (h : Rs w g l) (hl : l.length ≤ 100000) (k : Nat) (hk : k ≤ 70000) :
    Calls Tryz.prog 233 #[.pointer (some ⟨g, 0, none⟩), .int .i64 (k : Int)] w (PartPost w g (l.take k) (l.drop k)) := by
  obtain ⟨p, n, c, hblk, hbs, hn, hnc, hc, hz, hlo⟩ := h
  have hg := (Array.getElem?_eq_some_iff.1 hblk).1
  have c0 : w.cell? ⟨g, 0, none⟩ = some (.slice p n c) := Joins.cell_of_block hblk 0
  have f0 := Joins.unfrozen_of_block hblk 0
  have HE := Lib.hid (part_end hblk hbs hn hnc hc hz hlo k)
  have HN := Lib.hid hn
  have HZ := Lib.hid hz
  rw [← hn] at hl
  clear hblk hbs hn hlo hz
  by_cases hkn : k ≤ n
  · have HM : Hid (k = (l.take k).length) := Lib.hid (by rw [List.length_take, ← HN.out]; omega)
    have hkc : k ≤ c := by omega
    generalize l.take k = T at *
    generalize l.drop k = D at *
    cases p with
    | none =>
      obtain rfl : c = 0 := HZ.out rfl
      obtain rfl : n = 0 := by omega
      obtain rfl : k = 0 := by omega
      clear HZ
      rw [show ((0 : Nat) : Int) = 0 from rfl]
      go_enter Tryz.func233, Tryz.ntmps233
      go_wp2
      go_ret
      exact HE.out 0 HM.out none 0 0 (.inl ⟨rfl, rfl⟩) rfl rfl
    | some ad =>
      by_cases hcm : c = k
      · subst hcm
        go_enter Tryz.func233, Tryz.ntmps233
        go_wp2
        all_goals
          go_ret
          exact HE.out c HM.out _ _ _ (.inl ⟨rfl, rfl⟩) (by omega) (by omega)
      · go_enter Tryz.func233, Tryz.ntmps233
        go_wp2
        go_ret
        exact HE.out k HM.out _ _ _ (.inr ⟨_, rfl, rfl⟩) rfl rfl
  · have HM : Hid (n = (l.take k).length) := Lib.hid (by rw [List.length_take, ← HN.out]; omega)
    have hkn2 : n < k := by omega
    generalize l.take k = T at *
    generalize l.drop k = D at *
    cases p with
    | none =>
      obtain rfl : c = 0 := HZ.out rfl
      obtain rfl : n = 0 := by omega
      clear HZ
      go_enter Tryz.func233, Tryz.ntmps233
      go_wp2
      go_ret
      exact HE.out 0 HM.out none 0 0 (.inl ⟨rfl, rfl⟩) rfl rfl
    | some ad =>
      by_cases hcm : c = n
      · subst hcm
        go_enter Tryz.func233, Tryz.ntmps233
        go_wp2
        go_ret
        exact HE.out c HM.out _ _ _ (.inl ⟨rfl, rfl⟩) (by simp) (by simp)
      · go_enter Tryz.func233, Tryz.ntmps233
        go_wp2
        go_ret
        exact HE.out n HM.out _ _ _ (.inr ⟨_, rfl, rfl⟩) (by simp) rfl

/-- The number that bytes are, the lowest first. -/
def leN : List UInt8 → Nat
  | [] => 0
  | a :: l => a.toNat + 256 * leN l
theorem or_i64 (a b : Nat) (ha : a < 18446744073709551616) (hb : b < 18446744073709551616) : bits BinOp.or IntKind.i64 (a : Int) (b : Int) = IntKind.i64.wrap ((a ||| b : Nat) : Int) := by
  have h5 : ∀ k : Nat, k < 18446744073709551616 → (BitVec.ofInt 64 (k : Int)).toNat = k := fun k hk => by rw [BitVec.ofInt_natCast, BitVec.toNat_ofNat]; exact Nat.mod_eq_of_lt (by omega)
  show IntKind.i64.wrap (((BitVec.ofInt 64 (a : Int) ||| BitVec.ofInt 64 (b : Int)).toNat : Nat) : Int) = _
  rw [BitVec.toNat_or, h5 a ha, h5 b hb]
theorem or_one (x : UInt8) : bits BinOp.or IntKind.i64 ((leN [] : Nat) : Int) (wrap64 (wrap64 (x.toNat : Int))) = ((leN [x] : Nat) : Int) := by
  have hx := x.toNat_lt
  have hw : wrap64 (wrap64 (x.toNat : Int)) = (x.toNat : Int) := by unfold wrap64; omega
  rw [hw]
  show bits BinOp.or IntKind.i64 ((0 : Nat) : Int) (x.toNat : Int) = _
  rw [or_i64 0 x.toNat (by omega) (by omega), Nat.zero_or, IntKind.wrap_i64]
  simp only [leN]
  omega
theorem or_two (a x : UInt8) : bits BinOp.or IntKind.i64 ((leN [a] : Nat) : Int) (wrap64 (wrap64 (x.toNat : Int) * 256)) = ((leN [a, x] : Nat) : Int) := by
  have ha := a.toNat_lt
  have hx := x.toNat_lt
  have hw : wrap64 (wrap64 (x.toNat : Int) * 256) = ((2 ^ 8 * x.toNat : Nat) : Int) := by unfold wrap64; omega
  rw [hw]
  have e1 : leN [a] = a.toNat := by simp [leN]
  rw [e1, or_i64 a.toNat (2 ^ 8 * x.toNat) (by omega) (by omega), Nat.or_comm, ← Nat.two_pow_add_eq_or_of_lt (i := 8) (b := a.toNat) ha x.toNat, IntKind.wrap_i64]
  simp only [leN]
  omega
def NumPost (w : World) (g v : Nat) (l : List UInt8) (e : Ending) (w' : World) : Prop := e = .returned (.int .i64 (v : Int)) ∧ Rs w' g l ∧ w.grownBy w' (some g)

set_option maxHeartbeats 1600000 in
theorem number_any {w : World} {g : Nat} {l : List UInt8} (h : Rs w g l) (hl : l.length ≤ 100000) (k : Nat) (hk : k ≤ 2) :
    Calls Tryz.prog 214 #[.pointer (some ⟨g, 0, none⟩), .int .i64 (k : Int)] w (NumPost w g (leN (l.take k)) (l.drop k)) := by
  have HP := Lib.hid (part_any h hl k (by omega))
  have ht : (l.take k).length ≤ 2 := by rw [List.length_take]; omega
  generalize l.take k = T at *
  generalize l.drop k = D at *
  clear h hl hk
  go_enter Tryz.func214, Tryz.ntmps214
  go_wp2_with fail
  refine HP.out.mono ?_
  rintro e w1 ⟨p, m, rfl, hm, hbs, hz, _, hr, hg⟩
  have HM := Lib.hid hm
  have HBS := Lib.hid hbs
  have HR := Lib.hid hr
  have HG := Lib.hid hg
  have hm2 : m ≤ 2 := by omega
  clear hbs hr hg hz HP hm
  go_wp2
  go_loopw [5, 12] (fun s i wr => ∃ (j : Nat), i = .int .i64 (j : Int) ∧ s = .int .i64 (leN (T.take j) : Nat) ∧ j ≤ m ∧ wr = w1) (fun _ i _ => m - (intOf i).toNat)
  case atStart => exact ⟨0, rfl, rfl, by omega, rfl⟩
  case round =>
    obtain ⟨j, rfl, rfl, hj, hw⟩ := hrel
    subst hw
    by_cases hlt : j < m
    · have hjl : j < T.length := by have := HM.out; omega
      obtain ⟨b, o, rfl, hblt, hcell⟩ := HBS.out.at (by omega)
      have hcj := hcell j hjl
      clear hcell
      obtain ⟨x, hx⟩ : ∃ x, x = T[j] := ⟨_, rfl⟩
      rw [← hx] at hcj
      have HX := Lib.hid hx
      clear hx
      rcases (by omega : j = 0 ∨ j = 1) with rfl | rfl
      · rw [Nat.add_zero] at hcj
        rw [show ((0 : Nat) : Int) = 0 from rfl]
        go_wp2
        go_roundw
        case rel =>
          refine ⟨1, rfl, ?_, by omega, trivial⟩
          rw [or_one, HX.out, List.take_add_one, List.getElem?_eq_getElem hjl]
          rfl
        case measure => simp [intOf]; omega
      · obtain ⟨y, hy⟩ : ∃ y, T.take 1 = [y] := ⟨T[0], by rw [List.take_add_one, List.getElem?_eq_getElem (by omega)]; rfl⟩
        have HY := Lib.hid hy
        rw [show ((1 : Nat) : Int) = 1 from rfl, hy]
        clear hy
        go_wp2
        go_roundw
        case rel =>
          refine ⟨2, rfl, ?_, by omega, trivial⟩
          rw [or_two, List.take_add_one, HY.out, List.getElem?_eq_getElem hjl, HX.out]
          rfl
        case measure => simp [intOf]; omega
    · go_wp2
      go_ret
      refine ⟨ret_int ?_, HR.out, HG.out⟩
      rw [List.take_of_length_le (by have := HM.out; omega)]

end Go.Proofs.YtngnmakeaniapaaGreatDoor

