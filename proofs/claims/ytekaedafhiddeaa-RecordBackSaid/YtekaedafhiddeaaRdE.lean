/-
  record.ReadEdge: its contract.
-/
import Derived.Test.YtekaedafhiddeaaRdN
set_option linter.unusedVariables false
set_option maxRecDepth 100000
namespace Go.Proofs.Ytekaedafhiddeaa
open Go.RowKit

theorem rd_at {w : World} {g : Nat} {cs : Array Value} {t : TypeId} (h : w.heap[g]? = some (.cells cs t (0, 0))) (i : Nat) : w.cell? ⟨g, i, none⟩ = cs[i]? ∧ w.frozen? ⟨g, i, none⟩ = false :=
  ⟨Joins.cell_of_block h i, Joins.unfrozen_of_block h i⟩

set_option maxHeartbeats 3200000 in
theorem readEdge_any {w : World} {p : Option Addr} {l : List UInt8} (hl : Bs w p l) {n c : Nat} (hn : n = l.length) (hnc : n ≤ c) (hc : c ≤ 9223372036854775807) (hp : p = none → c = 0) (hlo : ∀ a, p = some a → a.block < w.heap.size) (hlen : l.length ≤ 100000)
    {id : Int} (i1 : -9223372036854775808 ≤ id) (i2 : id ≤ 9223372036854775807) :
    Calls Try.prog 11 #[.slice p n c, .int .i64 id] w (RePost w l id) := by
  have hst := store_flt
  have hnot : ∀ (x : Bool) (w : World), (Op.unary .not (.bool x)).run Try.prog w = .ok (.bool (!x)) w := fun _ _ => rfl
  obtain ⟨bw, hbw⟩ : ∃ b, decide (4096 < l.length) = b := ⟨_, rfl⟩
  have hbi : decide ((4096 : Int) < (n : Int)) = bw := by rw [← hbw, hn, decide_eq_decide]; omega
  have hbn : decide (4096 < n) = bw := by rw [← hbw, hn]
  obtain ⟨W, hW⟩ : ∃ W, W = (w.alloc (.cells #[.int .i64 0, .string ⟨#[]⟩, .int .i64 0, .int .i64 0, .slice none 0 0] 27)).alloc (.cells #[.slice p n c, .bool bw] 68) := ⟨_, rfl⟩
  have HWB : Hid (Below w.heap.size w W) := Lib.hid (by rw [hW]; exact box2_below (Below.refl _ _))
  have HWs : Hid (W.heap.size = w.heap.size + 2) := Lib.hid (by rw [hW]; simp)
  have HK0 : Hid (W.heap[w.heap.size]? = some (.cells #[.int .i64 0, .string ⟨#[]⟩, .int .i64 0, .int .i64 0, .slice none 0 0] 27 (0, 0))) := Lib.hid (by rw [hW]; exact (boxes w _ _ _ _).1)
  have HRD : Hid (RdC W (w.heap.size + 1) (l, bw)) := Lib.hid ⟨p, n, c, by rw [hW]; exact (boxes w _ _ _ _).2.1, hl.below HWB.out, hn, hnc, hc, hp, fun a ha => by have := hlo a ha; omega⟩
  obtain ⟨g, hgg⟩ : ∃ g, g = w.heap.size + 1 := ⟨_, rfl⟩
  rw [← hgg] at HRD
  have HX : Hid (edgeS (l, bw) = (((txtS (l, bw)).1, (intS (txtS (l, bw)).2).1, (intS (intS (txtS (l, bw)).2).2).1, (recS (intS (intS (txtS (l, bw)).2).2).2).1), (recS (intS (intS (txtS (l, bw)).2).2).2).2)) := Lib.hid rfl
  have hl1 := txtS_len (l, bw)
  have hl2 := intS_len (txtS (l, bw)).2
  have hl3 := intS_len (intS (txtS (l, bw)).2).2
  have HT : Hid (Calls Try.prog 29 #[.pointer (some ⟨g, 0, none⟩)] W fun e w' => e = .returned (.string (txtS (l, bw)).1) ∧ RdC w' g (txtS (l, bw)).2 ∧ W.grownBy w' (some g)) := Lib.hid (text_any HRD.out hlen)
  have HRP : Hid (∀ e w', ((∀ t fr to ps, edgeS (l, bw) = ((t, fr, to, ps), ([], false)) → edgeR id fr to t ps = true → ∃ x : Ed, e = .returned (.tuple #[x.cell, .int .i64 0]) ∧ x.Ok w' ∧ x.id = id ∧ x.t = t ∧ x.fr = fr ∧ x.to = to ∧ x.ps.map Pr.c = ps) ∧
      (((edgeS (l, bw)).2 ≠ ([], false) ∨ edgeR id (edgeS (l, bw)).1.2.1 (edgeS (l, bw)).1.2.2.1 (edgeS (l, bw)).1.1 (edgeS (l, bw)).1.2.2.2 = false) → e = .returned (.tuple #[.agg #[.int .i64 0, .string ⟨#[]⟩, .int .i64 0, .int .i64 0, .slice none 0 0], .int .i64 11])) ∧ Below w.heap.size w w') → RePost w l id e w') := Lib.hid fun e w' h => ⟨by rw [hbw]; exact h.1, by rw [hbw]; exact h.2.1, h.2.2⟩
  generalize txtS (l, bw) = X1 at *
  obtain ⟨t, sa⟩ := X1
  dsimp only at hl1 hl2 hl3 HT HX
  have HN1 : Hid (∀ w', RdC w' g sa → Calls Try.prog 34 #[.pointer (some ⟨g, 0, none⟩)] w' fun e w'' => e = .returned (.int .i64 (intS sa).1) ∧ RdC w'' g (intS sa).2 ∧ w'.grownBy w'' (some g)) := Lib.hid fun w' h => numbR_any h (by have := hl1.2; omega)
  generalize intS sa = X2 at *
  obtain ⟨fr, sb⟩ := X2
  dsimp only at hl2 hl3 HN1 HX
  have HN2 : Hid (∀ w', RdC w' g sb → Calls Try.prog 34 #[.pointer (some ⟨g, 0, none⟩)] w' fun e w'' => e = .returned (.int .i64 (intS sb).1) ∧ RdC w'' g (intS sb).2 ∧ w'.grownBy w'' (some g)) := Lib.hid fun w' h => numbR_any h (by have := hl1.2; have := hl2.2; omega)
  generalize intS sb = X3 at *
  obtain ⟨to, sc⟩ := X3
  dsimp only at hl3 HN2 HX
  have HPR : Hid (∀ w', RdC w' g sc → Calls Try.prog 30 #[.pointer (some ⟨g, 0, none⟩)] w' (PrPost w' g (recS sc).1 (recS sc).2)) := Lib.hid fun w' h => propsRd_any h (by have := hl1.2; have := hl2.2; have := hl3.2; omega)
  generalize recS sc = X4 at *
  obtain ⟨ps, sd⟩ := X4
  dsimp only at HPR HX
  have HTL : Hid (t.size ≤ 9223372036854775807) := Lib.hid (by have := hl1.1; omega)
  have HFR := Lib.hid hl2.1
  have HTO := Lib.hid hl3.1
  have hrs : w.heap.size ≠ g := by omega
  have hrg : w.heap.size < g := by omega
  clear hl hn hp hlo hlen hl1 hl2 hl3
  go_enter Try.func11, Try.ntmps11
  go_wp2_with fail
  rw [← hW, ← hgg]
  replace hW := Lib.hid hW
  replace hgg := Lib.hid hgg
  refine HT.out.mono ?_
  rintro e w1 ⟨rfl, hr1, hg1⟩
  have HR1 := Lib.hid hr1
  have HG1 := Lib.hid hg1
  clear hr1 hg1 HT
  go_wp2_with fail
  refine (HN1.out _ HR1.out).mono ?_
  rintro e w2 ⟨rfl, hr2, hg2⟩
  have HR2 := Lib.hid hr2
  have HG2 : Hid (W.grownBy w2 (some g)) := Lib.hid (gb_trans HG1.out hg2)
  clear hr2 hg2 HN1
  go_wp2_with fail
  refine (HN2.out _ HR2.out).mono ?_
  rintro e w3 ⟨rfl, hr3, hg3⟩
  have HR3 := Lib.hid hr3
  have HG3 : Hid (W.grownBy w3 (some g)) := Lib.hid (gb_trans HG2.out hg3)
  have hg3lt : g < w3.heap.size := hr3.lt
  have hw3 : w.heap.size < w3.heap.size := by omega
  clear hr3 hg3 HN2
  go_wp2_with fail
  refine (HPR.out _ (HR3.out.below ((Below.refl _ _).alloc (Nat.le_refl _) _) hg3lt)).mono ?_
  rintro e w4 ⟨v4, r4, rfl, ho4, hm4, hok4, hr4, hg4⟩
  obtain ⟨n4, hn4⟩ : ∃ n4, n4 = r4.length := ⟨_, rfl⟩
  obtain ⟨p4, c4, rfl, _⟩ := ho4.form hn4
  have HO4 := Lib.hid ho4
  have HM4 := Lib.hid hm4
  have HOK4 := Lib.hid hok4
  have HR4 := Lib.hid hr4
  have HG4 : Hid (W.grownBy w4 (some g)) := Lib.hid (gb_trans (gb_trans HG3.out (gb_below ((Below.refl _ _).alloc (Nat.le_refl _) _))) hg4)
  have HZ4 : Hid (w4.heap[w3.heap.size]? = some (.cells #[.int .i64 id, .string t, .int .i64 fr, .int .i64 to, .slice none 0 0] 27 (0, 0))) := Lib.hid (by
    rw [hg4.block w3.heap.size (by simp) (fun e => by have := Option.some.inj e; omega)]
    exact heap_alloc_new w3 _)
  have HY4 : Hid (w4.heap[w.heap.size]? = some (.cells #[.int .i64 0, .string ⟨#[]⟩, .int .i64 0, .int .i64 0, .slice none 0 0] 27 (0, 0))) := Lib.hid (by
    rw [HG4.out.block w.heap.size (by have := HWs.out; omega) (fun e => by have := Option.some.inj e; omega)]
    exact HK0.out)
  have hw4 : w3.heap.size < w4.heap.size := (Array.getElem?_eq_some_iff.1 HZ4.out).1
  have HN4 := Lib.hid hn4
  obtain ⟨⟨z0, j0⟩, ⟨z1, j1⟩, ⟨z2, j2⟩, ⟨z3, j3⟩, ⟨z4, j4⟩⟩ : _ ∧ _ ∧ _ ∧ _ ∧ _ := ⟨rd_at HZ4.out 0, rd_at HZ4.out 1, rd_at HZ4.out 2, rd_at HZ4.out 3, rd_at HZ4.out 4⟩
  simp only [List.getElem?_toArray, List.getElem?_cons_zero, List.getElem?_cons_succ] at z0 z1 z2 z3 z4
  clear ho4 hm4 hok4 hr4 hg4 HPR hn4
  obtain ⟨w5, hw5⟩ : ∃ w5, w5 = w4.setCell ⟨w3.heap.size, 4, none⟩ (.slice p4 n4 c4) := ⟨_, rfl⟩
  have HG5 : Hid (w4.grownBy w5 (some w3.heap.size)) := Lib.hid (by rw [hw5]; exact gb_set (gb_refl _ _) 4 _)
  have HL5 : Hid (Below w3.heap.size w4 w5) := Lib.hid (gb_low HG5.out (by omega))
  have HR5 := Lib.hid (HR4.out.below HL5.out hg3lt)
  have HZ5 : Hid (w5.heap[w3.heap.size]? = some (.cells #[.int .i64 id, .string t, .int .i64 fr, .int .i64 to, .slice p4 n4 c4] 27 (0, 0))) := Lib.hid (by rw [hw5]; simp [World.setCell, Array.getElem?_modify, HZ4.out])
  have HY5 : Hid (w5.heap[w.heap.size]? = some (.cells #[.int .i64 0, .string ⟨#[]⟩, .int .i64 0, .int .i64 0, .slice none 0 0] 27 (0, 0))) := Lib.hid (by rw [HL5.out.block _ (by omega)]; exact HY4.out)
  have hB5 : w3.heap.size < (w3.alloc (.cells #[.int .i64 id, .string t, .int .i64 fr, .int .i64 to, .slice none 0 0] 27)).heap.size := by simp
  have HO5 := Lib.hid (HO4.out.gb HG5.out hB5)
  have HOK5 : Hid (∀ x ∈ r4, x.Ok w5 ∧ x.From (w3.alloc (.cells #[.int .i64 id, .string t, .int .i64 fr, .int .i64 to, .slice none 0 0] 27)).heap.size) := Lib.hid fun x hx => ⟨pr_gb (HOK4.out x hx).1 (HOK4.out x hx).2 hB5 HG5.out, (HOK4.out x hx).2⟩
  have HBW5 : Hid (Below w.heap.size w w5) := Lib.hid (HWB.out.trans (((gb_low HG4.out (by have := HWs.out; have := hgg.out; omega)).mono (by omega)).trans (HL5.out.mono (by omega))))
  have hps : ∀ (v : World), POwn v (w3.alloc (.cells #[.int .i64 id, .string t, .int .i64 fr, .int .i64 to, .slice none 0 0] 27)).heap.size (.slice p4 n4 c4) r4 → (∀ x ∈ r4, x.Ok v) → PsOk v p4 n4 c4 r4 := fun v ho hk => by
    obtain ⟨p', c', hv, h⟩ := ho.form HN4.out
    simp only [Value.slice.injEq] at hv
    obtain ⟨rfl, _, rfl⟩ := hv
    exact h hk
  have HPS := Lib.hid hps
  clear hps
  have HED5 : Hid (Ed.Ok w5 ⟨id, t, fr, to, p4, n4, c4, r4⟩) := Lib.hid ⟨i1, i2, HTL.out, HFR.out.1, HFR.out.2, HTO.out.1, HTO.out.2, HPS.out _ HO5.out fun x hx => (HOK5.out x hx).1⟩
  have HDN := Lib.hid (done_any HR5.out)
  have HER : Hid (Calls Try.prog 32 #[.agg #[.int .i64 id, .string t, .int .i64 fr, .int .i64 to, .slice p4 n4 c4]] w5 fun e w' => e = .returned (.bool (edgeR id fr to t ps)) ∧ Below w5.heap.size w5 w') := Lib.hid (by
    have h := edgeRight_any _ HED5.out
    rw [HM4.out] at h
    exact h)
  go_wp2_with fail
  rw [← hw5]
  replace hw5 := Lib.hid hw5
  clear z0 z1 z2 z3 z4 j0 j1 j2 j3 j4
  obtain ⟨⟨z0, j0⟩, ⟨z1, j1⟩, ⟨z2, j2⟩, ⟨z3, j3⟩, ⟨z4, j4⟩⟩ : _ ∧ _ ∧ _ ∧ _ ∧ _ := ⟨rd_at HZ5.out 0, rd_at HZ5.out 1, rd_at HZ5.out 2, rd_at HZ5.out 3, rd_at HZ5.out 4⟩
  simp only [List.getElem?_toArray, List.getElem?_cons_zero, List.getElem?_cons_succ] at z0 z1 z2 z3 z4
  obtain ⟨⟨y0, g0⟩, ⟨y1, g1⟩, ⟨y2, g2⟩, ⟨y3, g3⟩, ⟨y4, g4⟩⟩ : _ ∧ _ ∧ _ ∧ _ ∧ _ := ⟨rd_at HY5.out 0, rd_at HY5.out 1, rd_at HY5.out 2, rd_at HY5.out 3, rd_at HY5.out 4⟩
  simp only [List.getElem?_toArray, List.getElem?_cons_zero, List.getElem?_cons_succ] at y0 y1 y2 y3 y4
  have hw35 : w3.heap.size < w5.heap.size := (Array.getElem?_eq_some_iff.1 HZ5.out).1
  refine HDN.out.mono ?_
  rintro e w' ⟨rfl, rfl⟩
  have hSD : (!sd.2 && sd.1.isEmpty) = true ↔ sd = ([], false) := by
    obtain ⟨a, b⟩ := sd
    cases b <;> cases a <;> simp
  have HSD := Lib.hid hSD
  clear hSD
  generalize (!sd.2 && sd.1.isEmpty) = dn at *
  obtain ⟨er, her⟩ : ∃ er, edgeR id fr to t ps = er := ⟨_, rfl⟩
  rw [her] at HER
  have HERE := Lib.hid her
  clear her
  cases dn
  · go_wp2
    refine bodyPost_ret (v := .tuple #[.agg #[.int .i64 0, .string ⟨#[]⟩, .int .i64 0, .int .i64 0, .slice none 0 0], .int .i64 11]) (by simp [results, Try.results11, go_sem, y0, y1, y2, y3, y4]) rfl (HRP.out _ _ ⟨fun t' fr' to' ps' he _ => absurd (HSD.out.2 (by rw [HX.out] at he; exact congrArg Prod.snd he)) (by simp), fun _ => rfl, ?_⟩)
    exact (((((HBW5.out.setCell (p := ⟨w.heap.size, 0, none⟩) (Nat.le_refl _) _).setCell (p := ⟨w.heap.size, 1, none⟩) (Nat.le_refl _) _).setCell (p := ⟨w.heap.size, 2, none⟩) (Nat.le_refl _) _).setCell (p := ⟨w.heap.size, 3, none⟩) (Nat.le_refl _) _).setCell (p := ⟨w.heap.size, 4, none⟩) (Nat.le_refl _) _)
  · have hsd := HSD.out.1 (by trivial)
    have HSD2 := Lib.hid hsd
    clear hsd HSD
    go_wp2_with fail
    refine HER.out.mono ?_
    rintro e w6 ⟨rfl, hb6⟩
    have HZ6 : Hid (w6.heap[w3.heap.size]? = some (.cells #[.int .i64 id, .string t, .int .i64 fr, .int .i64 to, .slice p4 n4 c4] 27 (0, 0))) := Lib.hid (by rw [hb6.block _ hw35]; exact HZ5.out)
    have HY6 : Hid (w6.heap[w.heap.size]? = some (.cells #[.int .i64 0, .string ⟨#[]⟩, .int .i64 0, .int .i64 0, .slice none 0 0] 27 (0, 0))) := Lib.hid (by rw [hb6.block _ (by omega)]; exact HY5.out)
    have HB6 := Lib.hid hb6
    have HBW6 : Hid (Below w.heap.size w w6) := Lib.hid (HBW5.out.trans (hb6.mono (by omega)))
    clear y0 y1 y2 y3 y4 g0 g1 g2 g3 g4 z0 z1 z2 z3 z4 j0 j1 j2 j3 j4
    obtain ⟨⟨z0, j0⟩, ⟨z1, j1⟩, ⟨z2, j2⟩, ⟨z3, j3⟩, ⟨z4, j4⟩⟩ : _ ∧ _ ∧ _ ∧ _ ∧ _ := ⟨rd_at HZ6.out 0, rd_at HZ6.out 1, rd_at HZ6.out 2, rd_at HZ6.out 3, rd_at HZ6.out 4⟩
    simp only [List.getElem?_toArray, List.getElem?_cons_zero, List.getElem?_cons_succ] at z0 z1 z2 z3 z4
    obtain ⟨⟨y0, g0⟩, ⟨y1, g1⟩, ⟨y2, g2⟩, ⟨y3, g3⟩, ⟨y4, g4⟩⟩ : _ ∧ _ ∧ _ ∧ _ ∧ _ := ⟨rd_at HY6.out 0, rd_at HY6.out 1, rd_at HY6.out 2, rd_at HY6.out 3, rd_at HY6.out 4⟩
    simp only [List.getElem?_toArray, List.getElem?_cons_zero, List.getElem?_cons_succ] at y0 y1 y2 y3 y4
    have hw36 : w3.heap.size < w6.heap.size := (Array.getElem?_eq_some_iff.1 HZ6.out).1
    have hw06 : w.heap.size < w6.heap.size := by omega
    clear hb6
    cases er
    · go_wp2
      refine bodyPost_ret (v := .tuple #[.agg #[.int .i64 0, .string ⟨#[]⟩, .int .i64 0, .int .i64 0, .slice none 0 0], .int .i64 11]) (by simp [results, Try.results11, go_sem, y0, y1, y2, y3, y4]) rfl (HRP.out _ _ ⟨fun t' fr' to' ps' he hr => ?_, fun _ => rfl, ?_⟩)
      · rw [HX.out] at he
        simp only [Prod.mk.injEq] at he
        obtain ⟨⟨rfl, rfl, rfl, rfl⟩, _⟩ := he
        rw [HERE.out] at hr
        cases hr
      · exact (((((HBW6.out.setCell (p := ⟨w.heap.size, 0, none⟩) (Nat.le_refl _) _).setCell (p := ⟨w.heap.size, 1, none⟩) (Nat.le_refl _) _).setCell (p := ⟨w.heap.size, 2, none⟩) (Nat.le_refl _) _).setCell (p := ⟨w.heap.size, 3, none⟩) (Nat.le_refl _) _).setCell (p := ⟨w.heap.size, 4, none⟩) (Nat.le_refl _) _)
    · go_wp2
      have hgs := fun v1 v2 v3 v4 v5 => gb_set (gb_set (gb_set (gb_set (gb_set (gb_refl w6 w.heap.size) 0 v1) 1 v2) 2 v3) 3 v4) 4 v5
      have hB6 : w.heap.size < (w3.alloc (.cells #[.int .i64 id, .string t, .int .i64 fr, .int .i64 to, .slice none 0 0] 27)).heap.size := by simp; omega
      refine bodyPost_ret (v := .tuple #[.agg #[.int .i64 id, .string t, .int .i64 fr, .int .i64 to, .slice p4 n4 c4], .int .i64 0]) (by simp [results, Try.results11, go_sem, y0, y1, y2, y3, y4]) rfl (HRP.out _ _ ⟨fun t' fr' to' ps' he hr => ?_, fun h => ?_, ?_⟩)
      · rw [HX.out] at he
        simp only [Prod.mk.injEq] at he
        obtain ⟨⟨rfl, rfl, rfl, rfl⟩, _⟩ := he
        refine ⟨⟨id, t, fr, to, p4, n4, c4, r4⟩, rfl, ⟨i1, i2, HTL.out, HFR.out.1, HFR.out.2, HTO.out.1, HTO.out.2, ?_⟩, rfl, rfl, rfl, rfl, HM4.out⟩
        exact HPS.out _ ((HO5.out.below HB6.out).gb (hgs _ _ _ _ _) hB6) fun x hx => pr_gb ((HOK5.out x hx).1.below HB6.out) (HOK5.out x hx).2 hB6 (hgs _ _ _ _ _)
      · exfalso
        rw [HX.out] at h
        dsimp only at h
        rw [HSD2.out, HERE.out] at h
        simp at h
      · exact (((((HBW6.out.setCell (p := ⟨w.heap.size, 0, none⟩) (Nat.le_refl _) _).setCell (p := ⟨w.heap.size, 1, none⟩) (Nat.le_refl _) _).setCell (p := ⟨w.heap.size, 2, none⟩) (Nat.le_refl _) _).setCell (p := ⟨w.heap.size, 3, none⟩) (Nat.le_refl _) _).setCell (p := ⟨w.heap.size, 4, none⟩) (Nat.le_refl _) _)

end Go.Proofs.Ytekaedafhiddeaa
