/-
  record.apart, appendProps: contracts for the walks.
-/
import Derived.Test.YtekaedafhiddeaaRMem
import Derived.Test.YtekaedafhiddeaaBlk
import Derived.Deep.RegionHeld3
set_option linter.unusedVariables false
set_option maxRecDepth 100000
namespace Go.Proofs.Ytekaedafhiddeaa
open Go.RowKit

theorem AOwn.none_zero {w : World} {B : Nat} {q : Option Addr} {m c : Nat} {l : List At} (h : AOwn w B (.slice q m c) l) : q = none → c = 0 := by
  intro hq
  rcases h.2 with ⟨h0, _⟩ | ⟨g, cap, cur, hv, _⟩
  · simp only [Value.slice.injEq] at h0
    exact h0.2.2
  · simp only [Value.slice.injEq] at hv
    rw [hq] at hv
    cases hv.1
theorem AOwn.len {w : World} {B : Nat} {q : Option Addr} {m c : Nat} {l : List At} (h : AOwn w B (.slice q m c) l) : m = l.length ∧ m ≤ c ∧ c ≤ 9223372036854775807 ∧ As w q l := by
  obtain ⟨p', c', hv, h1, h2, h3⟩ := h.form rfl
  simp only [Value.slice.injEq] at hv
  obtain ⟨rfl, rfl, rfl⟩ := hv
  exact ⟨rfl, h1, h2, h3⟩

/-- A value whose list lies in new memory. -/
def ApPost (w : World) (a : At) (l : List At) (e : Ending) (w' : World) : Prop :=
  ∃ q m c, e = .returned (.agg #[.int .i64 a.k, .int .i64 a.n, .float .f64 a.f, .string a.s, .slice q m c]) ∧ AOwn w' w.heap.size (.slice q m c) l ∧ Below w.heap.size w w'

set_option maxHeartbeats 3200000 in
theorem apartV_any {w : World} {k n : Int} {f : Nat} {s : ByteArray} {q : Option Addr} {m c : Nat} {l : List At} (h : VaOk w ⟨k, n, f, s⟩ q m c l) (hz : q = none → c = 0) (hlen : l.length ≤ 100000) :
    Calls Try.prog 37 #[.agg #[.int .i64 k, .int .i64 n, .float .f64 f, .string s, .slice q m c]] w (ApPost w ⟨k, n, f, s⟩ l) := by
  have hst := store_flt
  have HL := Lib.hid h.hl
  have HN := Lib.hid h.hn
  have HZ := Lib.hid hz
  have h1 := h.h1
  have h2 := h.h2
  clear h hz
  go_enter Try.func37, Try.ntmps37
  go_wp2_with (at_builtin; refine app_atoms rfl (.const (.slice none 0 0)) (.tmp 4) rfl rfl (AOwn.nil _ (w.heap.size + 2)) HN.out rfl (HL.out.below (box2_below (Below.refl _ _))) HZ.out (by simp; omega) (by simp) ?_; intro v3 w3 ho3 hb3; have HB3 : Hid (Below w.heap.size w w3) := Lib.hid ((box2_below (Below.refl _ _)).trans (hb3.mono (by omega))); have HK0 : Hid (Blk w3 w.heap.size #[.int .i64 k, .int .i64 n, .float .f64 f, .string s, .slice q m c]) := Lib.hid (((Blk.new w _ rfl).alloc _).below hb3 (by omega)); have HK1 : Hid (Blk w3 (w.heap.size + 1) #[.int .i64 0, .int .i64 0, .float .f64 0, .string ⟨#[]⟩, .slice none 0 0]) := Lib.hid ((Blk.new _ _ (by simp)).below hb3 (by omega)); rw [List.nil_append] at ho3; obtain ⟨p3, c3, rfl, _, _, _⟩ := ho3.form HN.out; have HO3 := Lib.hid ho3; clear ho3 hb3; obtain ⟨⟨x0, f0⟩, ⟨x1, f1⟩, ⟨x2, f2⟩, ⟨x3, f3⟩, ⟨x4, f4⟩⟩ : _ ∧ _ ∧ _ ∧ _ ∧ _ := ⟨HK0.out.at 0, HK0.out.at 1, HK0.out.at 2, HK0.out.at 3, HK0.out.at 4⟩; simp only [List.getElem?_toArray, List.getElem?_cons_zero, List.getElem?_cons_succ] at x0 x1 x2 x3 x4; obtain ⟨⟨y0, g0⟩, ⟨y1, g1⟩, ⟨y2, g2⟩, ⟨y3, g3⟩, ⟨y4, g4⟩⟩ : _ ∧ _ ∧ _ ∧ _ ∧ _ := ⟨HK1.out.at 0, HK1.out.at 1, HK1.out.at 2, HK1.out.at 3, HK1.out.at 4⟩; simp only [List.getElem?_toArray, List.getElem?_cons_zero, List.getElem?_cons_succ] at y0 y1 y2 y3 y4; have hl3 : w.heap.size + 1 < w3.heap.size := HK1.out.lt)
  refine bodyPost_ret (v := .agg #[.int .i64 k, .int .i64 n, .float .f64 f, .string s, .slice p3 m c3]) (by simp [results, Try.results37, go_sem, y0, y1, y2, y3, y4]) rfl ⟨p3, m, c3, rfl, ?_, ?_⟩
  · exact ((((((HO3.out.far (p := ⟨w.heap.size, 4, none⟩) (by simp) _).far (p := ⟨w.heap.size + 1, 0, none⟩) (by simp) _).far (p := ⟨w.heap.size + 1, 1, none⟩) (by simp) _).far (p := ⟨w.heap.size + 1, 2, none⟩) (by simp) _).far (p := ⟨w.heap.size + 1, 3, none⟩) (by simp) _).far (p := ⟨w.heap.size + 1, 4, none⟩) (by simp) _).le (by omega)
  · exact ((((((HB3.out.setCell (Nat.le_refl _) _).setCell (by simp) _).setCell (by simp) _).setCell (by simp) _).setCell (by simp) _).setCell (by simp) _)

theorem app_apart {a b c d : List Pr} (h1 : a.map Pr.c = b.map Pr.c) : (c ++ a).map Pr.c = c.map Pr.c ++ b.map Pr.c := by rw [List.map_append, h1]

set_option maxHeartbeats 6400000 in
theorem appendProps_any {w : World} {B : Nat} {v : Value} {o : List Pr} (hown : POwn w B v o) (hB : B ≤ w.heap.size) (ho : ∀ x ∈ o, x.Ok w ∧ x.Apart v) (hol : o.length ≤ 1000) {q : Option Addr} {m c : Nat} {l : List Pr} (hlen : ∀ x ∈ l, x.v.l.length ≤ 100000) (hm : m ≤ 1000)
    (hq : ∀ w', Below B w w' → PsOk w' q m c l) :
    Calls Try.prog 43 #[v, .slice q m c] w fun e w' => ∃ v' r, e = .returned v' ∧ POwn w' B v' (o ++ r) ∧ r.map Pr.c = l.map Pr.c ∧ (∀ x ∈ o ++ r, x.Ok w' ∧ x.Apart v') ∧ Below B w w' := by
  have hst := store_flt
  have h := hq w (Below.refl _ _)
  obtain ⟨n0, hn0⟩ : ∃ n, n = o.length := ⟨_, rfl⟩
  obtain ⟨p0, c0, rfl, _⟩ := hown.form hn0
  have HO := Lib.hid hown
  have HA := Lib.hid ho
  have HQ := Lib.hid hq
  have HN := Lib.hid h.hn
  have HLEN := Lib.hid hlen
  have HOL := Lib.hid hol
  have h1 := h.h1
  have h2 := h.h2
  clear h hown ho hq hn0 hlen hol
  go_enter Try.func43, Try.ntmps43
  go_wp2
  go_loopw [0, 9] (fun v i wr => ∃ (j : Nat) (r : List Pr), i = .int .i64 j ∧ j ≤ m ∧ POwn wr B v (o ++ r) ∧ r.map Pr.c = (l.map Pr.c).take j ∧ (∀ x ∈ o ++ r, x.Ok wr ∧ x.Apart v) ∧ Below B w wr) (fun _ i _ => m - (intOf i).toNat)
  case atStart => exact ⟨0, [], rfl, by omega, by rw [List.append_nil]; exact HO.out, rfl, by rw [List.append_nil]; exact HA.out, Below.refl _ _⟩
  case round =>
    obtain ⟨j, r, rfl, hj, hown, hmap, hok, hb⟩ := hrel
    have HOW := Lib.hid hown
    have HM := Lib.hid hmap
    have HOK := Lib.hid hok
    have HB := Lib.hid hb
    clear hown hmap hok hb
    by_cases hlt : j < m
    · have hjl : j < l.length := by have := HN.out; omega
      obtain ⟨x, hx⟩ : ∃ x, l[j]? = some x := ⟨_, List.getElem?_eq_getElem hjl⟩
      have hxm : (l.map Pr.c)[j]? = some x.c := by rw [List.getElem?_map, hx]; rfl
      obtain ⟨hxok, b0, o0, rfl, hc⟩ := (HQ.out wr HB.out).hl.at hx
      obtain ⟨c0, c1, c2, c3, c4, c5⟩ := hc
      have hblt := PrCells.lt ⟨c0, c1, c2, c3, c4, c5⟩
      have HXL : Hid (x.v.l.length ≤ 100000) := Lib.hid (HLEN.out x (List.mem_of_getElem? hx))
      have HXOK := Lib.hid hxok
      have HT : Hid ((l.map Pr.c).take (j + 1) = (l.map Pr.c).take j ++ [x.c]) := Lib.hid (by
        obtain ⟨hj, h⟩ := List.getElem?_eq_some_iff.1 hxm
        rw [List.take_succ_eq_append_getElem hj, h])
      have HRL : Hid ((o ++ r).length ≤ 2000) := Lib.hid (by
        have h := congrArg List.length HM.out
        rw [List.length_map, List.length_take] at h
        have := HOL.out
        rw [List.length_append]
        omega)
      clear hx hjl hxok hxm
      obtain ⟨W, hW⟩ : ∃ W, W = wr.alloc (.cells #[.string x.n, .int .i64 x.v.a.k, .int .i64 x.v.a.n, .float .f64 x.v.a.f, .string x.v.a.s, .slice x.v.q x.v.m x.v.c] 48) := ⟨_, rfl⟩
      have HWR : Hid (Below wr.heap.size wr W) := Lib.hid (by rw [hW]; exact (Below.refl _ _).alloc (Nat.le_refl _) _)
      have HWs : Hid (W.heap.size = wr.heap.size + 1) := Lib.hid (by rw [hW]; simp)
      have HBX : Hid (∀ i : Nat, W.cell? ⟨wr.heap.size, i, none⟩ = #[Value.string x.n, .int .i64 x.v.a.k, .int .i64 x.v.a.n, .float .f64 x.v.a.f, .string x.v.a.s, .slice x.v.q x.v.m x.v.c][i]?) := Lib.hid (by rw [hW]; intro i; exact Joins.cell_of_block (heap_alloc_new wr _) i)
      have HCL : Hid (∀ w', Below W.heap.size W w' → w'.cell? ⟨wr.heap.size, 0, none⟩ = some (.string x.n) ∧ w'.cell? ⟨wr.heap.size, 1, none⟩ = some (.int .i64 x.v.a.k) ∧ w'.cell? ⟨wr.heap.size, 2, none⟩ = some (.int .i64 x.v.a.n) ∧ w'.cell? ⟨wr.heap.size, 3, none⟩ = some (.float .f64 x.v.a.f) ∧ w'.cell? ⟨wr.heap.size, 4, none⟩ = some (.string x.v.a.s) ∧ w'.cell? ⟨wr.heap.size, 5, none⟩ = some (.slice x.v.q x.v.m x.v.c)) := Lib.hid fun w' hb => by
        have h : ∀ i, w'.cell? ⟨wr.heap.size, i, none⟩ = W.cell? ⟨wr.heap.size, i, none⟩ := fun i => hb.cell (by show wr.heap.size < W.heap.size; have := HWs.out; omega)
        simp only [h, HBX.out]
        exact ⟨rfl, rfl, rfl, rfl, rfl, rfl⟩
      have HGR : Hid (∀ w' w'', Below W.heap.size W w' → w'.grownBy w'' u0.ownBlock → w''.cell? ⟨wr.heap.size, 0, none⟩ = some (.string x.n) ∧ w''.cell? ⟨wr.heap.size, 1, none⟩ = some (.int .i64 x.v.a.k) ∧ w''.cell? ⟨wr.heap.size, 2, none⟩ = some (.int .i64 x.v.a.n) ∧ w''.cell? ⟨wr.heap.size, 3, none⟩ = some (.float .f64 x.v.a.f) ∧ w''.cell? ⟨wr.heap.size, 4, none⟩ = some (.string x.v.a.s) ∧ w''.cell? ⟨wr.heap.size, 5, none⟩ = some (.slice x.v.q x.v.m x.v.c)) := Lib.hid fun w' w'' hb hg => by
        have h : ∀ i, w''.cell? ⟨wr.heap.size, i, none⟩ = w'.cell? ⟨wr.heap.size, i, none⟩ := fun i => kept_cellP HOW.out hg (Nat.le_refl _) (by have := HWs.out; have := hb.size; omega) i
        simp only [h]
        exact HCL.out w' hb
      have HAP : Hid (Calls Try.prog 37 #[.agg #[.int .i64 x.v.a.k, .int .i64 x.v.a.n, .float .f64 x.v.a.f, .string x.v.a.s, .slice x.v.q x.v.m x.v.c]] W.drew (ApPost W.drew x.v.a x.v.l)) := Lib.hid (apartV_any (VaOk.below HXOK.out.v (HWR.out.drew)) HXOK.out.z HXL.out)
      have hw0 : wr.heap.size < W.heap.size := by have := HWs.out; omega
      obtain ⟨k0, k1, k2, k3, k4, k5⟩ := HCL.out _ (Below.refl _ _)
      go_wp2_with fail
      rw [← hW]
      replace hW := Lib.hid hW
      clear c0 c1 c2 c3 c4 c5
      have HZ : Hid (Below W.heap.size W W.drew) := Lib.hid (Below.refl _ _).drew
      have HOW' : Hid (∀ w', Below W.heap.size W w' → POwn w' B u0 (o ++ r)) := Lib.hid fun w' hb => HOW.out.below (HWR.out.trans (hb.mono HWR.out.size))
      have HOK' : Hid (∀ w', Below W.heap.size W w' → ∀ y ∈ o ++ r, y.Ok w' ∧ y.Apart u0) := Lib.hid fun w' hb y hy => ⟨(HOK.out y hy).1.below (HWR.out.trans (hb.mono HWR.out.size)), (HOK.out y hy).2⟩
      have HLT : Hid (∀ k, u0.ownBlock = some k → k < wr.heap.size) := Lib.hid fun k hk => (World.ownsRow.lt HOW.out k hk).2
      go_region_held3 (fun w' => w'.cell? ⟨wr.heap.size, 0, none⟩ = some (.string x.n) ∧ w'.cell? ⟨wr.heap.size, 1, none⟩ = some (.int .i64 x.v.a.k) ∧ w'.cell? ⟨wr.heap.size, 2, none⟩ = some (.int .i64 x.v.a.n) ∧ w'.cell? ⟨wr.heap.size, 3, none⟩ = some (.float .f64 x.v.a.f) ∧ w'.cell? ⟨wr.heap.size, 4, none⟩ = some (.string x.v.a.s) ∧ w'.cell? ⟨wr.heap.size, 5, none⟩ = some (.slice x.v.q x.v.m x.v.c))
        (first | exact HG3.out | exact HCL.out _ HZ.out | exact HCL.out _ HB2.out | exact HCL.out _ (HB2.out.alloc HB2.out.size _))
        (first
          | (go_at_call 37; refine HAP.out.mono ?_; rintro e w2 ⟨q2, m2, d2, rfl, ho2, hb2⟩; have HB2 : Hid (Below W.heap.size W w2) := Lib.hid (HZ.out.trans (hb2.mono HZ.out.size)); obtain ⟨e2, g1, g2, hs2⟩ := ho2.len; have HNEW : Hid (Pr.Ok w2 ⟨x.n, ⟨x.v.a, q2, m2, d2, x.v.l⟩⟩ ∧ Pr.Apart ⟨x.n, ⟨x.v.a, q2, m2, d2, x.v.l⟩⟩ u0) := Lib.hid ⟨⟨HXOK.out.n, ⟨HXOK.out.v.ok, e2, g1, g2, hs2, HXOK.out.v.hok⟩, ho2.none_zero⟩, fun k hk _ a ha => by have h1 := HLT.out k hk; dsimp only at ha; subst ha; have h2 := (World.ownsRow.lt ho2 a.block rfl).1; have := HWs.out; have h3 : W.heap.size ≤ a.block := h2; omega⟩; clear ho2 hb2 e2 hs2)
          | (refine step_prop rfl (.tmp 13) (.tmp 20) rfl ⟨x.n, ⟨x.v.a, q2, m2, d2, x.v.l⟩⟩ rfl (HOW'.out _ (HB2.out.alloc HB2.out.size _)) rfl rfl (pr_src rfl _ _) (by have := HRL.out; omega) (by have := HB.out.size; have := HWs.out; have := HB2.out.size; simp; omega) ?_; intro v3 w3 ho3 hb3 hk3 hg3; have HO3 := Lib.hid ho3; have HG3 := Lib.hid (HGR.out _ _ (HB2.out.alloc HB2.out.size _) hg3); have HB3 : Hid (Below B w w3) := Lib.hid (((HB.out.trans (HWR.out.mono (by have := HB.out.size; omega))).trans ((HB2.out.alloc HB2.out.size _).mono (by have := HB.out.size; have := HWR.out.size; omega))).trans hb3); have HOK3 : Hid (∀ y ∈ o ++ (r ++ [⟨x.n, ⟨x.v.a, q2, m2, d2, x.v.l⟩⟩]), y.Ok w3 ∧ y.Apart v3) := Lib.hid (fun y hy => by rw [← List.append_assoc] at hy; rcases List.mem_append.1 hy with h | h; exact hk3 y (HOK'.out _ (HB2.out.alloc HB2.out.size _) y h).1 (HOK'.out _ HB2.out y h).2; obtain rfl := List.mem_singleton.1 h; exact hk3 _ (HNEW.out.1.below ((Below.refl _ _).alloc (Nat.le_refl _) _)) HNEW.out.2); clear ho3 hb3 hk3 hg3))
      go_wp2
      go_roundw
      case rel => exact ⟨j + 1, r ++ [⟨x.n, ⟨x.v.a, q2, m2, d2, x.v.l⟩⟩], by go_num, by omega, by rw [← List.append_assoc]; exact HO3.out, by rw [List.map_append, HM.out, HT.out]; rfl, HOK3.out, HB3.out⟩
      case measure => simp [intOf]; omega
    · have hjt : (l.map Pr.c).take j = l.map Pr.c := List.take_of_length_le (by rw [List.length_map]; have := HN.out; omega)
      have HM2 : Hid (r.map Pr.c = l.map Pr.c) := Lib.hid (by rw [HM.out, hjt])
      clear hjt HM
      go_wp2
      go_ret
      exact ⟨_, r, rfl, HOW.out, HM2.out, HOK.out, HB.out⟩

end Go.Proofs.Ytekaedafhiddeaa
