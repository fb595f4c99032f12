/-
  The reference's SameProps: its contract.
  The reference's SameNode, SameEdge, where they are the same: contracts for the walks.
-/
import Derived.Test.YtekaedafhiddeaaRMem
import Derived.Test.YtekaedafhiddeaaVSame
import Derived.Test.YtekaedafhiddeaaRRight
import Derived.Deep.QuietTactic
import Derived.BigQuiet
import Derived.Deep.RegionHeld3
set_option linter.unusedVariables false
set_option maxRecDepth 100000
namespace Go.Proofs.Ytekaedafhiddeaa
open Go.RowKit

def sameQ (p q : Pc) : Bool := eqS p.n q.n && sameV p.a p.l q.a q.l
def sameP (l r : List Pc) : Bool := decide (l.length = r.length) && (l.zip r).all fun x => sameQ x.1 x.2
theorem sameQ_iff (p q : Pc) : sameQ p q = true ↔ p = q := by
  obtain ⟨n, a, l⟩ := p
  obtain ⟨n', a', l'⟩ := q
  unfold sameQ
  rw [Bool.and_eq_true, eqS_iff, sameV_iff]
  simp only [Pc.mk.injEq]
theorem sameP_iff : ∀ (l r : List Pc), sameP l r = true ↔ l = r
  | [], [] => by simp [sameP]
  | [], b :: r => by simp [sameP]
  | a :: l, [] => by simp [sameP]
  | a :: l, b :: r => by
    have ih := sameP_iff l r
    unfold sameP at *
    rw [Bool.and_eq_true, decide_eq_true_eq] at *
    simp only [List.zip_cons_cons, List.all_cons, Bool.and_eq_true, List.length_cons, Nat.add_right_cancel_iff, sameQ_iff, List.cons.injEq]
    constructor
    · rintro ⟨h1, h2, h3⟩
      exact ⟨h2, ih.1 ⟨h1, h3⟩⟩
    · rintro ⟨h1, h2⟩
      have := ih.2 h2
      exact ⟨this.1, h1, this.2⟩
theorem sameP_self (l : List Pc) : sameP l l = true := (sameP_iff l l).2 rfl

set_option maxHeartbeats 6400000 in
theorem refSameProps_any {w : World} {q : Option Addr} {m c : Nat} {l : List Pr} (h : PsOk w q m c l) {q' : Option Addr} {m' c' : Nat} {r : List Pr} (h' : PsOk w q' m' c' r) :
    Calls Try.prog 17 #[.slice q m c, .slice q' m' c'] w fun e w' => e = .returned (.bool (sameP (l.map Pr.c) (r.map Pr.c))) ∧ Below w.heap.size w w' := by
  have hst := store_flt
  obtain ⟨hn, h1, h2, _, hl⟩ := h
  obtain ⟨hn', h1', h2', _, hr⟩ := h'
  have e : sameP (l.map Pr.c) (r.map Pr.c) = (decide (m = m') && ((l.map Pr.c).zip (r.map Pr.c)).all fun x => sameQ x.1 x.2) := by unfold sameP; rw [List.length_map, List.length_map, hn, hn']
  rw [e]
  clear e
  have HL := Lib.hid hl
  have HR := Lib.hid hr
  have HN := Lib.hid hn
  have HN' := Lib.hid hn'
  clear hl hr hn hn'
  by_cases hm : m = m'
  · subst hm
    have hm1 : ((m : Int) != (m : Int)) = false := by simp
    obtain ⟨g, hg⟩ : ∃ g, (((l.map Pr.c).zip (r.map Pr.c)).all fun x => sameQ x.1 x.2) = g := ⟨_, rfl⟩
    rw [hg]
    have HG := Lib.hid hg
    clear hg
    go_enter Try.func17, Try.ntmps17
    go_wp2
    go_loopw [5] (fun i wr => ∃ j : Nat, i = .int .i64 j ∧ j ≤ m ∧ Below w.heap.size w wr ∧ (((l.map Pr.c).zip (r.map Pr.c)).take j).all (fun x => sameQ x.1 x.2) = true) (fun i _ => m - (intOf i).toNat)
    case atStart => exact ⟨0, rfl, by omega, Below.refl _ _, rfl⟩
    case round =>
      obtain ⟨j, rfl, hj, hb, hany⟩ := hrel
      have HB := Lib.hid hb
      have HAN := Lib.hid hany
      clear hb hany
      by_cases hlt : j < m
      · have hjl : j < l.length := by have := HN.out; omega
        have hjr : j < r.length := by have := HN'.out; omega
        obtain ⟨x, hx⟩ : ∃ a, l[j]? = some a := ⟨_, List.getElem?_eq_getElem hjl⟩
        obtain ⟨y, hy⟩ : ∃ a, r[j]? = some a := ⟨_, List.getElem?_eq_getElem hjr⟩
        have hxm : (l.map Pr.c)[j]? = some x.c := by rw [List.getElem?_map, hx]; rfl
        have hym : (r.map Pr.c)[j]? = some y.c := by rw [List.getElem?_map, hy]; rfl
        obtain ⟨hox, b1, o1, rfl, hc⟩ := HL.out.at hx
        obtain ⟨hoy, b2, o2, rfl, hd⟩ := HR.out.at hy
        have hblt1 := (hc.below HB.out).lt
        have hblt2 := (hd.below HB.out).lt
        have HT := Lib.hid (all_zip_take (p := fun p => sameQ p.1 p.2) hxm hym)
        have HF := Lib.hid (fun h => all_zip_false (p := fun p => sameQ p.1 p.2) hxm hym h)
        have HQ : Hid (sameQ x.c y.c = (eqS x.n y.n && sameV x.v.a x.v.l y.v.a y.v.l)) := Lib.hid rfl
        have HS : Hid (∀ w', Below w.heap.size w w' → Calls Try.prog 45 #[.agg #[.int .i64 x.v.a.k, .int .i64 x.v.a.n, .float .f64 x.v.a.f, .string x.v.a.s, .slice x.v.q x.v.m x.v.c], .agg #[.int .i64 y.v.a.k, .int .i64 y.v.a.n, .float .f64 y.v.a.f, .string y.v.a.s, .slice y.v.q y.v.m y.v.c]] w' fun e w'' => e = .returned (.bool (sameV x.v.a x.v.l y.v.a y.v.l)) ∧ Below w.heap.size w w'') :=
          Lib.hid fun w' hb => (same_any (VaOk.below hox.v hb) (VaOk.below hoy.v hb)).mono fun e w'' h => ⟨h.1, hb.trans (h.2.mono hb.size)⟩
        have HCL : Hid (∀ w', Below w.heap.size w w' → (w'.cell? ⟨b1, o1 + j * 6, none⟩ = some (.string x.n) ∧ w'.cell? ⟨b1, o1 + j * 6 + 1, none⟩ = some (.int .i64 x.v.a.k) ∧ w'.cell? ⟨b1, o1 + j * 6 + 2, none⟩ = some (.int .i64 x.v.a.n) ∧ w'.cell? ⟨b1, o1 + j * 6 + 3, none⟩ = some (.float .f64 x.v.a.f) ∧ w'.cell? ⟨b1, o1 + j * 6 + 4, none⟩ = some (.string x.v.a.s) ∧ w'.cell? ⟨b1, o1 + j * 6 + 5, none⟩ = some (.slice x.v.q x.v.m x.v.c)) ∧
            (w'.cell? ⟨b2, o2 + j * 6, none⟩ = some (.string y.n) ∧ w'.cell? ⟨b2, o2 + j * 6 + 1, none⟩ = some (.int .i64 y.v.a.k) ∧ w'.cell? ⟨b2, o2 + j * 6 + 2, none⟩ = some (.int .i64 y.v.a.n) ∧ w'.cell? ⟨b2, o2 + j * 6 + 3, none⟩ = some (.float .f64 y.v.a.f) ∧ w'.cell? ⟨b2, o2 + j * 6 + 4, none⟩ = some (.string y.v.a.s) ∧ w'.cell? ⟨b2, o2 + j * 6 + 5, none⟩ = some (.slice y.v.q y.v.m y.v.c))) :=
          Lib.hid fun w' hb => by
            obtain ⟨c0, c1, c2, c3, c4, c5⟩ := hc.below hb
            obtain ⟨d0, d1, d2, d3, d4, d5⟩ := hd.below hb
            exact ⟨⟨c0, c1, c2, c3, c4, c5⟩, d0, d1, d2, d3, d4, d5⟩
        have heq : (x.n.toList == y.n.toList) = eqS x.n y.n := rfl
        have hne : (x.n.toList != y.n.toList) = !eqS x.n y.n := rfl
        have hj0 : (0 : Int) ≤ j := by omega
        have hj1 : (j : Int) < m := by omega
        clear hx hy hjl hjr hxm hym hox hoy hc hd
        simp only at HT HF
        generalize sameQ x.c y.c = sq at *
        generalize eqS x.n y.n = en at *
        generalize sameV x.v.a x.v.l y.v.a y.v.l = sv at *
        have hnot : ∀ (x : Bool) (w : World), (Op.unary .not (.bool x)).run Try.prog w = .ok (.bool (!x)) w := fun _ _ => rfl
        cases en
        · have HX : Hid (g = false) := Lib.hid (by rw [← HG.out]; exact HF.out (by rw [HQ.out]; rfl))
          obtain ⟨⟨c0, c1, c2, c3, c4, c5⟩, d0, d1, d2, d3, d4, d5⟩ := HCL.out _ HB.out
          go_wp2
          go_quiet (fail)
          go_wp2
          go_ret
          exact ⟨ret_bool (by rw [HX.out]; simp), belowN HB.out _⟩
        · go_wp2_with fail
          go_region_held3 (fun w' => (w'.cell? ⟨b1, o1 + j * 6, none⟩ = some (.string x.n) ∧ w'.cell? ⟨b1, o1 + j * 6 + 1, none⟩ = some (.int .i64 x.v.a.k) ∧ w'.cell? ⟨b1, o1 + j * 6 + 2, none⟩ = some (.int .i64 x.v.a.n) ∧ w'.cell? ⟨b1, o1 + j * 6 + 3, none⟩ = some (.float .f64 x.v.a.f) ∧ w'.cell? ⟨b1, o1 + j * 6 + 4, none⟩ = some (.string x.v.a.s) ∧ w'.cell? ⟨b1, o1 + j * 6 + 5, none⟩ = some (.slice x.v.q x.v.m x.v.c)) ∧
            (w'.cell? ⟨b2, o2 + j * 6, none⟩ = some (.string y.n) ∧ w'.cell? ⟨b2, o2 + j * 6 + 1, none⟩ = some (.int .i64 y.v.a.k) ∧ w'.cell? ⟨b2, o2 + j * 6 + 2, none⟩ = some (.int .i64 y.v.a.n) ∧ w'.cell? ⟨b2, o2 + j * 6 + 3, none⟩ = some (.float .f64 y.v.a.f) ∧ w'.cell? ⟨b2, o2 + j * 6 + 4, none⟩ = some (.string y.v.a.s) ∧ w'.cell? ⟨b2, o2 + j * 6 + 5, none⟩ = some (.slice y.v.q y.v.m y.v.c)))
            (first | exact HCL.out _ HB1.out | exact HCL.out _ HB.out.drew)
            ((go_at_call 45; refine (HS.out _ HB.out.drew).mono ?_; rintro e w1 ⟨rfl, hb1⟩; have HB1 := Lib.hid hb1; clear hb1))
          cases sv
          · have HX : Hid (g = false) := Lib.hid (by rw [← HG.out]; exact HF.out (by rw [HQ.out]; rfl))
            go_wp2
            go_ret
            exact ⟨ret_bool (by rw [HX.out]; simp), HB1.out⟩
          · go_wp2
            go_roundw
            case rel => exact ⟨j + 1, by go_num, by omega, HB1.out, by rw [HT.out, HAN.out, HQ.out]; rfl⟩
            case measure => simp [intOf]; omega
      · have h3 := HAN.out
        rw [List.take_of_length_le (by rw [List.length_zip, List.length_map, List.length_map]; have := HN.out; omega)] at h3
        have HX : Hid (g = true) := Lib.hid (by rw [← HG.out]; exact h3)
        clear h3
        go_wp2
        go_ret
        exact ⟨ret_bool (by rw [HX.out]; simp), HB.out⟩
  · have hm1 : ((m : Int) != (m' : Int)) = true := by simp; omega
    go_enter Try.func17, Try.ntmps17
    go_wp2
    go_ret
    exact ⟨ret_bool (by simp [hm]), Below.refl _ _⟩

end Go.Proofs.Ytekaedafhiddeaa

set_option linter.unusedVariables false
set_option maxRecDepth 100000
namespace Go.Proofs.Ytekaedafhiddeaa
open Go.RowKit

set_option maxHeartbeats 1600000 in
theorem sameEdge_yes {w : World} (x y : Ed) (hx : x.Ok w) (hy : y.Ok w) (h1 : x.id = y.id) (h2 : x.t = y.t) (h3 : x.fr = y.fr) (h4 : x.to = y.to) (h5 : x.ps.map Pr.c = y.ps.map Pr.c) :
    Calls Try.prog 12 #[x.cell, y.cell] w fun e w' => e = .returned (.bool true) ∧ Below w.heap.size w w' := by
  obtain ⟨id, t, fr, to, q, m, c, ps⟩ := x
  obtain ⟨id', t', fr', to', q', m', c', ps'⟩ := y
  dsimp only at h1 h2 h3 h4 h5
  subst h1 h2 h3 h4
  have HS : Hid (∀ w', Below w.heap.size w w' → Calls Try.prog 17 #[.slice q m c, .slice q' m' c'] w' fun e w'' => e = .returned (.bool true) ∧ Below w'.heap.size w' w'') := Lib.hid fun w' hb => by
    have h := refSameProps_any (hx.ps.below hb) (hy.ps.below hb)
    dsimp only at h
    rw [h5, sameP_self] at h
    exact h
  clear hx hy h5
  show Calls Try.prog _ #[.agg #[.int .i64 id, .string t, .int .i64 fr, .int .i64 to, .slice q m c], .agg #[.int .i64 id, .string t, .int .i64 fr, .int .i64 to, .slice q' m' c']] w _
  go_enter Try.func12, Try.ntmps12
  go_wp2_with fail
  refine (HS.out _ (box2_below (Below.refl _ _))).mono ?_
  rintro e w1 ⟨rfl, hb1⟩
  have HB1 := Lib.hid (box2_below hb1)
  clear hb1
  go_wp2
  go_ret
  exact ⟨rfl, HB1.out⟩

set_option maxHeartbeats 1600000 in
theorem sameNode_yes {w : World} (x y : Nd) (hx : x.Ok w) (hy : y.Ok w) (h1 : x.id = y.id) (h2 : x.ls = y.ls) (h5 : x.ps.map Pr.c = y.ps.map Pr.c) :
    Calls Try.prog 9 #[x.cell, y.cell] w fun e w' => e = .returned (.bool true) ∧ Below w.heap.size w w' := by
  obtain ⟨id, q, m, c, ls, p, n, d, ps⟩ := x
  obtain ⟨id', q', m', c', ls', p', n', d', ps'⟩ := y
  dsimp only at h1 h2 h5
  subst h1 h2
  have HS : Hid (∀ w', Below w.heap.size w w' → Calls Try.prog 17 #[.slice p n d, .slice p' n' d'] w' fun e w'' => e = .returned (.bool true) ∧ Below w'.heap.size w' w'') := Lib.hid fun w' hb => by
    have h := refSameProps_any (hx.ps.below hb) (hy.ps.below hb)
    dsimp only at h
    rw [h5, sameP_self] at h
    exact h
  have HX := Lib.hid hx.ls
  have HY := Lib.hid hy.ls
  dsimp only at HX HY
  have hmm : m' = m := by rw [HX.out.hn, HY.out.hn]
  subst hmm
  have g1 := HX.out.h1
  have g2 := HX.out.h2
  have g3 := HY.out.h1
  have g4 := HY.out.h2
  clear hx hy h5
  obtain ⟨W, hW⟩ : ∃ W, W = (w.alloc (.cells #[.int .i64 id, .slice q m' c, .slice p n d] 25)).alloc (.cells #[.int .i64 id, .slice q' m' c', .slice p' n' d'] 25) := ⟨_, rfl⟩
  have HK : Hid (∀ w', Below W.heap.size W w' → (w'.cell? ⟨w.heap.size, 0, none⟩ = some (.int .i64 id) ∧ w'.cell? ⟨w.heap.size, 1, none⟩ = some (.slice q m' c) ∧ w'.cell? ⟨w.heap.size, 2, none⟩ = some (.slice p n d)) ∧
      w'.cell? ⟨w.heap.size + 1, 0, none⟩ = some (.int .i64 id) ∧ w'.cell? ⟨w.heap.size + 1, 1, none⟩ = some (.slice q' m' c') ∧ w'.cell? ⟨w.heap.size + 1, 2, none⟩ = some (.slice p' n' d')) := by
    refine Lib.hid fun w' hb => ?_
    rw [hW] at hb
    have h1 := fun i => (box2_cell hb i).1
    have h2 := fun i => (box2_cell hb i).2
    exact ⟨⟨h1 0, h1 1, h1 2⟩, h2 0, h2 1, h2 2⟩
  have HWB : Hid (∀ w', Below W.heap.size W w' → Below w.heap.size w w') := by
    refine Lib.hid fun w' hb => ?_
    rw [hW] at hb
    exact box2_below hb
  have HWs : Hid (W.heap.size = w.heap.size + 2) := Lib.hid (by rw [hW]; simp)
  have hmne : ((m' : Int) != (m' : Int)) = false := by simp
  have hidne : (id != id) = false := by simp
  show Calls Try.prog _ #[.agg #[.int .i64 id, .slice q m' c, .slice p n d], .agg #[.int .i64 id, .slice q' m' c', .slice p' n' d']] w _
  go_enter Try.func9, Try.ntmps9
  go_wp2_with fail
  go_loopw [5] (fun i wr => ∃ j : Nat, i = .int .i64 j ∧ j ≤ m' ∧ Below W.heap.size W wr) (fun i _ => m' - (intOf i).toNat)
  case atStart => exact ⟨0, rfl, by omega, by rw [hW]; exact Below.refl _ _⟩
  case round =>
    replace hW := Lib.hid hW
    obtain ⟨j, rfl, hj, hb⟩ := hrel
    have HB := Lib.hid hb
    obtain ⟨⟨k0, k1, k2⟩, k3, k4, k5⟩ := HK.out _ hb
    have hw1 : w.heap.size + 1 < wr.heap.size := by have := HWs.out; have := hb.size; omega
    clear hb
    by_cases hlt : j < m'
    · obtain ⟨s, hs⟩ : ∃ s, ls[j]? = some s := ⟨_, List.getElem?_eq_getElem (by have := HX.out.hn; omega)⟩
      obtain ⟨b, o, rfl, hblt, c0⟩ := (HX.out.hl.below (HWB.out _ HB.out)).at hs
      obtain ⟨b', o', rfl, hblt', c0'⟩ := (HY.out.hl.below (HWB.out _ HB.out)).at hs
      have hne : (s.toList != s.toList) = false := by simp
      have hj0 : (0 : Int) ≤ j := by omega
      have hj1 : (j : Int) < m' := by omega
      clear hs
      go_wp2
      go_quiet (fail)
      go_wp2
      go_roundw
      case rel => exact ⟨j + 1, by go_num, by omega, belowN HB.out _⟩
      case measure => simp [intOf]; omega
    · go_wp2_with fail
      refine (HS.out _ (HWB.out _ HB.out)).mono ?_
      rintro e w1 ⟨rfl, hb1⟩
      have HB1 := Lib.hid ((HWB.out _ HB.out).trans (hb1.mono (HWB.out _ HB.out).size))
      clear hb1
      go_wp2
      go_ret
      exact ⟨rfl, HB1.out⟩

end Go.Proofs.Ytekaedafhiddeaa

