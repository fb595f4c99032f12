/-
  The reference's Get and Set of layer 5: contracts for the walks.
-/
import Derived.Test.YtekaedafhiddeaaRGet
import Derived.Test.YtekaedafhiddeaaRSetS
import Derived.Test.YtekaedafhiddeaaRSame
import Derived.Test.YtekaedafhiddeaaRRightR
set_option linter.unusedVariables false
set_option maxRecDepth 100000
namespace Go.Proofs.Ytekaedafhiddeaa
open Go.RowKit

/-- What Get of both sides tells: a value that lies there, and whether it is one. -/
def G2 (w : World) (a : At) (l : List At) (b : Bool) (e : Ending) (w' : World) : Prop :=
  ∃ q m c, e = .returned (.tuple #[.agg #[.int .i64 a.k, .int .i64 a.n, .float .f64 a.f, .string a.s, .slice q m c], .bool b]) ∧ VaOk w' a q m c l ∧ (q = none → c = 0) ∧ Below w.heap.size w w'

theorem at0_ok : (⟨0, 0, 0, ⟨#[]⟩⟩ : At).Ok := ⟨by decide, by decide, by decide, by decide, by decide, by decide⟩

set_option maxHeartbeats 3200000 in
theorem refGet_any {w : World} {q : Option Addr} {m c : Nat} {l : List Pr} (h : PsOk w q m c l) (s : ByteArray) :
    Calls Try.prog 14 #[.slice q m c, .string s] w fun e w' => (getP (l.map Pr.c) s = none → G2 w ⟨0, 0, 0, ⟨#[]⟩⟩ [] false e w') ∧ ∀ x, getP (l.map Pr.c) s = some x → G2 w x.a x.l true e w' := by
  have hst := store_flt
  rw [find_map]
  obtain ⟨hn, h1, h2, _, hl⟩ := h
  have HN := Lib.hid hn
  have HL := Lib.hid hl
  clear hn hl
  obtain ⟨W, hW⟩ : ∃ W, W = w.alloc (.cells #[.int .i64 0, .int .i64 0, .float .f64 0, .string ⟨#[]⟩, .slice none 0 0] 46) := ⟨_, rfl⟩
  have HWB : Hid (Below w.heap.size w W) := Lib.hid (by rw [hW]; exact (Below.refl _ _).alloc (Nat.le_refl _) _)
  have HWs : Hid (W.heap.size = w.heap.size + 1) := Lib.hid (by rw [hW]; simp)
  have HK1 : Hid (∀ w', Below W.heap.size W w' → Blk w' w.heap.size #[.int .i64 0, .int .i64 0, .float .f64 0, .string ⟨#[]⟩, .slice none 0 0]) := by
    refine Lib.hid fun w' hb => ?_
    rw [hW] at hb
    exact (Blk.new _ _ rfl).below hb (by simp)
  go_enter Try.func14, Try.ntmps14
  go_wp2
  rw [← hW]
  replace hW := Lib.hid hW
  go_loopw [6] (fun i wr => ∃ j : Nat, i = .int .i64 j ∧ j ≤ m ∧ Below W.heap.size W wr ∧ (l.find? fun p => eqS p.n s) = (l.drop j).find? fun p => eqS p.n s) (fun i _ => m - (intOf i).toNat)
  case atStart => exact ⟨0, rfl, by omega, Below.refl _ _, rfl⟩
  case round =>
    obtain ⟨j, rfl, hj, hb, hfind⟩ := hrel
    have HB := Lib.hid hb
    have HF := Lib.hid hfind
    have HBW : Hid (Below w.heap.size w wr) := Lib.hid (HWB.out.trans (hb.mono HWB.out.size))
    have hw1 : w.heap.size < wr.heap.size := by have := HWs.out; have := hb.size; omega
    clear hb hfind
    by_cases hlt : j < m
    · have hjl : j < l.length := by have := HN.out; omega
      obtain ⟨x, hx⟩ : ∃ x, l[j]? = some x := ⟨_, List.getElem?_eq_getElem hjl⟩
      obtain ⟨hok, b, o, rfl, hc⟩ := HL.out.at hx
      obtain ⟨c0, c1, c2, c3, c4, c5⟩ := hc.below HBW.out
      have hblt := (hc.below HBW.out).lt
      have HT : Hid ((l.find? fun p => eqS p.n s) = if eqS x.n s = true then some x else (l.drop (j + 1)).find? fun p => eqS p.n s) := Lib.hid (by
        rw [HF.out, drop_get hx, List.find?_cons]
        cases eqS x.n s <;> rfl)
      have HOK := Lib.hid hok
      have heq : (x.n.toList == s.toList) = eqS x.n s := rfl
      clear hx hjl hok hc HF
      by_cases hy : eqS x.n s = true
      · rw [hy] at heq HT
        have HT2 : Hid ((l.find? fun p => eqS p.n s) = some x) := Lib.hid (by rw [HT.out, if_pos rfl])
        obtain ⟨⟨y0, g0⟩, ⟨y1, g1⟩, ⟨y2, g2⟩, ⟨y3, g3⟩, ⟨y4, g4⟩⟩ : _ ∧ _ ∧ _ ∧ _ ∧ _ := ⟨(HK1.out _ HB.out).at 0, (HK1.out _ HB.out).at 1, (HK1.out _ HB.out).at 2, (HK1.out _ HB.out).at 3, (HK1.out _ HB.out).at 4⟩
        simp only [List.getElem?_toArray, List.getElem?_cons_zero, List.getElem?_cons_succ] at y0 y1 y2 y3 y4
        clear HT hy
        go_wp2
        refine bodyPost_ret (v := .tuple #[.agg #[.int .i64 x.v.a.k, .int .i64 x.v.a.n, .float .f64 x.v.a.f, .string x.v.a.s, .slice x.v.q x.v.m x.v.c], .bool true]) (by simp [results, Try.results14, go_sem, y0, y1, y2, y3, y4]) rfl ⟨(fun h => (by rw [HT2.out] at h; cases h)), fun z hz => ?_⟩
        rw [HT2.out] at hz
        obtain rfl := Option.some.inj hz
        have hbb := (((((HBW.out.setCell (p := ⟨w.heap.size, 0, none⟩) (Nat.le_refl _) (.int .i64 x.v.a.k)).setCell (p := ⟨w.heap.size, 1, none⟩) (Nat.le_refl _) (.int .i64 x.v.a.n)).setCell (p := ⟨w.heap.size, 2, none⟩) (Nat.le_refl _) (.float .f64 x.v.a.f)).setCell (p := ⟨w.heap.size, 3, none⟩) (Nat.le_refl _) (.string x.v.a.s)).setCell (p := ⟨w.heap.size, 4, none⟩) (Nat.le_refl _) (.slice x.v.q x.v.m x.v.c))
        exact ⟨_, _, _, rfl, HOK.out.v.below hbb, HOK.out.z, hbb⟩
      · have hy' : eqS x.n s = false := by simpa using hy
        rw [hy'] at heq HT
        have HT2 : Hid ((l.find? fun p => eqS p.n s) = (l.drop (j + 1)).find? fun p => eqS p.n s) := Lib.hid (by rw [HT.out, if_neg (by simp)])
        clear HT hy hy'
        go_wp2
        go_roundw
        case rel => exact ⟨j + 1, by go_num, by omega, HB.out, HT2.out⟩
        case measure => simp [intOf]; omega
    · have hjl : l.drop j = [] := List.drop_eq_nil_of_le (by have := HN.out; omega)
      have HT2 : Hid ((l.find? fun p => eqS p.n s) = none) := Lib.hid (by rw [HF.out, hjl]; rfl)
      obtain ⟨⟨y0, g0⟩, ⟨y1, g1⟩, ⟨y2, g2⟩, ⟨y3, g3⟩, ⟨y4, g4⟩⟩ : _ ∧ _ ∧ _ ∧ _ ∧ _ := ⟨(HK1.out _ HB.out).at 0, (HK1.out _ HB.out).at 1, (HK1.out _ HB.out).at 2, (HK1.out _ HB.out).at 3, (HK1.out _ HB.out).at 4⟩
      simp only [List.getElem?_toArray, List.getElem?_cons_zero, List.getElem?_cons_succ] at y0 y1 y2 y3 y4
      clear hjl
      go_wp2
      refine bodyPost_ret (v := .tuple #[.agg #[.int .i64 0, .int .i64 0, .float .f64 0, .string ⟨#[]⟩, .slice none 0 0], .bool false]) (by simp [results, Try.results14, go_sem, y0, y1, y2, y3, y4]) rfl ⟨fun _ => ?_, fun z hz => by rw [HT2.out] at hz; cases hz⟩
      refine ⟨_, _, _, rfl, ⟨at0_ok, rfl, Nat.le_refl _, by omega, As.nil _ _, fun a h => by cases h⟩, fun _ => rfl, ?_⟩
      exact (((((HBW.out.setCell (Nat.le_refl _) _).setCell (Nat.le_refl _) _).setCell (Nat.le_refl _) _).setCell (Nat.le_refl _) _).setCell (Nat.le_refl _) _)

/-- The reference's Set so far. -/
def RsI (w W wr : World) (l : List Pr) (X : Pc) (p0 b : Bool) (j : Nat) (v : Value) : Prop := ∃ r : List Pr, POwn wr W.heap.size v r ∧ r.map Pr.c ++ refS X b ((l.map Pr.c).drop j) = refS X p0 (l.map Pr.c) ∧ r.length ≤ 2 * j ∧ (∀ y ∈ r, y.Ok w) ∧ Below W.heap.size W wr
theorem refS_cons {X : Pc} {b : Bool} {l : List Pr} {j : Nat} {x : Pr} (hx : l[j]? = some x) : refS X b ((l.map Pr.c).drop j) = (if b = false ∧ geS x.n X.n = true then [X] else []) ++ ((if eqS x.n X.n = true then [] else [x.c]) ++ refS X (b || geS x.n X.n) ((l.map Pr.c).drop (j + 1))) := by
  have h : (l.map Pr.c)[j]? = some x.c := by rw [List.getElem?_map, hx]; rfl
  rw [drop_get h, refS]
  rfl
theorem setR_bad {l : List Pc} {X : Pc} (h : setOk l X = false) : setR l X = ([], 2) := by unfold setR; rw [h]; rfl
theorem se_bad {w w' : World} {x : List Pc × Int} {z : Int} (hx : x = ([], z)) (hb : Below w.heap.size w w') : SePost w x (.returned (.tuple #[.slice none 0 0, .int .i64 z])) w' := by
  subst hx
  exact ⟨none, 0, 0, [], rfl, ⟨rfl, Nat.le_refl _, by omega, fun _ => rfl, Ps.nil _ _⟩, rfl, hb⟩

set_option maxHeartbeats 12800000 in
theorem refSet_any {w : World} {q : Option Addr} {m c : Nat} {l : List Pr} (h : PsOk w q m c l) (hm1000 : m ≤ 1000) (nm : ByteArray) (hs : nm.size ≤ 9223372036854775807)
    {k n : Int} {f : Nat} {s : ByteArray} {q' : Option Addr} {m' c' : Nat} {l' : List At} (hv : VaOk w ⟨k, n, f, s⟩ q' m' c' l') (hz : q' = none → c' = 0) :
    Calls Try.prog 16 #[.slice q m c, .string nm, .agg #[.int .i64 k, .int .i64 n, .float .f64 f, .string s, .slice q' m' c']] w (SePost w (setR (l.map Pr.c) ⟨nm, ⟨k, n, f, s⟩, l'⟩)) := by
  have hst := store_flt
  obtain ⟨W, hW⟩ : ∃ W, W = w.alloc (.cells #[.int .i64 k, .int .i64 n, .float .f64 f, .string s, .slice q' m' c'] 46) := ⟨_, rfl⟩
  have HK : Hid (∀ w', Below W.heap.size W w' → (w'.cell? ⟨w.heap.size, 0, none⟩ = some (.int .i64 k) ∧ w'.cell? ⟨w.heap.size, 1, none⟩ = some (.int .i64 n) ∧ w'.cell? ⟨w.heap.size, 2, none⟩ = some (.float .f64 f) ∧ w'.cell? ⟨w.heap.size, 3, none⟩ = some (.string s) ∧ w'.cell? ⟨w.heap.size, 4, none⟩ = some (.slice q' m' c')) ∧ w.heap.size < w'.heap.size) := by
    refine Lib.hid fun w' hb => ?_
    have hsz := hb.size
    rw [hW] at hb
    have h1 := box_all hb
    exact ⟨⟨h1 0, h1 1, h1 2, h1 3, h1 4⟩, by rw [hW] at hsz; simp at hsz; omega⟩
  have HWB : Hid (∀ w', Below W.heap.size W w' → Below w.heap.size w w') := by
    refine Lib.hid fun w' hb => ?_
    rw [hW] at hb
    exact box_below hb
  have HNM : Hid (∀ w', Calls Try.prog 19 #[.string nm] w' fun e w'' => e = .returned (.bool (nameOk nm)) ∧ w' = w'') := Lib.hid fun w' => refName_any nm hs
  have HVL : Hid (∀ w', Below w.heap.size w w' → Calls Try.prog 21 #[.agg #[.int .i64 k, .int .i64 n, .float .f64 f, .string s, .slice q' m' c']] w' fun e w'' => e = .returned (.bool (validV ⟨k, n, f, s⟩ l')) ∧ Below w'.heap.size w' w'') := Lib.hid fun w' hb => refValid_any (hv.below hb)
  have HPR : Hid (∀ w', Below w.heap.size w w' → Calls Try.prog 44 #[.slice q m c] w' fun e w'' => e = .returned (.bool (propsR (l.map Pr.c))) ∧ Below w'.heap.size w' w'') := Lib.hid fun w' hb => refProps_any (h.below hb)
  have HRI : Hid (propsR (l.map Pr.c) = true → Right (l.map Pr.c)) := Lib.hid fun h => (propsR_iff _).1 h
  obtain ⟨X, hX⟩ : ∃ X : Pc, X = ⟨nm, ⟨k, n, f, s⟩, l'⟩ := ⟨_, rfl⟩
  obtain ⟨np, hnp⟩ : ∃ np : Pr, np = ⟨nm, ⟨⟨k, n, f, s⟩, q', m', c', l'⟩⟩ := ⟨_, rfl⟩
  have HNP : Hid (np.c = X ∧ np.Ok w) := Lib.hid (by subst hnp hX; exact ⟨rfl, hs, hv, hz⟩)
  have HSRC : Hid (∀ (w' : World) j y, (prCells [np])[j]? = some y → (w'.alloc (.cells #[.string nm, .int .i64 k, .int .i64 n, .float .f64 f, .string s, .slice q' m' c'] 48)).cell? ((⟨w'.heap.size, 0, none⟩ : Addr).add j) = some y) := Lib.hid (by subst hnp; exact fun w' => pr_src rfl ⟨nm, ⟨⟨k, n, f, s⟩, q', m', c', l'⟩⟩ _)
  have HXN : Hid (X.n = nm ∧ X.a.k = k) := Lib.hid (by subst hX; exact ⟨rfl, rfl⟩)
  have HE : Hid (setOk (l.map Pr.c) X = (nameOk nm && (validV ⟨k, n, f, s⟩ l' && propsR (l.map Pr.c)))) := Lib.hid (by subst hX; rfl)
  rw [← hX]
  have HN := Lib.hid h.hn
  have HL := Lib.hid h.hl
  have h1 := h.h1
  have h2 := h.h2
  clear h hs hv hz hX hnp
  generalize validV ⟨k, n, f, s⟩ l' = vb at *
  generalize nameOk nm = nb at *
  obtain ⟨pb, hpb⟩ : ∃ pb, pb = propsR (l.map Pr.c) := ⟨_, rfl⟩
  rw [← hpb] at HPR HRI HE
  clear hpb
  cases nb
  · have HE1 : Hid (setOk (l.map Pr.c) X = false) := Lib.hid (by rw [HE.out]; rfl)
    go_enter Try.func16, Try.ntmps16
    go_wp2_with fail
    rw [← hW]
    replace hW := Lib.hid hW
    with_reducible refine (HNM.out _).mono ?_
    rintro e w1 ⟨rfl, rfl⟩
    go_wp2
    exact bodyPost_ret (v := .tuple #[.slice none 0 0, .int .i64 2]) (by simp [results, Try.results16, go_sem]) rfl (se_bad (setR_bad HE1.out) (HWB.out _ (Below.refl _ _)))
  cases vb
  · have HE1 : Hid (setOk (l.map Pr.c) X = false) := Lib.hid (by rw [HE.out]; rfl)
    go_enter Try.func16, Try.ntmps16
    go_wp2_with fail
    rw [← hW]
    replace hW := Lib.hid hW
    with_reducible refine (HNM.out _).mono ?_
    rintro e w1 ⟨rfl, rfl⟩
    obtain ⟨⟨a0, a1, a2, a3, a4⟩, a5⟩ := HK.out W (Below.refl _ _)
    go_wp2_with fail
    with_reducible refine (HVL.out _ (HWB.out _ (Below.refl _ _))).mono ?_
    rintro e w1 ⟨rfl, hb1⟩
    have HB1 : Hid (Below W.heap.size W w1) := Lib.hid hb1
    clear hb1
    go_wp2
    exact bodyPost_ret (v := .tuple #[.slice none 0 0, .int .i64 2]) (by simp [results, Try.results16, go_sem]) rfl (se_bad (setR_bad HE1.out) (HWB.out _ HB1.out))
  cases pb
  · have HE1 : Hid (setOk (l.map Pr.c) X = false) := Lib.hid (by rw [HE.out]; rfl)
    go_enter Try.func16, Try.ntmps16
    go_wp2_with fail
    rw [← hW]
    replace hW := Lib.hid hW
    with_reducible refine (HNM.out _).mono ?_
    rintro e w1 ⟨rfl, rfl⟩
    obtain ⟨⟨a0, a1, a2, a3, a4⟩, a5⟩ := HK.out W (Below.refl _ _)
    go_wp2_with fail
    with_reducible refine (HVL.out _ (HWB.out _ (Below.refl _ _))).mono ?_
    rintro e w1 ⟨rfl, hb1⟩
    have HB1 : Hid (Below W.heap.size W w1) := Lib.hid hb1
    clear hb1
    go_wp2_with fail
    with_reducible refine (HPR.out _ (HWB.out _ HB1.out)).mono ?_
    rintro e w2 ⟨rfl, hb2⟩
    have HB2 : Hid (Below W.heap.size W w2) := Lib.hid (HB1.out.trans (hb2.mono HB1.out.size))
    clear hb2 a0 a1 a2 a3 a4 a5
    go_wp2
    exact bodyPost_ret (v := .tuple #[.slice none 0 0, .int .i64 2]) (by simp [results, Try.results16, go_sem]) rfl (se_bad (setR_bad HE1.out) (HWB.out _ HB2.out))
  have HE1 : Hid (setR (l.map Pr.c) X = if (setP (l.map Pr.c) X).length ≤ 16 then (setP (l.map Pr.c) X, 0) else ([], 15)) := Lib.hid (by unfold setR; rw [HE.out]; rfl)
  have HFIN : Hid (refS X (k == 0) (l.map Pr.c) = setP (l.map Pr.c) X) := Lib.hid (by have := refS_eq X (HRI.out rfl).inc; rw [HXN.out.2] at this; exact this)
  go_enter Try.func16, Try.ntmps16
  go_wp2_with fail
  rw [← hW]
  replace hW := Lib.hid hW
  with_reducible refine (HNM.out _).mono ?_
  rintro e w1 ⟨rfl, rfl⟩
  obtain ⟨⟨a0, a1, a2, a3, a4⟩, a5⟩ := HK.out W (Below.refl _ _)
  go_wp2_with fail
  with_reducible refine (HVL.out _ (HWB.out _ (Below.refl _ _))).mono ?_
  rintro e w1 ⟨rfl, hb1⟩
  have HB1 : Hid (Below W.heap.size W w1) := Lib.hid hb1
  clear hb1
  go_wp2_with fail
  with_reducible refine (HPR.out _ (HWB.out _ HB1.out)).mono ?_
  rintro e w2 ⟨rfl, hb2⟩
  have HB2 : Hid (Below W.heap.size W w2) := Lib.hid (HB1.out.trans (hb2.mono HB1.out.size))
  clear hb2 a0 a1 a2 a3 a4 a5
  obtain ⟨⟨a0, a1, a2, a3, a4⟩, a5⟩ := HK.out w2 HB2.out
  go_wp2
  go_loopw [8, 9, 10] (fun v pt i wr => ∃ (j : Nat) (b : Bool), i = .int .i64 j ∧ pt = .bool b ∧ j ≤ m ∧ RsI w W wr l X (k == 0) b j v) (fun _ _ i _ => m - (intOf i).toNat)
  case atStart => exact ⟨0, _, rfl, rfl, by omega, [], POwn.nil _ _, rfl, by simp, (fun y hy => by cases hy), HB2.out⟩
  case round =>
    clear a0 a1 a2 a3 a4 a5
    obtain ⟨j, b, rfl, rfl, hj, r, hown, hrs, hrl, hrok, hb⟩ := hrel
    have HO := Lib.hid hown
    have HRS := Lib.hid hrs
    have HRL := Lib.hid hrl
    have HRO := Lib.hid hrok
    have HB := Lib.hid hb
    obtain ⟨⟨a0, a1, a2, a3, a4⟩, a5⟩ := HK.out wr hb
    clear hown hrs hrl hrok hb
    by_cases hlt : j < m
    · have hjl : j < l.length := by have := HN.out; omega
      obtain ⟨x, hx⟩ : ∃ x, l[j]? = some x := ⟨_, List.getElem?_eq_getElem hjl⟩
      obtain ⟨hok, bk, o, rfl, hc⟩ := HL.out.at hx
      have HC := Lib.hid (fun w' (hb : Below W.heap.size W w') => hc.below (HWB.out _ hb))
      have HCC : Hid (∀ w', Below W.heap.size W w' → ((w'.cell? ⟨bk, o + j * 6, none⟩ = some (.string x.n) ∧ w'.cell? ⟨bk, o + j * 6 + 1, none⟩ = some (.int .i64 x.v.a.k) ∧ w'.cell? ⟨bk, o + j * 6 + 2, none⟩ = some (.int .i64 x.v.a.n)) ∧ (w'.cell? ⟨bk, o + j * 6 + 3, none⟩ = some (.float .f64 x.v.a.f) ∧ w'.cell? ⟨bk, o + j * 6 + 4, none⟩ = some (.string x.v.a.s) ∧ w'.cell? ⟨bk, o + j * 6 + 5, none⟩ = some (.slice x.v.q x.v.m x.v.c)) ∧ bk < w'.heap.size)) := Lib.hid fun w' hb => ⟨⟨(HC.out w' hb).n, (HC.out w' hb).v, (HC.out w' hb).m⟩, ⟨(HC.out w' hb).f, (HC.out w' hb).s, (HC.out w' hb).l⟩, (HC.out w' hb).lt⟩
      have HCS : Hid (refS X b ((l.map Pr.c).drop j) = (if b = false ∧ geS x.n nm = true then [X] else []) ++ ((if eqS x.n nm = true then [] else [x.c]) ++ refS X (b || geS x.n nm) ((l.map Pr.c).drop (j + 1)))) := Lib.hid (by have := refS_cons (X := X) (b := b) hx; rw [HXN.out.1] at this; exact this)
      have HXO := Lib.hid hok
      have HSX : Hid (∀ (w' : World) j y, (prCells [x])[j]? = some y → (w'.alloc (.cells #[.string x.n, .int .i64 x.v.a.k, .int .i64 x.v.a.n, .float .f64 x.v.a.f, .string x.v.a.s, .slice x.v.q x.v.m x.v.c] 48)).cell? ((⟨w'.heap.size, 0, none⟩ : Addr).add j) = some y) := Lib.hid (fun w' => pr_src rfl x _)
      have hge : (!Op.bytesLess x.n.toList nm.toList) = geS x.n nm := rfl
      have heq : (x.n.toList == nm.toList) = eqS x.n nm := rfl
      obtain ⟨⟨c0, c1, c2⟩, ⟨c3, c4, c5⟩, hblt⟩ := HCC.out wr HB.out
      clear hx hjl hok hc HC
      generalize geS x.n nm = ge at *
      generalize eqS x.n nm = eq at *
      cases b
      · cases ge
        · cases eq
          · go_wp2_with (at_builtin; refine app_prop rfl (.tmp 58) (.tmp 63) rfl x rfl (HO.out.below ((Below.refl _ _).alloc (Nat.le_refl _) _)) rfl rfl (HSX.out wr) (by have := HRL.out; omega) (by have := HB.out.size; simp; omega) ?_; intro v5 w5 ho hb hx; have HO5 := Lib.hid ho; have HB5 : Hid (Below W.heap.size W w5) := Lib.hid ((HB.out.alloc HB.out.size _).trans hb); clear ho hb hx)
            go_roundw
            case rel => exact ⟨j + 1, false, by go_num, rfl, by omega, r ++ [x], HO5.out, (by rw [← HRS.out, HCS.out]; simp), (by have := HRL.out; simp; omega), (fun y hy => by
                simp only [List.mem_append, List.mem_singleton] at hy
                rcases hy with hy | rfl
                · exact HRO.out y hy
                · exact HXO.out), HB5.out⟩
            case measure => simp [intOf]; omega
          · go_wp2
            go_roundw
            case rel => exact ⟨j + 1, false, by go_num, rfl, by omega, r, HO.out, (by rw [← HRS.out, HCS.out]; simp), (by have := HRL.out; simp; omega), (HRO.out), HB.out⟩
            case measure => simp [intOf]; omega
        · cases eq
          · go_wp2_with (first
              | (at_builtin; refine app_prop rfl (.tmp 45) (.tmp 49) rfl np rfl (HO.out.below ((Below.refl _ _).alloc (Nat.le_refl _) _)) rfl rfl (HSRC.out wr) (by have := HRL.out; omega) (by have := HB.out.size; simp; omega) ?_; intro v4 w4 ho hb hx; have HO4 := Lib.hid ho; have HB4 : Hid (Below W.heap.size W w4) := Lib.hid ((HB.out.alloc HB.out.size _).trans hb); clear ho hb hx; obtain ⟨⟨d0, d1, d2⟩, ⟨d3, d4, d5⟩, hblt2⟩ := HCC.out w4 HB4.out)
              | (at_builtin; refine app_prop rfl (.tmp 58) (.tmp 63) rfl x rfl (HO4.out.below ((Below.refl _ _).alloc (Nat.le_refl _) _)) rfl rfl (HSX.out w4) (by have := HRL.out; simp; omega) (by have := HB4.out.size; simp; omega) ?_; intro v5 w5 ho hb hx; have HO5 := Lib.hid ho; have HB5 : Hid (Below W.heap.size W w5) := Lib.hid ((HB4.out.alloc HB4.out.size _).trans hb); clear ho hb hx))
            go_roundw
            case rel => exact ⟨j + 1, true, by go_num, rfl, by omega, r ++ [np] ++ [x], HO5.out, (by rw [← HRS.out, HCS.out]; simp [HNP.out.1]), (by have := HRL.out; simp; omega), (fun y hy => by
                simp only [List.mem_append, List.mem_singleton] at hy
                rcases hy with (hy | rfl) | rfl
                · exact HRO.out y hy
                · exact HNP.out.2
                · exact HXO.out), HB5.out⟩
            case measure => simp [intOf]; omega
          · go_wp2_with (at_builtin; refine app_prop rfl (.tmp 45) (.tmp 49) rfl np rfl (HO.out.below ((Below.refl _ _).alloc (Nat.le_refl _) _)) rfl rfl (HSRC.out wr) (by have := HRL.out; omega) (by have := HB.out.size; simp; omega) ?_; intro v4 w4 ho hb hx; have HO4 := Lib.hid ho; have HB4 : Hid (Below W.heap.size W w4) := Lib.hid ((HB.out.alloc HB.out.size _).trans hb); clear ho hb hx; obtain ⟨⟨d0, d1, d2⟩, ⟨d3, d4, d5⟩, hblt2⟩ := HCC.out w4 HB4.out)
            go_roundw
            case rel => exact ⟨j + 1, true, by go_num, rfl, by omega, r ++ [np], HO4.out, (by rw [← HRS.out, HCS.out]; simp [HNP.out.1]), (by have := HRL.out; simp; omega), (fun y hy => by
                simp only [List.mem_append, List.mem_singleton] at hy
                rcases hy with hy | rfl
                · exact HRO.out y hy
                · exact HNP.out.2), HB4.out⟩
            case measure => simp [intOf]; omega
      · cases eq
        · go_wp2_with (at_builtin; refine app_prop rfl (.tmp 58) (.tmp 63) rfl x rfl (HO.out.below ((Below.refl _ _).alloc (Nat.le_refl _) _)) rfl rfl (HSX.out wr) (by have := HRL.out; omega) (by have := HB.out.size; simp; omega) ?_; intro v5 w5 ho hb hx; have HO5 := Lib.hid ho; have HB5 : Hid (Below W.heap.size W w5) := Lib.hid ((HB.out.alloc HB.out.size _).trans hb); clear ho hb hx)
          go_roundw
          case rel => exact ⟨j + 1, true, by go_num, rfl, by omega, r ++ [x], HO5.out, (by rw [← HRS.out, HCS.out]; simp), (by have := HRL.out; simp; omega), (fun y hy => by
              simp only [List.mem_append, List.mem_singleton] at hy
              rcases hy with hy | rfl
              · exact HRO.out y hy
              · exact HXO.out), HB5.out⟩
          case measure => simp [intOf]; omega
        · go_wp2
          go_roundw
          case rel => exact ⟨j + 1, true, by go_num, rfl, by omega, r, HO.out, (by rw [← HRS.out, HCS.out]; simp), (by have := HRL.out; simp; omega), (HRO.out), HB.out⟩
          case measure => simp [intOf]; omega
    · have hjm : j = m := by omega
      subst hjm
      have hdr : (l.map Pr.c).drop j = [] := List.drop_eq_nil_of_le (by rw [List.length_map]; have := HN.out; omega)
      rw [hdr] at HRS
      have HRS2 : Hid (r.map Pr.c ++ (if b = true then [] else [X]) = setP (l.map Pr.c) X) := Lib.hid (by rw [← HFIN.out, ← HRS.out]; cases b <;> rfl)
      clear HRS hdr
      cases b
      · have HRM : Hid ((r ++ [np]).map Pr.c = setP (l.map Pr.c) X) := Lib.hid (by rw [← HRS2.out, List.map_append, List.map_singleton, HNP.out.1]; rfl)
        obtain ⟨N, hN⟩ : ∃ N, N = (r ++ [np]).length := ⟨_, rfl⟩
        have HNS : Hid (N = (setP (l.map Pr.c) X).length) := Lib.hid (by rw [← HRM.out, List.length_map, hN])
        replace hN := Lib.hid hN
        have HMEM : Hid (∀ w', Below W.heap.size W w' → ∀ y ∈ r ++ [np], y.Ok w') := Lib.hid (fun w' hb y hy => by
          rcases List.mem_append.1 hy with hy | hy
          · exact (HRO.out y hy).below (HWB.out _ hb)
          · rw [List.mem_singleton.1 hy]; exact HNP.out.2.below (HWB.out _ hb))
        by_cases h16 : N ≤ 16
        · have HE2 : Hid (setR (l.map Pr.c) X = (setP (l.map Pr.c) X, 0)) := Lib.hid (by rw [HE1.out, if_pos (by have := HNS.out; omega)])
          go_wp2_with (at_builtin; refine app_prop rfl (.tmp 67) (.tmp 71) rfl np rfl (HO.out.below ((Below.refl _ _).alloc (Nat.le_refl _) _)) rfl rfl (HSRC.out wr) (by have := HRL.out; omega) (by have := HB.out.size; simp; omega) ?_; intro v5 w5 ho hb hx; have HO5 := Lib.hid ho; have HB5 : Hid (Below W.heap.size W w5) := Lib.hid ((HB.out.alloc HB.out.size _).trans hb); clear ho hb hx; obtain ⟨p5, d5, rfl, hps⟩ := HO5.out.form hN.out; have HPS := Lib.hid (hps (HMEM.out _ HB5.out)); clear hps)
          refine bodyPost_ret (v := .tuple #[.slice p5 N d5, .int .i64 0]) (by simp [results, Try.results16, go_sem]) rfl ?_
          rw [HE2.out]
          exact ⟨p5, N, d5, r ++ [np], rfl, HPS.out, HRM.out, HWB.out _ HB5.out⟩
        · have HE2 : Hid (setR (l.map Pr.c) X = ([], 15)) := Lib.hid (by rw [HE1.out, if_neg (by have := HNS.out; omega)])
          go_wp2_with (at_builtin; refine app_prop rfl (.tmp 67) (.tmp 71) rfl np rfl (HO.out.below ((Below.refl _ _).alloc (Nat.le_refl _) _)) rfl rfl (HSRC.out wr) (by have := HRL.out; omega) (by have := HB.out.size; simp; omega) ?_; intro v5 w5 ho hb hx; have HO5 := Lib.hid ho; have HB5 : Hid (Below W.heap.size W w5) := Lib.hid ((HB.out.alloc HB.out.size _).trans hb); clear ho hb hx; obtain ⟨p5, d5, rfl, hps⟩ := HO5.out.form hN.out; have HPS := Lib.hid (hps (HMEM.out _ HB5.out)); clear hps)
          exact bodyPost_ret (v := .tuple #[.slice none 0 0, .int .i64 15]) (by simp [results, Try.results16, go_sem]) rfl (se_bad HE2.out (HWB.out _ HB5.out))
      · obtain ⟨N, hN⟩ : ∃ N, N = r.length := ⟨_, rfl⟩
        obtain ⟨p5, d5, rfl, hps⟩ := HO.out.form hN
        have HRM : Hid (r.map Pr.c = setP (l.map Pr.c) X) := Lib.hid (by rw [← HRS2.out, if_pos rfl, List.append_nil])
        have HPS := Lib.hid (hps fun y hy => (HRO.out y hy).below (HWB.out _ HB.out))
        have HNS : Hid (N = (setP (l.map Pr.c) X).length) := Lib.hid (by rw [← HRM.out, List.length_map, hN])
        clear hps hN
        by_cases h16 : N ≤ 16
        · have HE2 : Hid (setR (l.map Pr.c) X = (setP (l.map Pr.c) X, 0)) := Lib.hid (by rw [HE1.out, if_pos (by have := HNS.out; omega)])
          go_wp2
          refine bodyPost_ret (v := .tuple #[.slice p5 N d5, .int .i64 0]) (by simp [results, Try.results16, go_sem]) rfl ?_
          rw [HE2.out]
          exact ⟨p5, N, d5, r, rfl, HPS.out, HRM.out, HWB.out _ HB.out⟩
        · have HE2 : Hid (setR (l.map Pr.c) X = ([], 15)) := Lib.hid (by rw [HE1.out, if_neg (by have := HNS.out; omega)])
          go_wp2
          exact bodyPost_ret (v := .tuple #[.slice none 0 0, .int .i64 15]) (by simp [results, Try.results16, go_sem]) rfl (se_bad HE2.out (HWB.out _ HB.out))

end Go.Proofs.Ytekaedafhiddeaa
