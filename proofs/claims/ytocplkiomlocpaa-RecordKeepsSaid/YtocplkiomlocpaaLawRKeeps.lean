/-
  The law RecordKeeps returns true: the walk.
-/
import Derived.Test.YtocplkiomlocpaaRGet
import Derived.Test.YtocplkiomlocpaaRSetS
import Derived.Test.YtocplkiomlocpaaRSame
import Derived.Test.YtocplkiomlocpaaRRightR
import Derived.Test.YtocplkiomlocpaaRFew
set_option linter.unusedVariables false
set_option maxRecDepth 100000
namespace Go.Proofs.Ytocplkiomlocpaa
open Go.RowKit

theorem ss_oneK {w : World} {g : Nat} (hg : g = w.heap.size) (t : TypeId) (s : ByteArray) (hs : s.size ≤ 9223372036854775807) : SsOk (w.alloc (.cells #[.string s] t)) (some ⟨g, 0, none⟩) 1 1 [s] := by
  subst hg
  refine ⟨rfl, Nat.le_refl _, by omega, fun _ => ⟨w.heap.size, 0, rfl, fun i x hi => ?_⟩, fun x hx => by obtain rfl := List.mem_singleton.1 hx; exact hs⟩
  match i, hi with
  | 0, hi =>
    obtain rfl : s = x := by simpa using hi
    exact Joins.cell_of_block (heap_alloc_new w _) 0
  | i + 1, hi => simp at hi
theorem ps_one {w : World} {g : Nat} (hg : g = w.heap.size) (t : TypeId) {u : Pr} (hu : u.Ok w) : PsOk (w.alloc (.cells #[.string u.n, .int .i64 u.v.a.k, .int .i64 u.v.a.n, .float .f64 u.v.a.f, .string u.v.a.s, .slice u.v.q u.v.m u.v.c] t)) (some ⟨g, 0, none⟩) 1 1 [u] := by
  subst hg
  have hb : Below w.heap.size w (w.alloc (.cells #[.string u.n, .int .i64 u.v.a.k, .int .i64 u.v.a.n, .float .f64 u.v.a.f, .string u.v.a.s, .slice u.v.q u.v.m u.v.c] t)) := (Below.refl _ _).alloc (Nat.le_refl _) _
  have hc := fun i => Joins.cell_of_block (heap_alloc_new w (.cells #[.string u.n, .int .i64 u.v.a.k, .int .i64 u.v.a.n, .float .f64 u.v.a.f, .string u.v.a.s, .slice u.v.q u.v.m u.v.c] t)) i
  refine ⟨rfl, Nat.le_refl _, by omega, (fun h => by cases h), ⟨fun x hx => by obtain rfl := List.mem_singleton.1 hx; exact hu.below hb, fun _ => ⟨w.heap.size, 0, rfl, fun i x hi => ?_⟩⟩⟩
  match i, hi with
  | 0, hi =>
    obtain rfl : u = x := by simpa using hi
    exact ⟨hc 0, hc 1, hc 2, hc 3, hc 4, hc 5⟩
  | i + 1, hi => simp at hi
theorem vok_null {w : World} : VaOk w ⟨0, 0, 0, str0⟩ none 0 0 [] := ⟨⟨by dsimp only; omega, by dsimp only; omega, by dsimp only; omega, by dsimp only; omega, by dsimp only; omega, by show (0 : Nat) ≤ _; omega⟩, rfl, by omega, by omega, As.nil _ _, by simp⟩
theorem valid_null : validV ⟨0, 0, 0, str0⟩ [] = true := by
  have h : validV ⟨0, 0, 0, str0⟩ [] = validA 0 0 0 str0 := by
    unfold validV
    rw [if_neg (by decide)]
    rfl
  rw [h, validA0, toList_data]
  rfl
def sq : ByteArray := ⟨#[113]⟩
def uq : Pr := ⟨sq, ⟨⟨2, 5, 0, str0⟩, none, 0, 0, []⟩⟩
theorem uq_ok (w : World) : uq.Ok w := ⟨by show (1 : Nat) ≤ _; omega, ⟨⟨by show -9223372036854775808 ≤ (2 : Int); omega, by show (2 : Int) ≤ _; omega, by show -9223372036854775808 ≤ (5 : Int); omega, by show (5 : Int) ≤ _; omega, by show (0 : Nat) < _; omega, by show (0 : Nat) ≤ _; omega⟩, rfl, Nat.le_refl _, by show (0 : Nat) ≤ _; omega, As.nil _ _, fun a h => by cases h⟩, fun _ => rfl⟩
theorem get_uq : getP ([uq].map Pr.c) sq = some uq.c := by
  show getP [uq.c] sq = some uq.c
  unfold getP
  rw [List.find?_cons, show eqS uq.c.n sq = true from eqS_self sq]

theorem setR_cases (l : List Pc) (x : Pc) : (setR l x = (setP l x, 0) ∧ Right l ∧ nameOk x.n = true ∧ validV x.a x.l = true ∧ (setP l x).length ≤ 16) ∨ setR l x = ([], 15) ∨ setR l x = ([], 2) := by
  unfold setR setOk
  by_cases h : (nameOk x.n && (validV x.a x.l && propsR l)) = true
  · rw [if_pos h]
    by_cases h2 : (setP l x).length ≤ 16
    · rw [if_pos h2]
      rw [Bool.and_eq_true, Bool.and_eq_true, propsR_iff] at h
      exact .inl ⟨rfl, h.2.2, h.1, h.2.1, h2⟩
    · rw [if_neg h2]
      exact .inr (.inl rfl)
  · rw [if_neg h]
    exact .inr (.inr rfl)
theorem set_null {l : List Pc} {x : Pc} (hr : Right (setP l x)) (hn : nameOk x.n = true) (hl : l.length ≤ 16) : setR (setP l x) ⟨x.n, ⟨0, 0, 0, str0⟩, []⟩ = (setP (setP l x) ⟨x.n, ⟨0, 0, 0, str0⟩, []⟩, 0) ∧ (setP (setP l x) ⟨x.n, ⟨0, 0, 0, str0⟩, []⟩).length ≤ l.length ∧ Right (setP (setP l x) ⟨x.n, ⟨0, 0, 0, str0⟩, []⟩) := by
  have h1 := setP_gone l x (y := ⟨x.n, ⟨0, 0, 0, str0⟩, []⟩) rfl rfl
  refine ⟨?_, h1, right_setP hr hn valid_null (by omega)⟩
  unfold setR setOk
  rw [hn, valid_null, (propsR_iff _).2 hr, if_pos (by rfl), if_pos (by omega)]
theorem right_len {r : List Pr} (h : Right (r.map Pr.c)) : ∀ x ∈ r, x.v.l.length ≤ 100000 := fun x hx => by
  have h1 := valid_len (h.va x.c (List.mem_map.2 ⟨x, hx, rfl⟩)).2
  have e : x.c.l = x.v.l := rfl
  rw [e] at h1
  omega

set_option maxHeartbeats 4000000 in
theorem lawRKeeps_any {w : World} {q : Option Addr} {m c : Nat} {l : List Pr} (hp : PsOk w q m c l) (s : ByteArray) (hs : s.size ≤ 9223372036854775807)
    {k n : Int} {f : Nat} {t : ByteArray} {q' : Option Addr} {m' c' : Nat} {l' : List At} (hv : VaOk w ⟨k, n, f, t⟩ q' m' c' l') (hz : q' = none → c' = 0) :
    Calls Try.prog 6 #[.slice q m c, .string s, .agg #[.int .i64 k, .int .i64 n, .float .f64 f, .string t, .slice q' m' c']] w fun e w' => e = .returned (.bool true) ∧ Below w.heap.size w w' := by
  have hst := store_flt
  obtain ⟨lc, hlc⟩ : ∃ lc, lc = l.map Pr.c := ⟨_, rfl⟩
  obtain ⟨xc, hxc⟩ : ∃ xc : Pc, xc = ⟨s, ⟨k, n, f, t⟩, l'⟩ := ⟨_, rfl⟩
  have HF1 : Hid (∀ w' g, SsOk w' (some ⟨g, 0, none⟩) 1 1 [s] → Below w.heap.size w w' → Calls Try.prog 9 #[.slice (some ⟨g, 0, none⟩) 1 1, .slice q m c] w' (SomeBool5 w')) := Lib.hid fun w' g h hb => few_any h (hp.below hb)
  have HF2 : Hid (∀ w' g u, PsOk w' (some ⟨g, 0, none⟩) 1 1 [u] → Calls Try.prog 9 #[.slice none 0 0, .slice (some ⟨g, 0, none⟩) 1 1] w' (SomeBool5 w')) := Lib.hid fun w' g u h => few_any (show SsOk w' none 0 0 [] from ⟨rfl, Nat.le_refl _, Nat.zero_le _, Ss.nil _ _, by simp⟩) h
  have HSET : Hid (∀ w', Below w.heap.size w w' → Calls Try.prog 20 #[.slice q m c, .string s, .agg #[.int .i64 k, .int .i64 n, .float .f64 f, .string t, .slice q' m' c']] w' (SePost w' (setR lc xc))) := Lib.hid fun w' hb => by rw [hlc, hxc]; exact set_any (hp.below hb) s hs (hv.below hb) hz
  have HG1 : Hid (∀ w' g, PsOk w' (some ⟨g, 0, none⟩) 1 1 [uq] → Calls Try.prog 18 #[.slice (some ⟨g, 0, none⟩) 1 1, .string sq] w' (GePost w' (some uq.c))) := Lib.hid fun w' g h => by
    have := get_any h (fun x hx => by obtain rfl := List.mem_singleton.1 hx; show (0 : Nat) ≤ _; omega) sq
    rw [get_uq] at this
    exact this
  have HV := Lib.hid hv
  have HZ := Lib.hid hz
  have HP := Lib.hid hp
  have HLC := Lib.hid hlc
  have HXC := Lib.hid hxc
  have h1 := hp.h1
  have h2 := hp.h2
  have h1' := hv.h1
  have h2' := hv.h2
  clear hp hv hz hlc hxc
  obtain ⟨W, hW⟩ : ∃ W, W = w.alloc (.cells #[.int .i64 k, .int .i64 n, .float .f64 f, .string t, .slice q' m' c'] 45) := ⟨_, rfl⟩
  have HK : Hid (∀ w', Below W.heap.size W w' → (w'.cell? ⟨w.heap.size, 0, none⟩ = some (.int .i64 k) ∧ w'.cell? ⟨w.heap.size, 1, none⟩ = some (.int .i64 n) ∧ w'.cell? ⟨w.heap.size, 2, none⟩ = some (.float .f64 f) ∧ w'.cell? ⟨w.heap.size, 3, none⟩ = some (.string t) ∧ w'.cell? ⟨w.heap.size, 4, none⟩ = some (.slice q' m' c'))) := by
    refine Lib.hid fun w' hb => ?_
    rw [hW] at hb
    have h1 := box_all hb
    exact ⟨h1 0, h1 1, h1 2, h1 3, h1 4⟩
  have HWB : Hid (∀ w', Below W.heap.size W w' → Below w.heap.size w w') := by
    refine Lib.hid fun w' hb => ?_
    rw [hW] at hb
    exact box_below hb
  have HWs : Hid (W.heap.size = w.heap.size + 1) := Lib.hid (by rw [hW]; simp)
  have HWLT : Hid (∀ w', Below W.heap.size W w' → w.heap.size < w'.heap.size) := Lib.hid fun w' hb => by have := HWs.out; have := hb.size; omega
  have hnot : ∀ (x : Bool) (w : World), (Op.unary .not (.bool x)).run Try.prog w = .ok (.bool (!x)) w := fun _ _ => rfl
  go_enter Try.func6, Try.ntmps6
  go_wp2_with fail
  rw [← hW]
  replace hW := Lib.hid hW
  have HB0 : Hid (Below W.heap.size W (W.alloc (.cells #[.string s] 9))) := Lib.hid ((Below.refl _ _).alloc (Nat.le_refl _) _)
  refine (HF1.out _ _ (ss_oneK HWs.out.symm _ s hs) (HWB.out _ HB0.out)).mono ?_
  rintro e w1 ⟨b1, rfl, hb1⟩
  have HB1 : Hid (Below W.heap.size W w1) := Lib.hid (HB0.out.trans (hb1.mono HB0.out.size))
  clear hb1
  have hw := HWLT.out _ HB1.out
  obtain ⟨k0, k1, k2, k3, k4⟩ := HK.out _ HB1.out
  cases b1
  · go_wp2
    go_ret
    exact ⟨rfl, HWB.out _ HB1.out⟩
  have HU1 : Hid (Pr.Ok w1 ⟨str0, ⟨⟨k, n, f, t⟩, q', m', c', l'⟩⟩) := Lib.hid ⟨by show (0 : Nat) ≤ _; omega, HV.out.below (HWB.out _ HB1.out), HZ.out⟩
  go_wp2_with fail
  refine (HF2.out _ _ _ (ps_one rfl _ HU1.out)).mono ?_
  rintro e w2 ⟨b2, rfl, hb2⟩
  have HB2 : Hid (Below W.heap.size W w2) := Lib.hid ((HB1.out.alloc HB1.out.size _).trans (hb2.mono (HB1.out.alloc HB1.out.size _).size))
  clear hb2 hw k0 k1 k2 k3 k4
  have hw := HWLT.out _ HB2.out
  obtain ⟨k0, k1, k2, k3, k4⟩ := HK.out _ HB2.out
  cases b2
  · go_wp2
    go_ret
    exact ⟨rfl, HWB.out _ HB2.out⟩
  obtain ⟨R, hR⟩ : ∃ R, R = setR lc xc := ⟨_, rfl⟩
  have HRC : Hid ((R = (setP lc xc, 0) ∧ Right lc ∧ nameOk xc.n = true ∧ validV xc.a xc.l = true ∧ (setP lc xc).length ≤ 16) ∨ R = ([], 15) ∨ R = ([], 2)) := Lib.hid (by rw [hR]; exact setR_cases lc xc)
  rw [← hR] at HSET
  clear hR
  go_wp2_with fail
  refine (HSET.out _ (HWB.out _ HB2.out)).mono ?_
  rintro e w3 ⟨q3, m3, c3, r3, rfl, hp3, hm3, hb3⟩
  have HB3 : Hid (Below W.heap.size W w3) := Lib.hid (HB2.out.trans (hb3.mono HB2.out.size))
  have HP3 := Lib.hid hp3
  have HM3 := Lib.hid hm3
  have hm31 := hp3.h1
  have hm32 := hp3.h2
  clear hb3 hp3 hm3 hw k0 k1 k2 k3 k4
  go_wp2_with fail
  refine (HG1.out _ _ (ps_one rfl _ (uq_ok w3))).mono ?_
  rintro e w4 hg4
  have HB4 : Hid (Below W.heap.size W w4) := Lib.hid ((HB3.out.alloc HB3.out.size _).trans (hg4.bl.mono (HB3.out.alloc HB3.out.size _).size))
  have HB34 : Hid (Below w3.heap.size w3 w4) := Lib.hid (((Below.refl w3.heap.size w3).alloc (Nat.le_refl _) _).trans (hg4.bl.mono (by simp)))
  obtain ⟨q4, m4, c4, he4, _⟩ := hg4.yes _ rfl
  have e4 : e = .returned (.tuple #[.agg #[.int .i64 2, .int .i64 5, .float .f64 0, .string ⟨#[]⟩, .slice q4 m4 c4], .bool true]) := he4
  subst e4
  clear hg4 he4
  rcases HRC.out with ⟨hR, hri, hno, hva, h16⟩ | hR | hR
  · subst hR
    have HRX := Lib.hid (right_setP hri hno hva h16)
    have HM3' : Hid (r3.map Pr.c = setP lc xc) := Lib.hid HM3.out
    have HRI := Lib.hid hri
    have hkx : xc.a.k = k := by rw [HXC.out]
    have hnx : xc.n = s := by rw [HXC.out]
    have HNO : Hid (nameOk xc.n = true) := Lib.hid hno
    have HLEN : Hid (∀ x ∈ r3, x.v.l.length ≤ 100000) := Lib.hid (right_len (by rw [HM3'.out]; exact HRX.out))
    have HL16 : Hid (lc.length ≤ 16) := Lib.hid hri.n16
    have HGET : Hid (∀ w' nm, Below w3.heap.size w3 w' → Calls Try.prog 18 #[.slice q3 m3 c3, .string nm] w' (GePost w' (getP (setP lc xc) nm))) := Lib.hid fun w' nm hb => by
      have := get_any (HP3.out.below hb) HLEN.out nm
      rw [HM3'.out] at this
      exact this
    have HPRO : Hid (∀ w', Below w3.heap.size w3 w' → Calls Try.prog 29 #[.slice q3 m3 c3] w' fun e w'' => e = .returned (.bool true) ∧ Below w'.heap.size w' w'') := Lib.hid fun w' hb => by
      have := refProps_any (HP3.out.below hb)
      rw [HM3'.out, (propsR_iff _).2 HRX.out] at this
      exact this
    have HGS : Hid (getP (setP lc xc) s = if k = 0 then none else some xc) := Lib.hid (by rw [← hnx, ← hkx]; exact getP_set HRI.out.inc xc)
    have HKEEP : Hid (∀ (j : Nat) (x : Pr), l[j]? = some x → eqS x.n s = false → getP (setP lc xc) x.n = some x.c) := Lib.hid fun j x hx he => by
      refine getP_keep HRI.out.inc (p := x.c) (by rw [HLC.out]; exact List.mem_map.2 ⟨x, List.mem_of_getElem? hx, rfl⟩) fun e => ?_
      rw [hnx] at e
      rw [show x.n = s from e, eqS_self] at he
      cases he
    have HSAME : Hid (∀ w' qa qb (ua ub : Pr), PsOk w' qa 1 1 [ua] → PsOk w' qb 1 1 [ub] → ua.c = ub.c → Calls Try.prog 22 #[.slice qa 1 1, .slice qb 1 1] w' fun e w'' => e = .returned (.bool true) ∧ Below w'.heap.size w' w'') := Lib.hid fun w' qa qb ua ub ha hb e => by
      have h := refSameProps_any ha hb
      rw [show [ua].map Pr.c = [ub].map Pr.c by simp [e], sameP_self] at h
      exact h
    have HNUL : Hid (setR (setP lc xc) ⟨s, ⟨0, 0, 0, str0⟩, []⟩ = (setP (setP lc xc) ⟨s, ⟨0, 0, 0, str0⟩, []⟩, 0) ∧ (setP (setP lc xc) ⟨s, ⟨0, 0, 0, str0⟩, []⟩).length ≤ lc.length ∧ Right (setP (setP lc xc) ⟨s, ⟨0, 0, 0, str0⟩, []⟩)) := Lib.hid (by
      have h := set_null HRX.out HNO.out HL16.out
      rw [hnx] at h
      exact h)
    have HSN : Hid (∀ w', Below w3.heap.size w3 w' → Calls Try.prog 20 #[.slice q3 m3 c3, .string s, .agg #[.int .i64 0, .int .i64 0, .float .f64 0, .string ⟨#[]⟩, .slice none 0 0]] w' (SePost w' (setP (setP lc xc) ⟨s, ⟨0, 0, 0, str0⟩, []⟩, 0))) := Lib.hid fun w' hb => by
      have := set_any (HP3.out.below hb) s hs (vok_null (w := w')) (fun _ => rfl)
      rw [HM3'.out, HNUL.out.1] at this
      exact this
    clear hri hno hva h16 hkx hnx HSET HG1 HF1 HF2 HRC HM3
    go_wp2_with fail
    refine (HGET.out _ s (HB34.out.alloc HB34.out.size _)).mono ?_
    rintro e w5 hg5
    rw [HGS.out] at hg5
    have HB35 : Hid (Below w3.heap.size w3 w5) := Lib.hid ((HB34.out.alloc HB34.out.size _).trans (hg5.bl.mono (HB34.out.alloc HB34.out.size _).size))
    have HB5 : Hid (Below W.heap.size W w5) := Lib.hid (HB3.out.trans (HB35.out.mono HB3.out.size))
    have hw := HWLT.out _ HB5.out
    obtain ⟨k0, k1, k2, k3, k4⟩ := HK.out _ HB5.out
    by_cases hk : k = 0
    · rw [if_pos hk] at hg5
      have he5 := hg5.no rfl
      subst he5
      subst hk
      clear hg5
      go_wp2_with fail
      refine (HPRO.out _ (HB35.out.alloc HB35.out.size _)).mono ?_
      rintro e w6 ⟨rfl, hb6⟩
      have HB36 : Hid (Below w3.heap.size w3 w6) := Lib.hid ((HB35.out.alloc HB35.out.size _).trans (hb6.mono (HB35.out.alloc HB35.out.size _).size))
      clear hb6 hw k0 k1 k2 k3 k4
      go_wp2_with fail
      go_loopw [13] (fun i wr => ∃ j : Nat, i = .int .i64 j ∧ j ≤ m ∧ Below w3.heap.size w3 wr) (fun i _ => m - (intOf i).toNat)
      case atStart => exact ⟨0, rfl, by omega, HB36.out⟩
      case round =>
        obtain ⟨j, rfl, hj, hb⟩ := hrel
        have HBR := Lib.hid hb
        have HBW : Hid (Below w.heap.size w wr) := Lib.hid (HWB.out _ (HB3.out.trans (hb.mono HB3.out.size)))
        clear hb
        by_cases hlt : j < m
        · obtain ⟨x, hx⟩ : ∃ x, l[j]? = some x := ⟨_, List.getElem?_eq_getElem (by have := HP.out.hn; omega)⟩
          obtain ⟨hxok, b0, o0, rfl, hc⟩ := (HP.out.hl.below HBW.out).at hx
          have hblt := hc.lt
          have HXO := Lib.hid hxok
          have HCX : Hid (∀ w', Below wr.heap.size wr w' → (w'.cell? ⟨b0, o0 + j * 6, none⟩ = some (.string x.n) ∧ w'.cell? ⟨b0, o0 + j * 6 + 1, none⟩ = some (.int .i64 x.v.a.k) ∧ w'.cell? ⟨b0, o0 + j * 6 + 2, none⟩ = some (.int .i64 x.v.a.n) ∧ w'.cell? ⟨b0, o0 + j * 6 + 3, none⟩ = some (.float .f64 x.v.a.f) ∧ w'.cell? ⟨b0, o0 + j * 6 + 4, none⟩ = some (.string x.v.a.s) ∧ w'.cell? ⟨b0, o0 + j * 6 + 5, none⟩ = some (.slice x.v.q x.v.m x.v.c))) := Lib.hid fun w' hb => by
            obtain ⟨c0, c1, c2, c3, c4, c5⟩ := hc.below hb
            exact ⟨c0, c1, c2, c3, c4, c5⟩
          obtain ⟨c0, c1, c2, c3, c4, c5⟩ := HCX.out _ (Below.refl _ _)
          have hne : (x.n.toList != s.toList) = !eqS x.n s := rfl
          have heq : (x.n.toList == s.toList) = eqS x.n s := rfl
          have HKJ := Lib.hid (HKEEP.out j x hx)
          have HES : Hid (eqS x.n s = true → x.n = s) := Lib.hid (eqS_iff _ _).1
          have hj0 : (0 : Int) ≤ j := by omega
          have hj1 : (j : Int) < m := by omega
          clear hx hxok hc
          obtain ⟨z, hzz⟩ : ∃ z, eqS x.n s = z := ⟨_, rfl⟩
          rw [hzz] at hne heq HKJ HES
          go_wp2_with fail
          refine (HGET.out _ x.n HBR.out).mono ?_
          rintro e w7 hg7
          have HB7 : Hid (Below w3.heap.size w3 w7) := Lib.hid (HBR.out.trans (hg7.bl.mono HBR.out.size))
          have HB7r : Hid (Below wr.heap.size wr w7) := Lib.hid hg7.bl
          cases z
          · rw [HKJ.out rfl] at hg7
            obtain ⟨q7, m7, c7, he7, ho7⟩ := hg7.yes _ rfl
            have e7 : e = .returned (.tuple #[.agg #[.int .i64 x.v.a.k, .int .i64 x.v.a.n, .float .f64 x.v.a.f, .string x.v.a.s, .slice q7 m7 c7], .bool true]) := he7
            subst e7
            have ho7' : AOwn w7 wr.heap.size (.slice q7 m7 c7) x.v.l := ho7
            obtain ⟨e7, g71, g72, hs7⟩ := ho7'.len
            have HUY : Hid (Pr.Ok w7 ⟨str0, ⟨x.v.a, q7, m7, c7, x.v.l⟩⟩) := Lib.hid ⟨by show (0 : Nat) ≤ _; omega, ⟨HXO.out.v.ok, e7, g71, g72, hs7, HXO.out.v.hok⟩, ho7'.none_zero⟩
            have HUX : Hid (Pr.Ok w7 ⟨str0, x.v⟩) := Lib.hid ⟨by show (0 : Nat) ≤ _; omega, VaOk.below HXO.out.v HB7r.out, HXO.out.z⟩
            obtain ⟨Y, hY⟩ : ∃ Y, Y = w7.alloc (.cells #[.int .i64 x.v.a.k, .int .i64 x.v.a.n, .float .f64 x.v.a.f, .string x.v.a.s, .slice q7 m7 c7] 45) := ⟨_, rfl⟩
            have HYW : Hid (Below w7.heap.size w7 Y) := Lib.hid (by rw [hY]; exact (Below.refl _ _).alloc (Nat.le_refl _) _)
            have HYs : Hid (Y.heap.size = w7.heap.size + 1) := Lib.hid (by rw [hY]; simp)
            have HCC : Hid (∀ w', Below Y.heap.size Y w' → (w'.cell? ⟨b0, o0 + j * 6, none⟩ = some (.string x.n) ∧ w'.cell? ⟨b0, o0 + j * 6 + 1, none⟩ = some (.int .i64 x.v.a.k) ∧ w'.cell? ⟨b0, o0 + j * 6 + 2, none⟩ = some (.int .i64 x.v.a.n) ∧ w'.cell? ⟨b0, o0 + j * 6 + 3, none⟩ = some (.float .f64 x.v.a.f) ∧ w'.cell? ⟨b0, o0 + j * 6 + 4, none⟩ = some (.string x.v.a.s) ∧ w'.cell? ⟨b0, o0 + j * 6 + 5, none⟩ = some (.slice x.v.q x.v.m x.v.c)) ∧
                w'.cell? ⟨w7.heap.size, 0, none⟩ = some (.int .i64 x.v.a.k) ∧ w'.cell? ⟨w7.heap.size, 1, none⟩ = some (.int .i64 x.v.a.n) ∧ w'.cell? ⟨w7.heap.size, 2, none⟩ = some (.float .f64 x.v.a.f) ∧ w'.cell? ⟨w7.heap.size, 3, none⟩ = some (.string x.v.a.s) ∧ w'.cell? ⟨w7.heap.size, 4, none⟩ = some (.slice q7 m7 c7)) := Lib.hid fun w' hb => by
              refine ⟨HCX.out _ (HB7r.out.trans ((HYW.out.trans (hb.mono HYW.out.size)).mono HB7r.out.size)), ?_⟩
              rw [hY] at hb
              have h1 := box_all hb
              exact ⟨h1 0, h1 1, h1 2, h1 3, h1 4⟩
            have HB3Y : Hid (Below w3.heap.size w3 Y) := Lib.hid (HB7.out.trans (HYW.out.mono HB7.out.size))
            have HDY : Hid (Below Y.heap.size Y Y.drew) := Lib.hid (Below.refl _ _).drew
            have HUYD : Hid (Pr.Ok Y.drew ⟨str0, ⟨x.v.a, q7, m7, c7, x.v.l⟩⟩) := Lib.hid (HUY.out.below HYW.out.drew)
            have HUXD : Hid (Pr.Ok Y.drew ⟨str0, x.v⟩) := Lib.hid (HUX.out.below HYW.out.drew)
            clear hg7 he7 ho7 ho7' e7 hs7
            clear c0 c1 c2 c3 c4 c5
            go_wp2_with fail
            rw [← hY]
            replace hY := Lib.hid hY
            go_region_held3 (fun w' => (w'.cell? ⟨b0, o0 + j * 6, none⟩ = some (.string x.n) ∧ w'.cell? ⟨b0, o0 + j * 6 + 1, none⟩ = some (.int .i64 x.v.a.k) ∧ w'.cell? ⟨b0, o0 + j * 6 + 2, none⟩ = some (.int .i64 x.v.a.n) ∧ w'.cell? ⟨b0, o0 + j * 6 + 3, none⟩ = some (.float .f64 x.v.a.f) ∧ w'.cell? ⟨b0, o0 + j * 6 + 4, none⟩ = some (.string x.v.a.s) ∧ w'.cell? ⟨b0, o0 + j * 6 + 5, none⟩ = some (.slice x.v.q x.v.m x.v.c)) ∧
                w'.cell? ⟨w7.heap.size, 0, none⟩ = some (.int .i64 x.v.a.k) ∧ w'.cell? ⟨w7.heap.size, 1, none⟩ = some (.int .i64 x.v.a.n) ∧ w'.cell? ⟨w7.heap.size, 2, none⟩ = some (.float .f64 x.v.a.f) ∧ w'.cell? ⟨w7.heap.size, 3, none⟩ = some (.string x.v.a.s) ∧ w'.cell? ⟨w7.heap.size, 4, none⟩ = some (.slice q7 m7 c7))
              (first | exact HCC.out _ HB8.out | exact HCC.out _ HDY.out | exact HCC.out _ (HDY.out.alloc HDY.out.size _) | exact HCC.out _ ((HDY.out.alloc HDY.out.size _).alloc (HDY.out.alloc HDY.out.size _).size _))
              ((go_at_call 22; refine (HSAME.out _ _ _ ⟨str0, ⟨x.v.a, q7, m7, c7, x.v.l⟩⟩ ⟨str0, x.v⟩ (by first | exact (ps_one (by simp) _ HUYD.out).below ((Below.refl _ _).alloc (Nat.le_refl _) _) | exact ps_one (by simp) _ (HUYD.out.below ((Below.refl _ _).alloc (Nat.le_refl _) _))) (by first | exact (ps_one (by simp) _ HUXD.out).below ((Below.refl _ _).alloc (Nat.le_refl _) _) | exact ps_one (by simp) _ (HUXD.out.below ((Below.refl _ _).alloc (Nat.le_refl _) _))) rfl).mono ?_; rintro e w8 ⟨rfl, hb8⟩; have HB8 : Hid (Below Y.heap.size Y w8) := Lib.hid (((HDY.out.alloc HDY.out.size _).alloc (HDY.out.alloc HDY.out.size _).size _).trans (hb8.mono ((HDY.out.alloc HDY.out.size _).alloc (HDY.out.alloc HDY.out.size _).size _).size)); clear hb8))
            all_goals
              have HB38 : Hid (Below w3.heap.size w3 w8) := Lib.hid (HB3Y.out.trans (HB8.out.mono HB3Y.out.size))
              go_wp2
              go_roundw
              case rel => exact ⟨j + 1, by go_num, by omega, HB38.out⟩
              case measure => simp [intOf]; omega
          · have hxs := HES.out rfl
            rw [hxs, HGS.out, if_pos trivial] at hg7
            have he7 := hg7.no rfl
            subst he7
            obtain ⟨d0, _⟩ := HCX.out _ (HB7r.out.alloc HB7r.out.size (.cells #[.int .i64 0, .int .i64 0, .float .f64 0, .string ⟨#[]⟩, .slice none 0 0] 45))
            have hbl7 : b0 < w7.heap.size := by have := HB7r.out.size; omega
            clear hg7 c0 c1 c2 c3 c4 c5
            go_wp2
            go_quiet (fail)
            go_wp2
            go_roundw
            case rel => exact ⟨j + 1, by go_num, by omega, belowN (HB7.out.alloc HB7.out.size _) _⟩
            case measure => simp [intOf]; omega
        · have hjm : j = m := by omega
          subst hjm
          go_wp2_with fail
          refine (HSN.out _ HBR.out).mono ?_
          rintro e w8 ⟨q8, m8, c8, r8, rfl, hp8, hm8, hb8⟩
          have HB38 : Hid (Below w3.heap.size w3 w8) := Lib.hid (HBR.out.trans (hb8.mono HBR.out.size))
          have hmle : m8 ≤ j := by
            have h := congrArg List.length hm8
            rw [List.length_map, ← hp8.hn] at h
            have h2 := HNUL.out.2.1
            have h3 : lc.length = j := by rw [HLC.out, List.length_map]; exact HP.out.hn.symm
            have h4 : m8 = (setP (setP lc xc) ⟨s, ⟨0, 0, 0, str0⟩, []⟩).length := h
            omega
          have HGN : Hid (Calls Try.prog 18 #[.slice q8 m8 c8, .string s] w8 (GePost w8 none)) := Lib.hid (by
            have h := get_any hp8 (right_len (by rw [hm8]; exact HNUL.out.2.2)) s
            have e : getP (r8.map Pr.c) s = none := by
              rw [hm8]
              have := getP_set HRX.out.inc ⟨s, ⟨0, 0, 0, str0⟩, []⟩
              rw [if_pos rfl] at this
              exact this
            rw [e] at h
            exact h)
          have hm81 := hp8.h1
          have hm82 := hp8.h2
          clear hp8 hm8 hb8
          go_wp2_with fail
          refine HGN.out.mono ?_
          rintro e w9 hg9
          have he9 := hg9.no rfl
          subst he9
          have HB9 : Hid (Below w.heap.size w w9) := Lib.hid (HWB.out _ (HB3.out.trans ((HB38.out.trans (hg9.bl.mono HB38.out.size)).mono HB3.out.size)))
          clear hg9
          go_wp2
          go_ret
          exact ⟨rfl, HB9.out⟩
    · rw [if_neg hk] at hg5
      obtain ⟨q5, m5, c5, he5, ho5⟩ := hg5.yes _ rfl
      have e5 : e = .returned (.tuple #[.agg #[.int .i64 k, .int .i64 n, .float .f64 f, .string t, .slice q5 m5 c5], .bool true]) := by rw [he5, HXC.out]
      subst e5
      rw [HXC.out] at ho5
      have ho5' : AOwn w5 (w4.alloc (.cells #[.int .i64 2, .int .i64 5, .float .f64 0, .string ⟨#[]⟩, .slice q4 m4 c4] 45)).heap.size (.slice q5 m5 c5) l' := ho5
      obtain ⟨e5, g51, g52, hs5⟩ := ho5'.len
      have HU5 : Hid (Pr.Ok w5 ⟨str0, ⟨⟨k, n, f, t⟩, q5, m5, c5, l'⟩⟩) := Lib.hid ⟨by show (0 : Nat) ≤ _; omega, ⟨HV.out.ok, e5, g51, g52, hs5, HV.out.hok⟩, ho5'.none_zero⟩
      have HU6 : Hid (Pr.Ok w5 ⟨str0, ⟨⟨k, n, f, t⟩, q', m', c', l'⟩⟩) := Lib.hid ⟨by show (0 : Nat) ≤ _; omega, HV.out.below (HWB.out _ HB5.out), HZ.out⟩
      have hk' : (k != 0) = true := by simpa using hk
      clear hg5 he5 ho5 ho5' e5 hs5
      go_wp2_with fail
      refine (HSAME.out _ _ _ ⟨str0, ⟨⟨k, n, f, t⟩, q5, m5, c5, l'⟩⟩ ⟨str0, ⟨⟨k, n, f, t⟩, q', m', c', l'⟩⟩ ((ps_one (by simp) _ (HU5.out.below ((Below.refl _ _).alloc (Nat.le_refl _) _))).below ((Below.refl _ _).alloc (Nat.le_refl _) _)) (ps_one (by simp) _ ((HU6.out.below ((Below.refl _ _).alloc (Nat.le_refl _) _)).below ((Below.refl _ _).alloc (Nat.le_refl _) _))) rfl).mono ?_
      rintro e w5b ⟨rfl, hb5b⟩
      have HB5b : Hid (Below w3.heap.size w3 w5b) := Lib.hid (((((HB35.out.alloc HB35.out.size _).alloc (HB35.out.alloc HB35.out.size _).size _).alloc ((HB35.out.alloc HB35.out.size _).alloc (HB35.out.alloc HB35.out.size _).size _).size _)).trans (hb5b.mono (((HB35.out.alloc HB35.out.size _).alloc (HB35.out.alloc HB35.out.size _).size _).alloc ((HB35.out.alloc HB35.out.size _).alloc (HB35.out.alloc HB35.out.size _).size _).size _).size))
      clear hb5b hw k0 k1 k2 k3 k4
      go_wp2_with fail
      refine (HPRO.out _ HB5b.out).mono ?_
      rintro e w6 ⟨rfl, hb6⟩
      have HB36 : Hid (Below w3.heap.size w3 w6) := Lib.hid (HB5b.out.trans (hb6.mono HB5b.out.size))
      clear hb6
      go_wp2_with fail
      go_loopw [13] (fun i wr => ∃ j : Nat, i = .int .i64 j ∧ j ≤ m ∧ Below w3.heap.size w3 wr) (fun i _ => m - (intOf i).toNat)
      case atStart => exact ⟨0, rfl, by omega, HB36.out⟩
      case round =>
        obtain ⟨j, rfl, hj, hb⟩ := hrel
        have HBR := Lib.hid hb
        have HBW : Hid (Below w.heap.size w wr) := Lib.hid (HWB.out _ (HB3.out.trans (hb.mono HB3.out.size)))
        clear hb
        by_cases hlt : j < m
        · obtain ⟨x, hx⟩ : ∃ x, l[j]? = some x := ⟨_, List.getElem?_eq_getElem (by have := HP.out.hn; omega)⟩
          obtain ⟨hxok, b0, o0, rfl, hc⟩ := (HP.out.hl.below HBW.out).at hx
          have hblt := hc.lt
          have HXO := Lib.hid hxok
          have HCX : Hid (∀ w', Below wr.heap.size wr w' → (w'.cell? ⟨b0, o0 + j * 6, none⟩ = some (.string x.n) ∧ w'.cell? ⟨b0, o0 + j * 6 + 1, none⟩ = some (.int .i64 x.v.a.k) ∧ w'.cell? ⟨b0, o0 + j * 6 + 2, none⟩ = some (.int .i64 x.v.a.n) ∧ w'.cell? ⟨b0, o0 + j * 6 + 3, none⟩ = some (.float .f64 x.v.a.f) ∧ w'.cell? ⟨b0, o0 + j * 6 + 4, none⟩ = some (.string x.v.a.s) ∧ w'.cell? ⟨b0, o0 + j * 6 + 5, none⟩ = some (.slice x.v.q x.v.m x.v.c))) := Lib.hid fun w' hb => by
            obtain ⟨c0, c1, c2, c3, c4, c5⟩ := hc.below hb
            exact ⟨c0, c1, c2, c3, c4, c5⟩
          obtain ⟨c0, c1, c2, c3, c4, c5⟩ := HCX.out _ (Below.refl _ _)
          have hne : (x.n.toList != s.toList) = !eqS x.n s := rfl
          have heq : (x.n.toList == s.toList) = eqS x.n s := rfl
          have HKJ := Lib.hid (HKEEP.out j x hx)
          have HES : Hid (eqS x.n s = true → x.n = s) := Lib.hid (eqS_iff _ _).1
          have hj0 : (0 : Int) ≤ j := by omega
          have hj1 : (j : Int) < m := by omega
          clear hx hxok hc
          obtain ⟨z, hzz⟩ : ∃ z, eqS x.n s = z := ⟨_, rfl⟩
          rw [hzz] at hne heq HKJ HES
          go_wp2_with fail
          refine (HGET.out _ x.n HBR.out).mono ?_
          rintro e w7 hg7
          have HB7 : Hid (Below w3.heap.size w3 w7) := Lib.hid (HBR.out.trans (hg7.bl.mono HBR.out.size))
          have HB7r : Hid (Below wr.heap.size wr w7) := Lib.hid hg7.bl
          cases z
          · rw [HKJ.out rfl] at hg7
            obtain ⟨q7, m7, c7, he7, ho7⟩ := hg7.yes _ rfl
            have e7 : e = .returned (.tuple #[.agg #[.int .i64 x.v.a.k, .int .i64 x.v.a.n, .float .f64 x.v.a.f, .string x.v.a.s, .slice q7 m7 c7], .bool true]) := he7
            subst e7
            have ho7' : AOwn w7 wr.heap.size (.slice q7 m7 c7) x.v.l := ho7
            obtain ⟨e7, g71, g72, hs7⟩ := ho7'.len
            have HUY : Hid (Pr.Ok w7 ⟨str0, ⟨x.v.a, q7, m7, c7, x.v.l⟩⟩) := Lib.hid ⟨by show (0 : Nat) ≤ _; omega, ⟨HXO.out.v.ok, e7, g71, g72, hs7, HXO.out.v.hok⟩, ho7'.none_zero⟩
            have HUX : Hid (Pr.Ok w7 ⟨str0, x.v⟩) := Lib.hid ⟨by show (0 : Nat) ≤ _; omega, VaOk.below HXO.out.v HB7r.out, HXO.out.z⟩
            obtain ⟨Y, hY⟩ : ∃ Y, Y = w7.alloc (.cells #[.int .i64 x.v.a.k, .int .i64 x.v.a.n, .float .f64 x.v.a.f, .string x.v.a.s, .slice q7 m7 c7] 45) := ⟨_, rfl⟩
            have HYW : Hid (Below w7.heap.size w7 Y) := Lib.hid (by rw [hY]; exact (Below.refl _ _).alloc (Nat.le_refl _) _)
            have HYs : Hid (Y.heap.size = w7.heap.size + 1) := Lib.hid (by rw [hY]; simp)
            have HCC : Hid (∀ w', Below Y.heap.size Y w' → (w'.cell? ⟨b0, o0 + j * 6, none⟩ = some (.string x.n) ∧ w'.cell? ⟨b0, o0 + j * 6 + 1, none⟩ = some (.int .i64 x.v.a.k) ∧ w'.cell? ⟨b0, o0 + j * 6 + 2, none⟩ = some (.int .i64 x.v.a.n) ∧ w'.cell? ⟨b0, o0 + j * 6 + 3, none⟩ = some (.float .f64 x.v.a.f) ∧ w'.cell? ⟨b0, o0 + j * 6 + 4, none⟩ = some (.string x.v.a.s) ∧ w'.cell? ⟨b0, o0 + j * 6 + 5, none⟩ = some (.slice x.v.q x.v.m x.v.c)) ∧
                w'.cell? ⟨w7.heap.size, 0, none⟩ = some (.int .i64 x.v.a.k) ∧ w'.cell? ⟨w7.heap.size, 1, none⟩ = some (.int .i64 x.v.a.n) ∧ w'.cell? ⟨w7.heap.size, 2, none⟩ = some (.float .f64 x.v.a.f) ∧ w'.cell? ⟨w7.heap.size, 3, none⟩ = some (.string x.v.a.s) ∧ w'.cell? ⟨w7.heap.size, 4, none⟩ = some (.slice q7 m7 c7)) := Lib.hid fun w' hb => by
              refine ⟨HCX.out _ (HB7r.out.trans ((HYW.out.trans (hb.mono HYW.out.size)).mono HB7r.out.size)), ?_⟩
              rw [hY] at hb
              have h1 := box_all hb
              exact ⟨h1 0, h1 1, h1 2, h1 3, h1 4⟩
            have HB3Y : Hid (Below w3.heap.size w3 Y) := Lib.hid (HB7.out.trans (HYW.out.mono HB7.out.size))
            have HDY : Hid (Below Y.heap.size Y Y.drew) := Lib.hid (Below.refl _ _).drew
            have HUYD : Hid (Pr.Ok Y.drew ⟨str0, ⟨x.v.a, q7, m7, c7, x.v.l⟩⟩) := Lib.hid (HUY.out.below HYW.out.drew)
            have HUXD : Hid (Pr.Ok Y.drew ⟨str0, x.v⟩) := Lib.hid (HUX.out.below HYW.out.drew)
            clear hg7 he7 ho7 ho7' e7 hs7
            clear c0 c1 c2 c3 c4 c5
            go_wp2_with fail
            rw [← hY]
            replace hY := Lib.hid hY
            go_region_held3 (fun w' => (w'.cell? ⟨b0, o0 + j * 6, none⟩ = some (.string x.n) ∧ w'.cell? ⟨b0, o0 + j * 6 + 1, none⟩ = some (.int .i64 x.v.a.k) ∧ w'.cell? ⟨b0, o0 + j * 6 + 2, none⟩ = some (.int .i64 x.v.a.n) ∧ w'.cell? ⟨b0, o0 + j * 6 + 3, none⟩ = some (.float .f64 x.v.a.f) ∧ w'.cell? ⟨b0, o0 + j * 6 + 4, none⟩ = some (.string x.v.a.s) ∧ w'.cell? ⟨b0, o0 + j * 6 + 5, none⟩ = some (.slice x.v.q x.v.m x.v.c)) ∧
                w'.cell? ⟨w7.heap.size, 0, none⟩ = some (.int .i64 x.v.a.k) ∧ w'.cell? ⟨w7.heap.size, 1, none⟩ = some (.int .i64 x.v.a.n) ∧ w'.cell? ⟨w7.heap.size, 2, none⟩ = some (.float .f64 x.v.a.f) ∧ w'.cell? ⟨w7.heap.size, 3, none⟩ = some (.string x.v.a.s) ∧ w'.cell? ⟨w7.heap.size, 4, none⟩ = some (.slice q7 m7 c7))
              (first | exact HCC.out _ HB8.out | exact HCC.out _ HDY.out | exact HCC.out _ (HDY.out.alloc HDY.out.size _) | exact HCC.out _ ((HDY.out.alloc HDY.out.size _).alloc (HDY.out.alloc HDY.out.size _).size _))
              ((go_at_call 22; refine (HSAME.out _ _ _ ⟨str0, ⟨x.v.a, q7, m7, c7, x.v.l⟩⟩ ⟨str0, x.v⟩ (by first | exact (ps_one (by simp) _ HUYD.out).below ((Below.refl _ _).alloc (Nat.le_refl _) _) | exact ps_one (by simp) _ (HUYD.out.below ((Below.refl _ _).alloc (Nat.le_refl _) _))) (by first | exact (ps_one (by simp) _ HUXD.out).below ((Below.refl _ _).alloc (Nat.le_refl _) _) | exact ps_one (by simp) _ (HUXD.out.below ((Below.refl _ _).alloc (Nat.le_refl _) _))) rfl).mono ?_; rintro e w8 ⟨rfl, hb8⟩; have HB8 : Hid (Below Y.heap.size Y w8) := Lib.hid (((HDY.out.alloc HDY.out.size _).alloc (HDY.out.alloc HDY.out.size _).size _).trans (hb8.mono ((HDY.out.alloc HDY.out.size _).alloc (HDY.out.alloc HDY.out.size _).size _).size)); clear hb8))
            all_goals
              have HB38 : Hid (Below w3.heap.size w3 w8) := Lib.hid (HB3Y.out.trans (HB8.out.mono HB3Y.out.size))
              go_wp2
              go_roundw
              case rel => exact ⟨j + 1, by go_num, by omega, HB38.out⟩
              case measure => simp [intOf]; omega
          · have hxs := HES.out rfl
            rw [hxs, HGS.out, if_neg hk] at hg7
            obtain ⟨q7, m7, c7, he7, _⟩ := hg7.yes _ rfl
            have e7 : e = .returned (.tuple #[.agg #[.int .i64 k, .int .i64 n, .float .f64 f, .string t, .slice q7 m7 c7], .bool true]) := by rw [he7, HXC.out]
            subst e7
            obtain ⟨d0, _⟩ := HCX.out _ (HB7r.out.alloc HB7r.out.size (.cells #[.int .i64 k, .int .i64 n, .float .f64 f, .string t, .slice q7 m7 c7] 45))
            have hbl7 : b0 < w7.heap.size := by have := HB7r.out.size; omega
            clear hg7 he7 c0 c1 c2 c3 c4 c5
            go_wp2
            go_quiet (fail)
            go_wp2
            go_roundw
            case rel => exact ⟨j + 1, by go_num, by omega, belowN (HB7.out.alloc HB7.out.size _) _⟩
            case measure => simp [intOf]; omega
        · have hjm : j = m := by omega
          subst hjm
          go_wp2_with fail
          refine (HSN.out _ HBR.out).mono ?_
          rintro e w8 ⟨q8, m8, c8, r8, rfl, hp8, hm8, hb8⟩
          have HB38 : Hid (Below w3.heap.size w3 w8) := Lib.hid (HBR.out.trans (hb8.mono HBR.out.size))
          have hmle : m8 ≤ j := by
            have h := congrArg List.length hm8
            rw [List.length_map, ← hp8.hn] at h
            have h2 := HNUL.out.2.1
            have h3 : lc.length = j := by rw [HLC.out, List.length_map]; exact HP.out.hn.symm
            have h4 : m8 = (setP (setP lc xc) ⟨s, ⟨0, 0, 0, str0⟩, []⟩).length := h
            omega
          have HGN : Hid (Calls Try.prog 18 #[.slice q8 m8 c8, .string s] w8 (GePost w8 none)) := Lib.hid (by
            have h := get_any hp8 (right_len (by rw [hm8]; exact HNUL.out.2.2)) s
            have e : getP (r8.map Pr.c) s = none := by
              rw [hm8]
              have := getP_set HRX.out.inc ⟨s, ⟨0, 0, 0, str0⟩, []⟩
              rw [if_pos rfl] at this
              exact this
            rw [e] at h
            exact h)
          have hm81 := hp8.h1
          have hm82 := hp8.h2
          clear hp8 hm8 hb8
          go_wp2_with fail
          refine HGN.out.mono ?_
          rintro e w9 hg9
          have he9 := hg9.no rfl
          subst he9
          have HB9 : Hid (Below w.heap.size w w9) := Lib.hid (HWB.out _ (HB3.out.trans ((HB38.out.trans (hg9.bl.mono HB38.out.size)).mono HB3.out.size)))
          clear hg9
          go_wp2
          go_ret
          exact ⟨rfl, HB9.out⟩
  · have hm0 : m3 = 0 := by
      have h := HM3.out
      rw [hR] at h
      have h2 := congrArg List.length h
      rw [List.length_map, ← HP3.out.hn] at h2
      exact h2
    subst hm0 hR
    go_wp2
    go_ret
    exact ⟨rfl, HWB.out _ (HB4.out.alloc HB4.out.size _)⟩
  · have hm0 : m3 = 0 := by
      have h := HM3.out
      rw [hR] at h
      have h2 := congrArg List.length h
      rw [List.length_map, ← HP3.out.hn] at h2
      exact h2
    subst hm0 hR
    go_wp2
    go_ret
    exact ⟨rfl, HWB.out _ (HB4.out.alloc HB4.out.size _)⟩

end Go.Proofs.Ytocplkiomlocpaa
