/-
  The law RecordSets: the walk.
-/
import Derived.Test.YtekaedafhiddeaaRSetR
import Derived.Test.YtekaedafhiddeaaRFewS
import Derived.Test.YtekaedafhiddeaaRNameR
set_option linter.unusedVariables false
set_option maxRecDepth 100000
namespace Go.Proofs.Ytekaedafhiddeaa
open Go.RowKit

theorem ss_one {w : World} (t : TypeId) (s : ByteArray) (hs : s.size ≤ 9223372036854775807) : SsOk (w.alloc (.cells #[.string s] t)) (some ⟨w.heap.size, 0, none⟩) 1 1 [s] := by
  refine ⟨rfl, Nat.le_refl _, by omega, fun _ => ⟨w.heap.size, 0, rfl, fun i x hi => ?_⟩, fun x hx => by obtain rfl := List.mem_singleton.1 hx; exact hs⟩
  match i, hi with
  | 0, hi =>
    obtain rfl : s = x := by simpa using hi
    exact Joins.cell_of_block (heap_alloc_new w _) 0
  | i + 1, hi => simp at hi
theorem ps_one {w : World} (t : TypeId) {a : At} {q : Option Addr} {m c : Nat} {l : List At} (hv : VaOk w a q m c l) (hz : q = none → c = 0) : PsOk (w.alloc (.cells #[.string ⟨#[]⟩, .int .i64 a.k, .int .i64 a.n, .float .f64 a.f, .string a.s, .slice q m c] t)) (some ⟨w.heap.size, 0, none⟩) 1 1 [⟨⟨#[]⟩, ⟨a, q, m, c, l⟩⟩] := by
  have hb : Below w.heap.size w (w.alloc (.cells #[.string ⟨#[]⟩, .int .i64 a.k, .int .i64 a.n, .float .f64 a.f, .string a.s, .slice q m c] t)) := (Below.refl _ _).alloc (Nat.le_refl _) _
  refine ⟨rfl, Nat.le_refl _, by omega, (fun h => by cases h), ⟨fun x hx => ?_, fun _ => ⟨w.heap.size, 0, rfl, fun i x hi => ?_⟩⟩⟩
  · rw [List.mem_singleton.1 hx]
    exact ⟨by show (⟨#[]⟩ : ByteArray).size ≤ _; decide, hv.below hb, hz⟩
  · match i, hi with
    | 0, hi =>
      obtain rfl := Option.some.inj hi
      have h1 := fun i => Joins.cell_of_block (heap_alloc_new w (.cells #[.string ⟨#[]⟩, .int .i64 a.k, .int .i64 a.n, .float .f64 a.f, .string a.s, .slice q m c] t)) i
      exact ⟨h1 0, h1 1, h1 2, h1 3, h1 4, h1 5⟩
    | i + 1, hi => simp at hi

/-- Both sides' Get. -/
theorem get_both {w : World} {q : Option Addr} {m c : Nat} {l : List Pr} (h : PsOk w q m c l) (hlen : ∀ x ∈ l, x.v.l.length ≤ 900) (s : ByteArray) :
    ∃ (a : At) (la : List At) (b : Bool), (∀ w', Below w.heap.size w w' → Calls Try.prog 13 #[.slice q m c, .string s] w' (G2 w' a la b)) ∧ (∀ w', Below w.heap.size w w' → Calls Try.prog 14 #[.slice q m c, .string s] w' (G2 w' a la b)) := by
  have hp := fun w' (hb : Below w.heap.size w w') => get_any (h.below hb) (fun x hx => Nat.le_trans (hlen x hx) (by omega)) s
  have hr := fun w' (hb : Below w.heap.size w w') => refGet_any (h.below hb) s
  cases hg : getP (l.map Pr.c) s with
  | none =>
    refine ⟨⟨0, 0, 0, ⟨#[]⟩⟩, [], false, fun w' hb => (hp w' hb).mono fun e w2 h2 => ?_, fun w' hb => (hr w' hb).mono fun e w2 h2 => h2.1 hg⟩
    exact ⟨none, 0, 0, h2.no hg, ⟨at0_ok, rfl, Nat.le_refl _, by omega, As.nil _ _, fun a h => by cases h⟩, fun _ => rfl, h2.bl⟩
  | some x =>
    refine ⟨x.a, x.l, true, fun w' hb => (hp w' hb).mono fun e w2 h2 => ?_, fun w' hb => (hr w' hb).mono fun e w2 h2 => h2.2 x hg⟩
    obtain ⟨q2, m2, c2, rfl, ho⟩ := h2.yes x hg
    obtain ⟨h3, h4, h5, h6⟩ := ho.len
    have hx : ∃ p ∈ l, p.c = x := by
      rw [find_map] at hg
      obtain ⟨p, hp1, hp2⟩ := Option.map_eq_some_iff.1 hg
      exact ⟨p, List.mem_of_find?_eq_some hp1, hp2⟩
    obtain ⟨p, hpm, rfl⟩ := hx
    have hok := (h.hl.ok p hpm).v
    exact ⟨q2, m2, c2, rfl, ⟨hok.ok, h3, h4, h5, h6, hok.hok⟩, ho.none_zero, h2.bl⟩

theorem set_one (w : World) : Calls Try.prog 15 #[.slice none 0 0, .string ⟨#[97]⟩, .agg #[.int .i64 2, .int .i64 0, .float .f64 0, .string ⟨#[]⟩, .slice none 0 0]] w fun e w' => ∃ q c, e = .returned (.tuple #[.slice q 1 c, .int .i64 0]) ∧ Below w.heap.size w w' := by
  have h1 := set_any (w := w) (q := none) (m := 0) (c := 0) (l := []) ⟨rfl, Nat.le_refl _, by omega, fun _ => rfl, Ps.nil _ _⟩ ⟨#[97]⟩ (by decide) (k := 2) (n := 0) (f := 0) (s := ⟨#[]⟩) (q' := none) (m' := 0) (c' := 0) (l' := []) ⟨⟨by decide, by decide, by decide, by decide, by decide, by decide⟩, rfl, Nat.le_refl _, by omega, As.nil _ _, fun a h => by cases h⟩ (fun _ => rfl)
  have h2 : setR (([] : List Pr).map Pr.c) ⟨⟨#[97]⟩, ⟨2, 0, 0, ⟨#[]⟩⟩, []⟩ = ([⟨⟨#[97]⟩, ⟨2, 0, 0, ⟨#[]⟩⟩, []⟩], 0) := by
    have e1 : setOk (([] : List Pr).map Pr.c) ⟨⟨#[97]⟩, ⟨2, 0, 0, ⟨#[]⟩⟩, []⟩ = true := by decide +kernel
    have e2 : setP (([] : List Pr).map Pr.c) ⟨⟨#[97]⟩, ⟨2, 0, 0, ⟨#[]⟩⟩, []⟩ = [⟨⟨#[97]⟩, ⟨2, 0, 0, ⟨#[]⟩⟩, []⟩] := by simp [setP, newP]
    unfold setR
    rw [if_pos e1, e2, if_pos (by simp)]
  rw [h2] at h1
  refine h1.mono ?_
  rintro e w' ⟨q, m, c, r, rfl, hp, hr, hb⟩
  have h3 : m = 1 := by rw [hp.hn, ← List.length_map (f := Pr.c), hr]; rfl
  subst h3
  exact ⟨q, c, rfl, hb⟩

theorem same_two {w : World} (t : TypeId) {a : At} {l : List At} {q m c q' m' c'} (hv : VaOk w a q m c l) (hz : q = none → c = 0) (hv' : VaOk w a q' m' c' l) (hz' : q' = none → c' = 0) :
    Calls Try.prog 17 #[.slice (some ⟨w.heap.size, 0, none⟩) 1 1, .slice (some ⟨w.heap.size + 1, 0, none⟩) 1 1] ((w.alloc (.cells #[.string ⟨#[]⟩, .int .i64 a.k, .int .i64 a.n, .float .f64 a.f, .string a.s, .slice q m c] t)).alloc (.cells #[.string ⟨#[]⟩, .int .i64 a.k, .int .i64 a.n, .float .f64 a.f, .string a.s, .slice q' m' c'] t)) fun e w' => e = .returned (.bool true) ∧ Below w.heap.size w w' := by
  have hb : Below w.heap.size w (w.alloc (.cells #[.string ⟨#[]⟩, .int .i64 a.k, .int .i64 a.n, .float .f64 a.f, .string a.s, .slice q m c] t)) := (Below.refl _ _).alloc (Nat.le_refl _) _
  have h1 := ps_one t hv hz
  have h2 := ps_one t (hv'.below hb) hz'
  have e : (w.alloc (.cells #[.string ⟨#[]⟩, .int .i64 a.k, .int .i64 a.n, .float .f64 a.f, .string a.s, .slice q m c] t)).heap.size = w.heap.size + 1 := by simp
  rw [e] at h2
  have hb2 := (Below.refl (w.alloc (.cells #[.string ⟨#[]⟩, .int .i64 a.k, .int .i64 a.n, .float .f64 a.f, .string a.s, .slice q m c] t)).heap.size (w.alloc (.cells #[.string ⟨#[]⟩, .int .i64 a.k, .int .i64 a.n, .float .f64 a.f, .string a.s, .slice q m c] t))).alloc (Nat.le_refl _) (.cells #[.string ⟨#[]⟩, .int .i64 a.k, .int .i64 a.n, .float .f64 a.f, .string a.s, .slice q' m' c'] t)
  refine (refSameProps_any (h1.below hb2) h2).mono ?_
  rintro e w' ⟨rfl, hb3⟩
  refine ⟨?_, hb.trans ((hb2.trans (hb3.mono hb2.size)).mono hb.size)⟩
  rw [show sameP ([⟨⟨#[]⟩, ⟨a, q, m, c, l⟩⟩].map Pr.c) ([⟨⟨#[]⟩, ⟨a, q', m', c', l⟩⟩].map Pr.c) = true from sameP_self _]

set_option maxHeartbeats 12800000 in
theorem lawRSets_any {w : World} {q : Option Addr} {m c : Nat} {l : List Pr} (h : PsOk w q m c l) (hm : m ≤ 140737488351232) (hsm : ∀ x ∈ l, x.Small) (nm : ByteArray) (hs : nm.size ≤ 140737488351232)
    {v : Va} (hv : v.Ok w) (hz : v.q = none → v.c = 0) (hvs : v.Small) :
    Calls Try.prog 4 #[.slice q m c, .string nm, .agg #[.int .i64 v.a.k, .int .i64 v.a.n, .float .f64 v.a.f, .string v.a.s, .slice v.q v.m v.c]] w fun e w' => e = .returned (.bool true) ∧ Below w.heap.size w w' := by
  have hst := store_flt
  obtain ⟨W, hW⟩ : ∃ W, W = w.alloc (.cells #[.int .i64 v.a.k, .int .i64 v.a.n, .float .f64 v.a.f, .string v.a.s, .slice v.q v.m v.c] 46) := ⟨_, rfl⟩
  have HK : Hid (∀ w', Below W.heap.size W w' → (w'.cell? ⟨w.heap.size, 0, none⟩ = some (.int .i64 v.a.k) ∧ w'.cell? ⟨w.heap.size, 1, none⟩ = some (.int .i64 v.a.n) ∧ w'.cell? ⟨w.heap.size, 2, none⟩ = some (.float .f64 v.a.f) ∧ w'.cell? ⟨w.heap.size, 3, none⟩ = some (.string v.a.s) ∧ w'.cell? ⟨w.heap.size, 4, none⟩ = some (.slice v.q v.m v.c)) ∧ w.heap.size < w'.heap.size) := by
    refine Lib.hid fun w' hb => ?_
    have hsz := hb.size
    rw [hW] at hb
    have h1 := box_all hb
    exact ⟨⟨h1 0, h1 1, h1 2, h1 3, h1 4⟩, by rw [hW] at hsz; simp at hsz; omega⟩
  have HWB : Hid (∀ w', Below W.heap.size W w' → Below w.heap.size w w') := by
    refine Lib.hid fun w' hb => ?_
    rw [hW] at hb
    exact box_below hb
  have hs63 : nm.size ≤ 9223372036854775807 := by omega
  have hws : W.heap.size = w.heap.size + 1 := by rw [hW]; simp
  have HF1 : Hid (Calls Try.prog 6 #[.slice (some ⟨w.heap.size + 1, 0, none⟩) 1 1, .slice q m c] (W.alloc (.cells #[.string nm] 9)) (FewPost (W.alloc (.cells #[.string nm] 9)) m l)) :=
    Lib.hid (by
      rw [← hws]
      exact few_tells (ss_one _ nm hs63) (h.below (HWB.out _ ((Below.refl _ _).alloc (Nat.le_refl _) _))) (by omega) hm (fun s h => by rw [List.mem_singleton.1 h]; exact hs) hsm)
  have HF2 : Hid (∀ w', Below W.heap.size W w' → Calls Try.prog 6 #[.slice none 0 0, .slice (some ⟨w'.heap.size, 0, none⟩) 1 1] (w'.alloc (.cells #[.string ⟨#[]⟩, .int .i64 v.a.k, .int .i64 v.a.n, .float .f64 v.a.f, .string v.a.s, .slice v.q v.m v.c] 48)) (FewPost (w'.alloc (.cells #[.string ⟨#[]⟩, .int .i64 v.a.k, .int .i64 v.a.n, .float .f64 v.a.f, .string v.a.s, .slice v.q v.m v.c] 48)) 1 [⟨⟨#[]⟩, v⟩])) :=
    Lib.hid fun w' hb => few_tells (q := none) (m := 0) (c := 0) (ls := []) ⟨rfl, Nat.le_refl _, by omega, Ss.nil _ _, fun x h => by cases h⟩ (ps_one _ (hv.below (HWB.out _ hb)) hz) (by omega) (by omega) (fun s h => by cases h) (fun x hx => by rw [List.mem_singleton.1 hx]; exact ⟨by show (⟨#[]⟩ : ByteArray).size ≤ _; decide, hvs⟩)
  have HGB : Hid ((∀ x ∈ l, x.v.l.length ≤ 900) → ∃ (a : At) (la : List At) (b : Bool), (∀ w', Below w.heap.size w w' → Calls Try.prog 13 #[.slice q m c, .string nm] w' (G2 w' a la b)) ∧ (∀ w', Below w.heap.size w w' → Calls Try.prog 14 #[.slice q m c, .string nm] w' (G2 w' a la b))) := Lib.hid fun hl => get_both h hl nm
  obtain ⟨X, hX⟩ : ∃ X, X = setR (l.map Pr.c) ⟨nm, v.a, v.l⟩ := ⟨_, rfl⟩
  have HS1 : Hid (∀ w', Below W.heap.size W w' → Calls Try.prog 15 #[.slice q m c, .string nm, .agg #[.int .i64 v.a.k, .int .i64 v.a.n, .float .f64 v.a.f, .string v.a.s, .slice v.q v.m v.c]] w' (SePost w' X)) := Lib.hid fun w' hb => by rw [hX]; exact set_any (h.below (HWB.out _ hb)) nm hs63 (hv.below (HWB.out _ hb)) hz
  have HS2 : Hid (m ≤ 1000 → ∀ w', Below W.heap.size W w' → Calls Try.prog 16 #[.slice q m c, .string nm, .agg #[.int .i64 v.a.k, .int .i64 v.a.n, .float .f64 v.a.f, .string v.a.s, .slice v.q v.m v.c]] w' (SePost w' X)) := Lib.hid fun hm w' hb => by rw [hX]; exact refSet_any (h.below (HWB.out _ hb)) hm nm hs63 (hv.below (HWB.out _ hb)) hz
  have HN1 : Hid (∀ w', Calls Try.prog 18 #[.string nm] w' fun e w'' => e = .returned (.bool (nameOk nm)) ∧ w' = w'') := Lib.hid fun w' => name_any nm hs63
  have HN2 : Hid (∀ w', Calls Try.prog 19 #[.string nm] w' fun e w'' => e = .returned (.bool (nameOk nm)) ∧ w' = w'') := Lib.hid fun w' => refName_any nm hs63
  clear h hsm hs hv hz hvs hX hs63 hm hws
  generalize nameOk nm = nb at *
  go_enter Try.func4, Try.ntmps4
  go_wp2_with fail
  rw [← hW]
  replace hW := Lib.hid hW
  with_reducible refine HF1.out.mono ?_
  rintro e w1 ⟨b1, rfl, hb1, hB1⟩
  have HB1 : Hid (Below W.heap.size W w1) := Lib.hid (((Below.refl W.heap.size W).alloc (Nat.le_refl _) _).trans (hB1.mono (by simp)))
  have HP1 := Lib.hid hb1
  clear hb1 hB1
  cases b1
  · go_wp2
    go_ret
    exact ⟨rfl, HWB.out _ HB1.out⟩
  obtain ⟨⟨a0, a1, a2, a3, a4⟩, a5⟩ := HK.out w1 HB1.out
  have HC2 := Lib.hid (HF2.out w1 HB1.out)
  go_wp2_with fail
  with_reducible refine HC2.out.mono ?_
  rintro e w2 ⟨b2, rfl, hb2, hB2⟩
  have HB2 : Hid (Below W.heap.size W w2) := Lib.hid (HB1.out.trans ((((Below.refl w1.heap.size w1).alloc (Nat.le_refl _) _).trans (hB2.mono (by simp))).mono HB1.out.size))
  clear hb2 hB2 a0 a1 a2 a3 a4 a5 HC2
  cases b2
  · go_wp2
    go_ret
    exact ⟨rfl, HWB.out _ HB2.out⟩
  obtain ⟨hm900, hlen⟩ := HP1.out (by trivial)
  obtain ⟨a, la, ba, hg1, hg2⟩ := HGB.out hlen
  have HG1 := Lib.hid hg1
  have HG2 := Lib.hid hg2
  have HS2 := Lib.hid (HS2.out (by omega))
  clear hg1 hg2 hlen HGB HP1
  go_wp2_with fail
  with_reducible refine (HG1.out _ (HWB.out _ HB2.out)).mono ?_
  rintro e w3 ⟨q3, m3, c3, rfl, hv3, hz3, hB3⟩
  have HB3 : Hid (Below W.heap.size W w3) := Lib.hid (HB2.out.trans (hB3.mono HB2.out.size))
  have HV3 := Lib.hid hv3
  have HZ3 := Lib.hid hz3
  clear hv3 hz3 hB3
  obtain ⟨W3, hW3⟩ : ∃ W3, W3 = w3.alloc (.cells #[.int .i64 a.k, .int .i64 a.n, .float .f64 a.f, .string a.s, .slice q3 m3 c3] 46) := ⟨_, rfl⟩
  have HC3 : Hid (Below w3.heap.size w3 W3) := Lib.hid (by rw [hW3]; exact (Below.refl _ _).alloc (Nat.le_refl _) _)
  have HK3 : Hid (∀ w', Below W3.heap.size W3 w' → (w'.cell? ⟨w3.heap.size, 0, none⟩ = some (.int .i64 a.k) ∧ w'.cell? ⟨w3.heap.size, 1, none⟩ = some (.int .i64 a.n) ∧ w'.cell? ⟨w3.heap.size, 2, none⟩ = some (.float .f64 a.f) ∧ w'.cell? ⟨w3.heap.size, 3, none⟩ = some (.string a.s) ∧ w'.cell? ⟨w3.heap.size, 4, none⟩ = some (.slice q3 m3 c3)) ∧ w3.heap.size < w'.heap.size) := by
    refine Lib.hid fun w' hb => ?_
    have hsz := hb.size
    rw [hW3] at hb
    have h1 := box_all hb
    exact ⟨⟨h1 0, h1 1, h1 2, h1 3, h1 4⟩, by rw [hW3] at hsz; simp at hsz; omega⟩
  have HB3' : Hid (Below W.heap.size W W3) := Lib.hid (HB3.out.trans (HC3.out.mono HB3.out.size))
  go_wp2_with fail
  rw [← hW3]
  replace hW3 := Lib.hid hW3
  with_reducible refine (HG2.out _ (HWB.out _ HB3'.out)).mono ?_
  rintro e w4 ⟨q4, m4, c4, rfl, hv4, hz4, hB4⟩
  have HD4 : Hid (Below W3.heap.size W3 w4) := Lib.hid hB4
  have HV4 := Lib.hid hv4
  have HZ4 := Lib.hid hz4
  clear hv4 hz4 hB4
  obtain ⟨W4, hW4⟩ : ∃ W4, W4 = w4.alloc (.cells #[.int .i64 a.k, .int .i64 a.n, .float .f64 a.f, .string a.s, .slice q4 m4 c4] 46) := ⟨_, rfl⟩
  have HC4 : Hid (Below w4.heap.size w4 W4) := Lib.hid (by rw [hW4]; exact (Below.refl _ _).alloc (Nat.le_refl _) _)
  have HK4 : Hid (∀ w', Below W4.heap.size W4 w' → (w'.cell? ⟨w4.heap.size, 0, none⟩ = some (.int .i64 a.k) ∧ w'.cell? ⟨w4.heap.size, 1, none⟩ = some (.int .i64 a.n) ∧ w'.cell? ⟨w4.heap.size, 2, none⟩ = some (.float .f64 a.f) ∧ w'.cell? ⟨w4.heap.size, 3, none⟩ = some (.string a.s) ∧ w'.cell? ⟨w4.heap.size, 4, none⟩ = some (.slice q4 m4 c4)) ∧ w4.heap.size < w'.heap.size) := by
    refine Lib.hid fun w' hb => ?_
    have hsz := hb.size
    rw [hW4] at hb
    have h1 := box_all hb
    exact ⟨⟨h1 0, h1 1, h1 2, h1 3, h1 4⟩, by rw [hW4] at hsz; simp at hsz; omega⟩
  have HD4' : Hid (Below W3.heap.size W3 W4) := Lib.hid (HD4.out.trans (HC4.out.mono HD4.out.size))
  have HB4' : Hid (Below W.heap.size W W4) := Lib.hid (HB3'.out.trans (HD4'.out.mono HB3'.out.size))
  obtain ⟨⟨a0, a1, a2, a3, a4⟩, a5⟩ := HK.out W4 HB4'.out
  have HC5 := Lib.hid (HS1.out W4 HB4'.out)
  rw [hW4] at a0 a1 a2 a3 a4 a5
  go_wp2_with fail
  rw [← hW4] at a0 a1 a2 a3 a4 a5 ⊢
  replace hW4 := Lib.hid hW4
  with_reducible refine HC5.out.mono ?_
  rintro e w5 ⟨q5, m5, c5, r5, rfl, hp5, hr5, hB5⟩
  have HD5 : Hid (Below W4.heap.size W4 w5) := Lib.hid hB5
  have HP5 := Lib.hid hp5
  have HR5 := Lib.hid hr5
  have HB5 : Hid (Below W.heap.size W w5) := Lib.hid (HB4'.out.trans (hB5.mono HB4'.out.size))
  clear hp5 hr5 hB5 a0 a1 a2 a3 a4 a5 HC5
  obtain ⟨⟨a0, a1, a2, a3, a4⟩, a5⟩ := HK.out w5 HB5.out
  have HC6 := Lib.hid (HS2.out w5 HB5.out)
  go_wp2_with fail
  with_reducible refine HC6.out.mono ?_
  rintro e w6 ⟨q6, m6, c6, r6, rfl, hp6, hr6, hB6⟩
  have HD6 : Hid (Below W4.heap.size W4 w6) := Lib.hid (HD5.out.trans (hB6.mono HD5.out.size))
  have HP6 := Lib.hid hp6
  have HR6 := Lib.hid hr6
  have HP5' : Hid (PsOk w6 q5 m5 c5 r5) := Lib.hid (HP5.out.below hB6)
  clear hp6 hr6 hB6 a0 a1 a2 a3 a4 a5 HC6
  have HC7 := Lib.hid (set_one w6)
  go_wp2_with fail
  with_reducible refine HC7.out.mono ?_
  rintro e w7 ⟨q7, c7, rfl, hB7⟩
  have HD7 : Hid (Below W4.heap.size W4 w7) := Lib.hid (HD6.out.trans (hB7.mono HD6.out.size))
  have HE7 : Hid (Below W3.heap.size W3 w7) := Lib.hid (HD4'.out.trans (HD7.out.mono HD4'.out.size))
  have HB7 : Hid (Below W.heap.size W w7) := Lib.hid (HB4'.out.trans (HD7.out.mono HB4'.out.size))
  have HQ5 : Hid (PsOk w7 q5 m5 c5 r5) := Lib.hid (HP5'.out.below hB7)
  have HQ6 : Hid (PsOk w7 q6 m6 c6 r6) := Lib.hid (HP6.out.below hB7)
  clear hB7 HC7 HP5 HP5' HP6
  have HV3' : Hid (VaOk w7 a q3 m3 c3 la) := Lib.hid (HV3.out.below (HC3.out.trans (HE7.out.mono HC3.out.size)))
  have HV4' : Hid (VaOk w7 a q4 m4 c4 la) := Lib.hid (HV4.out.below (HC4.out.trans (HD7.out.mono HC4.out.size)))
  have HC8 := Lib.hid (same_two (w := w7) 48 HV3'.out HZ3.out HV4'.out HZ4.out)
  obtain ⟨⟨a0, a1, a2, a3, a4⟩, a5⟩ := HK3.out w7 HE7.out
  have hbx : Below W4.heap.size W4 (w7.alloc (.cells #[.string ⟨#[]⟩, .int .i64 a.k, .int .i64 a.n, .float .f64 a.f, .string a.s, .slice q3 m3 c3] 48)) := HD7.out.alloc HD7.out.size _
  obtain ⟨⟨b0, b1, b2, b3, b4⟩, b5⟩ := HK4.out _ hbx
  clear hbx
  go_wp2_with fail
  with_reducible refine HC8.out.mono ?_
  rintro e w8 ⟨rfl, hB8⟩
  have HB8 : Hid (Below W.heap.size W w8) := Lib.hid (HB7.out.trans (hB8.mono HB7.out.size))
  have HC9 : Hid (Calls Try.prog 17 #[.slice q5 m5 c5, .slice q6 m6 c6] w8 fun e w' => e = .returned (.bool true) ∧ Below w8.heap.size w8 w') := Lib.hid (by
    refine (refSameProps_any (HQ5.out.below hB8) (HQ6.out.below hB8)).mono ?_
    rintro e w' ⟨rfl, hb⟩
    rw [HR5.out, HR6.out, sameP_self]
    exact ⟨rfl, hb⟩)
  clear hB8 HC8 a0 a1 a2 a3 a4 a5 b0 b1 b2 b3 b4 b5
  have hba : (ba == ba) = true := by simp
  generalize X.2 = z at *
  go_wp2_with fail
  with_reducible refine HC9.out.mono ?_
  rintro e w9 ⟨rfl, hB9⟩
  have HB9 : Hid (Below W.heap.size W w9) := Lib.hid (HB8.out.trans (hB9.mono HB8.out.size))
  clear hB9 HC9
  go_wp2_with fail
  with_reducible refine (HN1.out _).mono ?_
  rintro e w10 ⟨rfl, rfl⟩
  go_wp2_with fail
  with_reducible refine (HN2.out _).mono ?_
  rintro e w10 ⟨rfl, rfl⟩
  go_wp2
  go_ret
  exact ⟨ret_bool (by simp), HWB.out _ HB9.out⟩

end Go.Proofs.Ytekaedafhiddeaa
