/-
  record.Set: its contract.
-/
import Derived.Test.YtekaedafhiddeaaRSetC
set_option linter.unusedVariables false
set_option maxRecDepth 100000
namespace Go.Proofs.Ytekaedafhiddeaa
open Go.RowKit

theorem valid_len {a : At} {l : List At} (h : validV a l = true) : l.length ≤ 16 := by
  rcases valid_parts h with ⟨_, _, _, _, h16, _⟩ | ⟨_, h0, _⟩
  · exact h16
  · rw [h0]; simp
theorem set_split {l : List Pc} {x : Pc} {k : Nat} {b : Bool} (hi : Inc l) (h : At1 l x.n k b) : setP l x = l.take k ++ (newP x ++ l.drop (if b = true then k + 1 else k)) := by
  obtain ⟨h1, h2⟩ := split_at hi h.lo h.hi h.eq
  unfold setP
  rw [h1, h2]

set_option maxHeartbeats 3000000 in
theorem set_any {w : World} {q : Option Addr} {m c : Nat} {l : List Pr} (h : PsOk w q m c l) (nm : ByteArray) (hs : nm.size ≤ 9223372036854775807)
    {k n : Int} {f : Nat} {s : ByteArray} {q' : Option Addr} {m' c' : Nat} {l' : List At} (hv : VaOk w ⟨k, n, f, s⟩ q' m' c' l') (hz : q' = none → c' = 0) :
    Calls Try.prog 15 #[.slice q m c, .string nm, .agg #[.int .i64 k, .int .i64 n, .float .f64 f, .string s, .slice q' m' c']] w (SePost w (setR (l.map Pr.c) ⟨nm, ⟨k, n, f, s⟩, l'⟩)) := by
  have hst := store_flt
  have HE : Hid (setR (l.map Pr.c) ⟨nm, ⟨k, n, f, s⟩, l'⟩ = if (nameOk nm && (validV ⟨k, n, f, s⟩ l' && propsR (l.map Pr.c))) = true then (if (setP (l.map Pr.c) ⟨nm, ⟨k, n, f, s⟩, l'⟩).length ≤ 16 then (setP (l.map Pr.c) ⟨nm, ⟨k, n, f, s⟩, l'⟩, 0) else ([], 15)) else ([], 2)) := Lib.hid rfl
  have HN := Lib.hid (fun w => name_any (w := w) nm hs)
  obtain ⟨W, hW⟩ : ∃ W, W = w.alloc (.cells #[.int .i64 k, .int .i64 n, .float .f64 f, .string s, .slice q' m' c'] 46) := ⟨_, rfl⟩
  have HK : Hid (∀ w', Below W.heap.size W w' → (w'.cell? ⟨w.heap.size, 0, none⟩ = some (.int .i64 k) ∧ w'.cell? ⟨w.heap.size, 1, none⟩ = some (.int .i64 n) ∧ w'.cell? ⟨w.heap.size, 2, none⟩ = some (.float .f64 f) ∧ w'.cell? ⟨w.heap.size, 3, none⟩ = some (.string s) ∧ w'.cell? ⟨w.heap.size, 4, none⟩ = some (.slice q' m' c'))) := by
    refine Lib.hid fun w' hb => ?_
    rw [hW] at hb
    have h1 := box_all hb
    exact ⟨h1 0, h1 1, h1 2, h1 3, h1 4⟩
  have HWB : Hid (∀ w', Below W.heap.size W w' → Below w.heap.size w w') := by
    refine Lib.hid fun w' hb => ?_
    rw [hW] at hb
    exact box_below hb
  have HWs : Hid (W.heap.size = w.heap.size + 1) := Lib.hid (by rw [hW]; simp)
  have HVL : Hid (∀ w', Below w.heap.size w w' → Calls Try.prog 38 #[.agg #[.int .i64 k, .int .i64 n, .float .f64 f, .string s, .slice q' m' c']] w' fun e w'' => e = .returned (.bool (validV ⟨k, n, f, s⟩ l')) ∧ Below w'.heap.size w' w'') := Lib.hid fun w' hb => valid_any (hv.below hb)
  have HPR : Hid (∀ w', Below w.heap.size w w' → Calls Try.prog 39 #[.slice q m c] w' fun e w'' => e = .returned (.bool (propsR (l.map Pr.c))) ∧ Below w'.heap.size w' w'') := Lib.hid fun w' hb => propsRight_any (h.below hb)
  have HRI : Hid (propsR (l.map Pr.c) = true → Right (l.map Pr.c)) := Lib.hid fun h => (propsR_iff _).1 h
  have HVLEN : Hid (validV ⟨k, n, f, s⟩ l' = true → l'.length ≤ 16) := Lib.hid valid_len
  have HV := Lib.hid hv
  have HZ := Lib.hid hz
  have HP := Lib.hid h
  have h1 := h.h1
  have h2 := h.h2
  have h1' := hv.h1
  have h2' := hv.h2
  clear hv hz h
  generalize setR (l.map Pr.c) ⟨nm, ⟨k, n, f, s⟩, l'⟩ = R at *
  generalize nameOk nm = x1 at *
  generalize validV ⟨k, n, f, s⟩ l' = x2 at *
  generalize propsR (l.map Pr.c) = x3 at *
  have hnot : ∀ (x : Bool) (w : World), (Op.unary .not (.bool x)).run Try.prog w = .ok (.bool (!x)) w := fun _ _ => rfl
  go_enter Try.func15, Try.ntmps15
  go_wp2_with fail
  rw [← hW]
  replace hW := Lib.hid hW
  refine (HN.out _).mono ?_
  rintro e w' ⟨rfl, rfl⟩
  have hw0 : w.heap.size < W.heap.size := by have := HWs.out; omega
  obtain ⟨k0, k1, k2, k3, k4⟩ := HK.out _ (Below.refl _ _)
  cases x1
  · have HX : Hid (R = ([], 2)) := Lib.hid (by rw [HE.out]; rfl)
    go_wp2
    go_ret2
    exact ⟨none, 0, 0, [], by rw [HX.out]; rfl, ⟨rfl, by omega, by omega, fun _ => rfl, Ps.nil _ _⟩, by rw [HX.out]; rfl, HWB.out _ (Below.refl _ _)⟩
  go_wp2_with fail
  refine (HVL.out _ (HWB.out _ (Below.refl _ _))).mono ?_
  rintro e w1 ⟨rfl, hb1⟩
  have HB1 := Lib.hid hb1
  have hw1 : w.heap.size < w1.heap.size := by have := HWs.out; have := hb1.size; omega
  clear hb1 k0 k1 k2 k3 k4
  cases x2
  · have HX : Hid (R = ([], 2)) := Lib.hid (by rw [HE.out]; rfl)
    go_wp2
    go_ret2
    exact ⟨none, 0, 0, [], by rw [HX.out]; rfl, ⟨rfl, by omega, by omega, fun _ => rfl, Ps.nil _ _⟩, by rw [HX.out]; rfl, HWB.out _ HB1.out⟩
  go_wp2_with fail
  refine (HPR.out _ (HWB.out _ HB1.out)).mono ?_
  rintro e w2 ⟨rfl, hb2⟩
  have HB2 : Hid (Below W.heap.size W w2) := Lib.hid (HB1.out.trans (hb2.mono HB1.out.size))
  have hw2 : w.heap.size < w2.heap.size := by have := HWs.out; have := HB2.out.size; omega
  clear hb2 hw1
  cases x3
  · have HX : Hid (R = ([], 2)) := Lib.hid (by rw [HE.out]; rfl)
    go_wp2
    go_ret2
    exact ⟨none, 0, 0, [], by rw [HX.out]; rfl, ⟨rfl, by omega, by omega, fun _ => rfl, Ps.nil _ _⟩, by rw [HX.out]; rfl, HWB.out _ HB2.out⟩
  have HR := Lib.hid (HRI.out (by trivial))
  have HL16 := Lib.hid (HVLEN.out (by trivial))
  have hm16 : m ≤ 16 := by have h := HR.out.n16; rw [List.length_map, ← HP.out.hn] at h; exact h
  have HX : Hid (R = if (setP (l.map Pr.c) ⟨nm, ⟨k, n, f, s⟩, l'⟩).length ≤ 16 then (setP (l.map Pr.c) ⟨nm, ⟨k, n, f, s⟩, l'⟩, 0) else ([], 15)) := Lib.hid (by rw [HE.out]; rfl)
  have HBS : Hid (Calls Try.prog 40 #[.slice q m c, .string nm, .func (.func 41) #[] #[]] w2 (BsPost w2 (l.map Pr.c) nm)) := Lib.hid (bsearch_any (HP.out.below (HWB.out _ HB2.out)) hm16 HR.out.inc nm)
  have HLN : Hid (∀ x ∈ l, x.v.l.length ≤ 100000) := Lib.hid fun x hx => by
    have := valid_len (HR.out.va x.c (List.mem_map.2 ⟨x, hx, rfl⟩)).2
    have e : x.c.l = x.v.l := rfl
    rw [e] at this
    omega
  clear HE HRI HVLEN HN HVL HPR
  go_wp2_with fail
  refine HBS.out.mono ?_
  rintro e w3 ⟨at1, b, rfl, hat, hb3⟩
  have HB3 : Hid (Below W.heap.size W w3) := Lib.hid (HB2.out.trans (hb3.mono HB2.out.size))
  have hatm : at1 ≤ m := by have h := hat.le; rw [List.length_map, ← HP.out.hn] at h; exact h
  have HS : Hid (setP (l.map Pr.c) ⟨nm, ⟨k, n, f, s⟩, l'⟩ = (l.map Pr.c).take at1 ++ (newP ⟨nm, ⟨k, n, f, s⟩, l'⟩ ++ (l.map Pr.c).drop (if b = true then at1 + 1 else at1))) := Lib.hid (set_split (x := ⟨nm, ⟨k, n, f, s⟩, l'⟩) HR.out.inc hat)
  have HNEW : Hid (newP ⟨nm, ⟨k, n, f, s⟩, l'⟩ = if k = 0 then [] else [⟨nm, ⟨k, n, f, s⟩, l'⟩]) := Lib.hid rfl
  have HBT : Hid (b = true → at1 < m) := Lib.hid fun h => by
    obtain ⟨p, hp, _⟩ := hat.eq.1 h
    have := (List.getElem?_eq_some_iff.1 hp).1
    rw [List.length_map, ← HP.out.hn] at this
    exact this
  have HAP1 : Hid (Calls Try.prog 43 #[.slice none 0 0, .slice q at1 c] w3 fun e w' => ∃ v' r, e = .returned v' ∧ POwn w' W.heap.size v' ([] ++ r) ∧ r.map Pr.c = (l.take at1).map Pr.c ∧ (∀ x ∈ [] ++ r, x.Ok w' ∧ x.Apart v') ∧ Below W.heap.size w3 w') :=
    Lib.hid (appendProps_any (POwn.nil _ _) HB3.out.size (by simp) (by simp) (fun x hx => HLN.out x (List.mem_of_mem_take hx)) (by omega) (fun w' hb => (HP.out.below (HWB.out _ (HB3.out.trans hb))).take hatm))
  clear hat hb3 hw2 HBS
  have hw3 : w.heap.size < w3.heap.size := by have := HWs.out; have := HB3.out.size; omega
  cases b
  · go_wp2_with fail
    refine HAP1.out.mono ?_
    rintro e w4 ⟨v4, r4, rfl, ho4, hm4, hk4, hb4⟩
    rw [List.nil_append] at ho4 hk4
    have HB4 : Hid (Below W.heap.size W w4) := Lib.hid (HB3.out.trans hb4)
    have HO4 := Lib.hid ho4
    have HM4 := Lib.hid hm4
    have HOK4 := Lib.hid hk4
    have HRL : Hid (r4.length ≤ 16) := Lib.hid (by
      have h := congrArg List.length hm4
      rw [List.length_map, List.length_map, List.length_take] at h
      omega)
    clear ho4 hm4 hk4 hb4 hw3 HAP1
    obtain ⟨k0, k1, k2, k3, k4⟩ := HK.out _ HB4.out
    have hw4 : w.heap.size < w4.heap.size := by have := HWs.out; have := HB4.out.size; omega
    by_cases hk0 : k = 0
    · have hk0' : (k != 0) = false := by simp [hk0]
      obtain ⟨qx, hqx, hqy⟩ := from_props (q := q) h1 (show at1 ≤ m by omega) HP.out.h0
      have HQX := Lib.hid hqy
      clear hqy
      obtain ⟨n6, hn6⟩ : ∃ y, y = r4.length := ⟨_, rfl⟩
      obtain ⟨p6, e6, rfl, _⟩ := HO4.out.form hn6
      clear hn6
      have HRL6 := Lib.hid HRL.out
      clear k1 k2 k3 k4
      have HAP2 : Hid (∀ qx, (∀ W' , PsOk W' q m c l → PsOk W' qx (m - at1) (c - at1) (l.drop at1)) → Calls Try.prog 43 #[.slice p6 n6 e6, .slice qx (m - at1) (c - at1)] w4 fun e w' => ∃ v' r, e = .returned v' ∧ POwn w' W.heap.size v' (r4 ++ r) ∧ r.map Pr.c = (l.drop at1).map Pr.c ∧ (∀ x ∈ r4 ++ r, x.Ok w' ∧ x.Apart v') ∧ Below W.heap.size w4 w') :=
        Lib.hid fun qx hqx => appendProps_any HO4.out HB4.out.size HOK4.out (by have := HRL6.out; omega) (fun x hx => HLN.out x (List.mem_of_mem_drop hx)) (by omega) (fun w' hb => hqx _ (HP.out.below (HWB.out _ (HB4.out.trans hb))))
      have HQY := Lib.hid (HAP2.out qx fun W' h => HQX.out W' l h)
      clear HQX HAP2
      go_wp2_with fail
      refine HQY.out.mono ?_
      rintro e w7 ⟨v7, r7, rfl, ho7, hm7, hk7, hb7⟩
      have HB7 : Hid (Below W.heap.size W w7) := Lib.hid (HB4.out.trans hb7)
      have HALL : Hid ((r4 ++ r7).map Pr.c = setP (l.map Pr.c) ⟨nm, ⟨k, n, f, s⟩, l'⟩) := Lib.hid (by
        rw [HS.out, HNEW.out, List.map_append, hm7, List.map_drop]
        rw [if_pos hk0, if_neg (by decide : ¬ (false = true)), HM4.out, List.nil_append, List.map_take])
      obtain ⟨n7, hn7⟩ : ∃ y, y = (r4 ++ r7).length := ⟨_, rfl⟩
      have HN7 : Hid (n7 = (setP (l.map Pr.c) ⟨nm, ⟨k, n, f, s⟩, l'⟩).length) := Lib.hid (by rw [← HALL.out, List.length_map]; exact hn7)
      obtain ⟨p7, e7, rfl, hps⟩ := ho7.form hn7
      have HPS := Lib.hid (hps fun x hx => (hk7 x hx).1)
      have HX7 : Hid (R = if n7 ≤ 16 then (setP (l.map Pr.c) ⟨nm, ⟨k, n, f, s⟩, l'⟩, 0) else ([], 15)) := Lib.hid (by rw [HX.out, HN7.out])
      clear ho7 hm7 hk7 hb7 hps hn7
      by_cases h16 : n7 ≤ 16
      · have HXX : Hid (R = (setP (l.map Pr.c) ⟨nm, ⟨k, n, f, s⟩, l'⟩, 0)) := Lib.hid (by rw [HX7.out, if_pos h16])
        go_wp2
        go_ret2
        exact ⟨p7, n7, e7, _, by rw [HXX.out]; rfl, HPS.out, by rw [HXX.out]; exact HALL.out, HWB.out _ HB7.out⟩
      · have HXX : Hid (R = ([], 15)) := Lib.hid (by rw [HX7.out, if_neg h16])
        go_wp2
        go_ret2
        exact ⟨none, 0, 0, [], by rw [HXX.out]; rfl, ⟨rfl, by omega, by omega, fun _ => rfl, Ps.nil _ _⟩, by rw [HXX.out]; rfl, HWB.out _ HB7.out⟩
    · have hk0' : (k != 0) = true := by simpa using hk0
      obtain ⟨qx, hqx, hqy⟩ := from_props (q := q) h1 (show at1 ≤ m by omega) HP.out.h0
      have HQX := Lib.hid hqy
      clear hqy
      have HAPV : Hid (Calls Try.prog 37 #[.agg #[.int .i64 k, .int .i64 n, .float .f64 f, .string s, .slice q' m' c']] w4 (ApPost w4 ⟨k, n, f, s⟩ l')) := Lib.hid (apartV_any (HV.out.below (HWB.out _ HB4.out)) HZ.out (by have := HL16.out; omega))
      go_wp2_with fail
      refine HAPV.out.mono ?_
      rintro e w5 ⟨q5, m5, d5, rfl, ho5, hb5⟩
      have HB5 : Hid (Below W.heap.size W w5) := Lib.hid (HB4.out.trans (hb5.mono HB4.out.size))
      obtain ⟨e5, g1, g2, hs5⟩ := ho5.len
      have HNW : Hid (Pr.Ok w5 ⟨nm, ⟨⟨k, n, f, s⟩, q5, m5, d5, l'⟩⟩ ∧ Pr.Apart ⟨nm, ⟨⟨k, n, f, s⟩, q5, m5, d5, l'⟩⟩ v4) := Lib.hid ⟨⟨hs, ⟨HV.out.ok, e5, g1, g2, hs5, HV.out.hok⟩, ho5.none_zero⟩, fun kk hk _ a ha => by have h1 := (World.ownsRow.lt HO4.out kk hk).2; dsimp only at ha; subst ha; have h2 := (World.ownsRow.lt ho5 a.block rfl).1; omega⟩
      have HO5 := Lib.hid (HO4.out.below hb5)
      have HOK5 : Hid (∀ y ∈ r4, y.Ok w5 ∧ y.Apart v4) := Lib.hid fun y hy => ⟨(HOK4.out y hy).1.below hb5, (HOK4.out y hy).2⟩
      clear ho5 hb5 e5 hs5 HO4 HOK4 k0 k1 k2 k3 k4
      go_wp2_with (at_builtin; refine app_prop rfl (.tmp 43) (.tmp 48) rfl ⟨nm, ⟨⟨k, n, f, s⟩, q5, m5, d5, l'⟩⟩ rfl (HO5.out.below ((Below.refl _ _).alloc (Nat.le_refl _) _)) rfl rfl (pr_src rfl _ _) (by have := HRL.out; omega) (by have := HB5.out.size; simp; omega) ?_; intro v6 w6 ho6 hb6 hk6; have HO6 := Lib.hid ho6; have HB6 : Hid (Below W.heap.size W w6) := Lib.hid ((HB5.out.alloc HB5.out.size _).trans hb6); have HOK6 : Hid (∀ y ∈ r4 ++ [⟨nm, ⟨⟨k, n, f, s⟩, q5, m5, d5, l'⟩⟩], y.Ok w6 ∧ y.Apart v6) := Lib.hid (fun y hy => by rcases List.mem_append.1 hy with h | h; exact hk6 y ((HOK5.out y h).1.below ((Below.refl _ _).alloc (Nat.le_refl _) _)) (HOK5.out y h).2; obtain rfl := List.mem_singleton.1 h; exact hk6 _ (HNW.out.1.below ((Below.refl _ _).alloc (Nat.le_refl _) _)) HNW.out.2); clear ho6 hb6 hk6; have HRL6 : Hid ((r4 ++ [⟨nm, ⟨⟨k, n, f, s⟩, q5, m5, d5, l'⟩⟩] : List Pr).length ≤ 17) := Lib.hid (by rw [List.length_append]; have := HRL.out; simp; omega); obtain ⟨n6, hn6⟩ : ∃ y, y = (r4 ++ [⟨nm, ⟨⟨k, n, f, s⟩, q5, m5, d5, l'⟩⟩] : List Pr).length := ⟨_, rfl⟩; obtain ⟨p6, e6, rfl, _⟩ := HO6.out.form hn6; clear hn6)
      have HAP2 : Hid (∀ qx, (∀ W' , PsOk W' q m c l → PsOk W' qx (m - at1) (c - at1) (l.drop at1)) → Calls Try.prog 43 #[.slice p6 n6 e6, .slice qx (m - at1) (c - at1)] w6 fun e w' => ∃ v' r, e = .returned v' ∧ POwn w' W.heap.size v' ((r4 ++ ([⟨nm, ⟨⟨k, n, f, s⟩, q5, m5, d5, l'⟩⟩] : List Pr)) ++ r) ∧ r.map Pr.c = (l.drop at1).map Pr.c ∧ (∀ x ∈ (r4 ++ ([⟨nm, ⟨⟨k, n, f, s⟩, q5, m5, d5, l'⟩⟩] : List Pr)) ++ r, x.Ok w' ∧ x.Apart v') ∧ Below W.heap.size w6 w') :=
        Lib.hid fun qx hqx => appendProps_any HO6.out HB6.out.size HOK6.out (by have := HRL6.out; omega) (fun x hx => HLN.out x (List.mem_of_mem_drop hx)) (by omega) (fun w' hb => hqx _ (HP.out.below (HWB.out _ (HB6.out.trans hb))))
      have HQY := Lib.hid (HAP2.out qx fun W' h => HQX.out W' l h)
      clear HQX HAP2
      go_wp2_with fail
      refine HQY.out.mono ?_
      rintro e w7 ⟨v7, r7, rfl, ho7, hm7, hk7, hb7⟩
      have HB7 : Hid (Below W.heap.size W w7) := Lib.hid (HB6.out.trans hb7)
      have HALL : Hid (((r4 ++ ([⟨nm, ⟨⟨k, n, f, s⟩, q5, m5, d5, l'⟩⟩] : List Pr)) ++ r7).map Pr.c = setP (l.map Pr.c) ⟨nm, ⟨k, n, f, s⟩, l'⟩) := Lib.hid (by
        rw [HS.out, HNEW.out, List.map_append, hm7, List.map_drop]
        rw [if_neg hk0, if_neg (by decide : ¬ (false = true)), List.map_append, HM4.out, List.map_take, List.append_assoc]; rfl)
      obtain ⟨n7, hn7⟩ : ∃ y, y = ((r4 ++ ([⟨nm, ⟨⟨k, n, f, s⟩, q5, m5, d5, l'⟩⟩] : List Pr)) ++ r7).length := ⟨_, rfl⟩
      have HN7 : Hid (n7 = (setP (l.map Pr.c) ⟨nm, ⟨k, n, f, s⟩, l'⟩).length) := Lib.hid (by rw [← HALL.out, List.length_map]; exact hn7)
      obtain ⟨p7, e7, rfl, hps⟩ := ho7.form hn7
      have HPS := Lib.hid (hps fun x hx => (hk7 x hx).1)
      have HX7 : Hid (R = if n7 ≤ 16 then (setP (l.map Pr.c) ⟨nm, ⟨k, n, f, s⟩, l'⟩, 0) else ([], 15)) := Lib.hid (by rw [HX.out, HN7.out])
      clear ho7 hm7 hk7 hb7 hps hn7
      by_cases h16 : n7 ≤ 16
      · have HXX : Hid (R = (setP (l.map Pr.c) ⟨nm, ⟨k, n, f, s⟩, l'⟩, 0)) := Lib.hid (by rw [HX7.out, if_pos h16])
        go_wp2
        go_ret2
        exact ⟨p7, n7, e7, _, by rw [HXX.out]; rfl, HPS.out, by rw [HXX.out]; exact HALL.out, HWB.out _ HB7.out⟩
      · have HXX : Hid (R = ([], 15)) := Lib.hid (by rw [HX7.out, if_neg h16])
        go_wp2
        go_ret2
        exact ⟨none, 0, 0, [], by rw [HXX.out]; rfl, ⟨rfl, by omega, by omega, fun _ => rfl, Ps.nil _ _⟩, by rw [HXX.out]; rfl, HWB.out _ HB7.out⟩
  · have hatlt := HBT.out (by trivial)
    obtain ⟨u, hu⟩ : ∃ u : Nat, (at1 : Int) + 1 = (u : Int) := ⟨at1 + 1, by omega⟩
    have hu1 : at1 + 1 = u := by omega
    go_wp2_with fail
    refine HAP1.out.mono ?_
    rintro e w4 ⟨v4, r4, rfl, ho4, hm4, hk4, hb4⟩
    rw [List.nil_append] at ho4 hk4
    have HB4 : Hid (Below W.heap.size W w4) := Lib.hid (HB3.out.trans hb4)
    have HO4 := Lib.hid ho4
    have HM4 := Lib.hid hm4
    have HOK4 := Lib.hid hk4
    have HRL : Hid (r4.length ≤ 16) := Lib.hid (by
      have h := congrArg List.length hm4
      rw [List.length_map, List.length_map, List.length_take] at h
      omega)
    clear ho4 hm4 hk4 hb4 hw3 HAP1
    obtain ⟨k0, k1, k2, k3, k4⟩ := HK.out _ HB4.out
    have hw4 : w.heap.size < w4.heap.size := by have := HWs.out; have := HB4.out.size; omega
    by_cases hk0 : k = 0
    · have hk0' : (k != 0) = false := by simp [hk0]
      obtain ⟨qx, hqx, hqy⟩ := from_props (q := q) h1 (show u ≤ m by omega) HP.out.h0
      have HQX := Lib.hid hqy
      clear hqy
      obtain ⟨n6, hn6⟩ : ∃ y, y = r4.length := ⟨_, rfl⟩
      obtain ⟨p6, e6, rfl, _⟩ := HO4.out.form hn6
      clear hn6
      have HRL6 := Lib.hid HRL.out
      clear k1 k2 k3 k4
      have HAP2 : Hid (∀ qx, (∀ W' , PsOk W' q m c l → PsOk W' qx (m - u) (c - u) (l.drop u)) → Calls Try.prog 43 #[.slice p6 n6 e6, .slice qx (m - u) (c - u)] w4 fun e w' => ∃ v' r, e = .returned v' ∧ POwn w' W.heap.size v' (r4 ++ r) ∧ r.map Pr.c = (l.drop u).map Pr.c ∧ (∀ x ∈ r4 ++ r, x.Ok w' ∧ x.Apart v') ∧ Below W.heap.size w4 w') :=
        Lib.hid fun qx hqx => appendProps_any HO4.out HB4.out.size HOK4.out (by have := HRL6.out; omega) (fun x hx => HLN.out x (List.mem_of_mem_drop hx)) (by omega) (fun w' hb => hqx _ (HP.out.below (HWB.out _ (HB4.out.trans hb))))
      have HQY := Lib.hid (HAP2.out qx fun W' h => HQX.out W' l h)
      clear HQX HAP2
      go_wp2_with fail
      refine HQY.out.mono ?_
      rintro e w7 ⟨v7, r7, rfl, ho7, hm7, hk7, hb7⟩
      have HB7 : Hid (Below W.heap.size W w7) := Lib.hid (HB4.out.trans hb7)
      have HALL : Hid ((r4 ++ r7).map Pr.c = setP (l.map Pr.c) ⟨nm, ⟨k, n, f, s⟩, l'⟩) := Lib.hid (by
        rw [HS.out, HNEW.out, List.map_append, hm7, List.map_drop]
        rw [if_pos hk0, if_pos trivial, hu1, HM4.out, List.nil_append, List.map_take])
      obtain ⟨n7, hn7⟩ : ∃ y, y = (r4 ++ r7).length := ⟨_, rfl⟩
      have HN7 : Hid (n7 = (setP (l.map Pr.c) ⟨nm, ⟨k, n, f, s⟩, l'⟩).length) := Lib.hid (by rw [← HALL.out, List.length_map]; exact hn7)
      obtain ⟨p7, e7, rfl, hps⟩ := ho7.form hn7
      have HPS := Lib.hid (hps fun x hx => (hk7 x hx).1)
      have HX7 : Hid (R = if n7 ≤ 16 then (setP (l.map Pr.c) ⟨nm, ⟨k, n, f, s⟩, l'⟩, 0) else ([], 15)) := Lib.hid (by rw [HX.out, HN7.out])
      clear ho7 hm7 hk7 hb7 hps hn7
      by_cases h16 : n7 ≤ 16
      · have HXX : Hid (R = (setP (l.map Pr.c) ⟨nm, ⟨k, n, f, s⟩, l'⟩, 0)) := Lib.hid (by rw [HX7.out, if_pos h16])
        go_wp2
        go_ret2
        exact ⟨p7, n7, e7, _, by rw [HXX.out]; rfl, HPS.out, by rw [HXX.out]; exact HALL.out, HWB.out _ HB7.out⟩
      · have HXX : Hid (R = ([], 15)) := Lib.hid (by rw [HX7.out, if_neg h16])
        go_wp2
        go_ret2
        exact ⟨none, 0, 0, [], by rw [HXX.out]; rfl, ⟨rfl, by omega, by omega, fun _ => rfl, Ps.nil _ _⟩, by rw [HXX.out]; rfl, HWB.out _ HB7.out⟩
    · have hk0' : (k != 0) = true := by simpa using hk0
      obtain ⟨qx, hqx, hqy⟩ := from_props (q := q) h1 (show u ≤ m by omega) HP.out.h0
      have HQX := Lib.hid hqy
      clear hqy
      have HAPV : Hid (Calls Try.prog 37 #[.agg #[.int .i64 k, .int .i64 n, .float .f64 f, .string s, .slice q' m' c']] w4 (ApPost w4 ⟨k, n, f, s⟩ l')) := Lib.hid (apartV_any (HV.out.below (HWB.out _ HB4.out)) HZ.out (by have := HL16.out; omega))
      go_wp2_with fail
      refine HAPV.out.mono ?_
      rintro e w5 ⟨q5, m5, d5, rfl, ho5, hb5⟩
      have HB5 : Hid (Below W.heap.size W w5) := Lib.hid (HB4.out.trans (hb5.mono HB4.out.size))
      obtain ⟨e5, g1, g2, hs5⟩ := ho5.len
      have HNW : Hid (Pr.Ok w5 ⟨nm, ⟨⟨k, n, f, s⟩, q5, m5, d5, l'⟩⟩ ∧ Pr.Apart ⟨nm, ⟨⟨k, n, f, s⟩, q5, m5, d5, l'⟩⟩ v4) := Lib.hid ⟨⟨hs, ⟨HV.out.ok, e5, g1, g2, hs5, HV.out.hok⟩, ho5.none_zero⟩, fun kk hk _ a ha => by have h1 := (World.ownsRow.lt HO4.out kk hk).2; dsimp only at ha; subst ha; have h2 := (World.ownsRow.lt ho5 a.block rfl).1; omega⟩
      have HO5 := Lib.hid (HO4.out.below hb5)
      have HOK5 : Hid (∀ y ∈ r4, y.Ok w5 ∧ y.Apart v4) := Lib.hid fun y hy => ⟨(HOK4.out y hy).1.below hb5, (HOK4.out y hy).2⟩
      clear ho5 hb5 e5 hs5 HO4 HOK4 k0 k1 k2 k3 k4
      go_wp2_with (at_builtin; refine app_prop rfl (.tmp 43) (.tmp 48) rfl ⟨nm, ⟨⟨k, n, f, s⟩, q5, m5, d5, l'⟩⟩ rfl (HO5.out.below ((Below.refl _ _).alloc (Nat.le_refl _) _)) rfl rfl (pr_src rfl _ _) (by have := HRL.out; omega) (by have := HB5.out.size; simp; omega) ?_; intro v6 w6 ho6 hb6 hk6; have HO6 := Lib.hid ho6; have HB6 : Hid (Below W.heap.size W w6) := Lib.hid ((HB5.out.alloc HB5.out.size _).trans hb6); have HOK6 : Hid (∀ y ∈ r4 ++ [⟨nm, ⟨⟨k, n, f, s⟩, q5, m5, d5, l'⟩⟩], y.Ok w6 ∧ y.Apart v6) := Lib.hid (fun y hy => by rcases List.mem_append.1 hy with h | h; exact hk6 y ((HOK5.out y h).1.below ((Below.refl _ _).alloc (Nat.le_refl _) _)) (HOK5.out y h).2; obtain rfl := List.mem_singleton.1 h; exact hk6 _ (HNW.out.1.below ((Below.refl _ _).alloc (Nat.le_refl _) _)) HNW.out.2); clear ho6 hb6 hk6; have HRL6 : Hid ((r4 ++ [⟨nm, ⟨⟨k, n, f, s⟩, q5, m5, d5, l'⟩⟩] : List Pr).length ≤ 17) := Lib.hid (by rw [List.length_append]; have := HRL.out; simp; omega); obtain ⟨n6, hn6⟩ : ∃ y, y = (r4 ++ [⟨nm, ⟨⟨k, n, f, s⟩, q5, m5, d5, l'⟩⟩] : List Pr).length := ⟨_, rfl⟩; obtain ⟨p6, e6, rfl, _⟩ := HO6.out.form hn6; clear hn6)
      have HAP2 : Hid (∀ qx, (∀ W' , PsOk W' q m c l → PsOk W' qx (m - u) (c - u) (l.drop u)) → Calls Try.prog 43 #[.slice p6 n6 e6, .slice qx (m - u) (c - u)] w6 fun e w' => ∃ v' r, e = .returned v' ∧ POwn w' W.heap.size v' ((r4 ++ ([⟨nm, ⟨⟨k, n, f, s⟩, q5, m5, d5, l'⟩⟩] : List Pr)) ++ r) ∧ r.map Pr.c = (l.drop u).map Pr.c ∧ (∀ x ∈ (r4 ++ ([⟨nm, ⟨⟨k, n, f, s⟩, q5, m5, d5, l'⟩⟩] : List Pr)) ++ r, x.Ok w' ∧ x.Apart v') ∧ Below W.heap.size w6 w') :=
        Lib.hid fun qx hqx => appendProps_any HO6.out HB6.out.size HOK6.out (by have := HRL6.out; omega) (fun x hx => HLN.out x (List.mem_of_mem_drop hx)) (by omega) (fun w' hb => hqx _ (HP.out.below (HWB.out _ (HB6.out.trans hb))))
      have HQY := Lib.hid (HAP2.out qx fun W' h => HQX.out W' l h)
      clear HQX HAP2
      go_wp2_with fail
      refine HQY.out.mono ?_
      rintro e w7 ⟨v7, r7, rfl, ho7, hm7, hk7, hb7⟩
      have HB7 : Hid (Below W.heap.size W w7) := Lib.hid (HB6.out.trans hb7)
      have HALL : Hid (((r4 ++ ([⟨nm, ⟨⟨k, n, f, s⟩, q5, m5, d5, l'⟩⟩] : List Pr)) ++ r7).map Pr.c = setP (l.map Pr.c) ⟨nm, ⟨k, n, f, s⟩, l'⟩) := Lib.hid (by
        rw [HS.out, HNEW.out, List.map_append, hm7, List.map_drop]
        rw [if_neg hk0, if_pos trivial, hu1, List.map_append, HM4.out, List.map_take, List.append_assoc]; rfl)
      obtain ⟨n7, hn7⟩ : ∃ y, y = ((r4 ++ ([⟨nm, ⟨⟨k, n, f, s⟩, q5, m5, d5, l'⟩⟩] : List Pr)) ++ r7).length := ⟨_, rfl⟩
      have HN7 : Hid (n7 = (setP (l.map Pr.c) ⟨nm, ⟨k, n, f, s⟩, l'⟩).length) := Lib.hid (by rw [← HALL.out, List.length_map]; exact hn7)
      obtain ⟨p7, e7, rfl, hps⟩ := ho7.form hn7
      have HPS := Lib.hid (hps fun x hx => (hk7 x hx).1)
      have HX7 : Hid (R = if n7 ≤ 16 then (setP (l.map Pr.c) ⟨nm, ⟨k, n, f, s⟩, l'⟩, 0) else ([], 15)) := Lib.hid (by rw [HX.out, HN7.out])
      clear ho7 hm7 hk7 hb7 hps hn7
      by_cases h16 : n7 ≤ 16
      · have HXX : Hid (R = (setP (l.map Pr.c) ⟨nm, ⟨k, n, f, s⟩, l'⟩, 0)) := Lib.hid (by rw [HX7.out, if_pos h16])
        go_wp2
        go_ret2
        exact ⟨p7, n7, e7, _, by rw [HXX.out]; rfl, HPS.out, by rw [HXX.out]; exact HALL.out, HWB.out _ HB7.out⟩
      · have HXX : Hid (R = ([], 15)) := Lib.hid (by rw [HX7.out, if_neg h16])
        go_wp2
        go_ret2
        exact ⟨none, 0, 0, [], by rw [HXX.out]; rfl, ⟨rfl, by omega, by omega, fun _ => rfl, Ps.nil _ _⟩, by rw [HXX.out]; rfl, HWB.out _ HB7.out⟩

end Go.Proofs.Ytekaedafhiddeaa
