/-
  keys.Split: its contract, on the bytes of values.
-/
import Derived.Test.YtjimbjcfoebimaaKSplit
import Derived.Outline
set_option linter.unusedVariables false
set_option maxRecDepth 100000
namespace Go.Proofs.Ytjimbjcfoebimaa
open Go.RowKit

/-- A value that is one. -/
structure GoodV (x : At × List At) : Prop where
  ok : x.1.Ok
  oks : ∀ y ∈ x.2, y.Ok
  va : validV x.1 x.2 = true
def catV : List (At × List At) → List UInt8
  | [] => []
  | x :: l => valK x.1 x.2 ++ catV l
theorem catV_append (l m : List (At × List At)) : catV (l ++ m) = catV l ++ catV m := by
  induction l with
  | nil => rfl
  | cons a l ih => simp only [List.cons_append, catV, ih, List.append_assoc]
theorem catV_split (l : List (At × List At)) (j : Nat) : catV l = catV (l.take j) ++ catV (l.drop j) := by
  rw [← catV_append, List.take_append_drop]
theorem catV_at {l : List (At × List At)} {j : Nat} {x : At × List At} (h : l[j]? = some x) : (catV l).drop (catV (l.take j)).length = valK x.1 x.2 ++ catV (l.drop (j + 1)) ∧ (catV (l.take (j + 1))).length = (catV (l.take j)).length + (valK x.1 x.2).length ∧
    (catV (l.take j)).length + (valK x.1 x.2).length ≤ (catV l).length := by
  have h1 : (catV l).drop (catV (l.take j)).length = catV (l.drop j) := by
    rw [catV_split l j]
    exact List.drop_left
  have h2 := drop_get h
  have h3 : catV (l.take (j + 1)) = catV (l.take j) ++ valK x.1 x.2 := by
    obtain ⟨hj, rfl⟩ := List.getElem?_eq_some_iff.1 h
    rw [List.take_succ_eq_append_getElem hj, catV_append]
    simp [catV]
  refine ⟨by rw [h1, h2]; rfl, by rw [h3, List.length_append], ?_⟩
  rw [catV_split l (j + 1), h3]
  simp only [List.length_append]
  omega

def SPost (w : World) (vals : List (At × List At)) (k : Nat) (e : Ending) (w' : World) : Prop :=
  (k = vals.length → ∃ vs p c, e = .returned (.tuple #[.slice p k c, .int .i64 0]) ∧ k ≤ c ∧ c ≤ 9223372036854775807 ∧ Vs w' p vs ∧ vs.map (fun x : Va => (x.a, x.l)) = vals) ∧
  (k < vals.length → e = .returned (.tuple #[.slice none 0 0, .int .i64 11])) ∧ Below w.heap.size w w'

set_option maxHeartbeats 4000000 in
theorem split_any {w : World} {b o : Nat} {l : List UInt8} (hl : Bs w (some ⟨b, o, none⟩) l) {n c : Nat} (hn : n = l.length) (hnc : n ≤ c) (hc : c ≤ 9223372036854775807) (hlen : l.length ≤ 100000)
    (vals : List (At × List At)) (hg : ∀ x ∈ vals, GoodV x) (hcat : l = catV vals) (k : Nat) (hk : k ≤ vals.length) (h64 : k ≤ 64) :
    Calls Try.prog 19 #[.slice (some ⟨b, o, none⟩) n c, .int .i64 (k : Int)] w (SPost w vals k) := by
  have hst := store_flt
  have HL := Lib.hid hl
  have HN := Lib.hid hn
  have HG := Lib.hid hg
  have HC := Lib.hid hcat
  have HKV := Lib.hid hk
  have hn5 : n ≤ 100000 := by omega
  clear hl hn hg hcat hk hlen
  go_enter Try.func19, Try.ntmps19
  go_wp2
  go_loopw [6, 7, 18] (fun v t i wr => ∃ (j u : Nat) (vs : List Va), i = .int .i64 j ∧ j ≤ k ∧ t = .int .i64 u ∧ u = (catV (vals.take j)).length ∧ u ≤ n ∧ VOwn wr w.heap.size v vs ∧ vs.map (fun x : Va => (x.a, x.l)) = vals.take j ∧ (∀ x ∈ vs, x.Ok wr ∧ x.Apart v) ∧ Below w.heap.size w wr) (fun _ _ i _ => k - (intOf i).toNat)
  case atStart => exact ⟨0, 0, [], rfl, by omega, rfl, rfl, by omega, VOwn.nil _ _, rfl, by simp, Below.refl _ _⟩
  case round =>
    obtain ⟨j, u, vs, rfl, hj, rfl, hu, hun, hown, hmap, hok, hb⟩ := hrel
    have HU := Lib.hid hu
    have HO := Lib.hid hown
    have HM := Lib.hid hmap
    have HOK := Lib.hid hok
    have HB := Lib.hid hb
    clear hu hown hmap hok hb
    have hll : l.length = (catV vals).length := by rw [HC.out]
    have HLL := Lib.hid hll
    clear hll
    by_cases hlt : j < k
    · obtain ⟨x, hx⟩ : ∃ x, vals[j]? = some x := ⟨_, List.getElem?_eq_getElem (by have := HKV.out; omega)⟩
      obtain ⟨h1, h2, h3⟩ := catV_at hx
      have hxg := HG.out x (List.mem_of_getElem? hx)
      have hpos := valK_pos x.1 x.2
      have hul : u < n := by have := HU.out; have := HN.out; have := HLL.out; omega
      have HT : Hid (vals.take (j + 1) = vals.take j ++ [x]) := Lib.hid (by
        obtain ⟨hj, rfl⟩ := List.getElem?_eq_some_iff.1 hx
        exact List.take_succ_eq_append_getElem hj)
      have HRD : Hid (rdV (l.drop u) = (0, x.1, x.2, (valK x.1 x.2).length)) := Lib.hid (by
        rw [HC.out, HU.out, h1]
        exact rdV_back hxg.ok hxg.oks hxg.va _)
      have HU2 : Hid (u + (valK x.1 x.2).length = (catV (vals.take (j + 1))).length) := Lib.hid (by rw [h2, HU.out])
      have HU3 : Hid (u + (valK x.1 x.2).length ≤ n) := Lib.hid (by have := HU.out; have := HN.out; have := HLL.out; omega)
      have HA : Hid (Calls Try.prog 18 #[.slice (some ⟨b, o + u, none⟩) (n - u) (c - u)] wr (RVPost wr (rdV (l.drop u)))) := Lib.hid (keysRead_any (Bs.drop (by
        obtain ⟨b', o', hp, hcc⟩ := (HL.out.below HB.out) (by intro h; have := HN.out; rw [h] at this; simp at this; omega)
        simp only [Option.some.injEq, Addr.mk.injEq, and_true] at hp
        obtain ⟨rfl, rfl⟩ := hp
        exact hcc) u) (n - u) (c - u) (by rw [List.length_drop]; have := HN.out; omega) (by omega) (by omega) (by rw [List.length_drop]; have := HN.out; omega))
      rw [HRD.out] at HA
      have HXG := Lib.hid hxg
      clear h1 h2 h3 hpos hx hxg HRD
      obtain ⟨⟨k0, n0, x0, s0⟩, lv⟩ := x
      obtain ⟨len, hlen⟩ : ∃ y, y = (valK ⟨k0, n0, x0, s0⟩ lv).length := ⟨_, rfl⟩
      dsimp only at HU2 HU3 HA
      rw [← hlen] at HU2 HU3 HA
      have hlen2 := HU3.out
      clear hlen
      go_wp2_with fail
      refine HA.out.mono ?_
      rintro e w1 ⟨p1, m1, c1, rfl, hm1, hown1, hb1⟩
      have HO1 := Lib.hid (HO.out.below hb1)
      have HB1 : Hid (Below w.heap.size w w1) := Lib.hid (HB.out.trans (hb1.mono HB.out.size))
      have HOK1 : Hid (∀ y ∈ vs, y.Ok w1 ∧ y.Apart u6) := Lib.hid fun y hy => ⟨VaOk.below (HOK.out y hy).1 hb1, (HOK.out y hy).2⟩
      have HNEW : Hid ((⟨⟨k0, n0, x0, s0⟩, p1, m1, c1, lv⟩ : Va).Ok w1 ∧ (⟨⟨k0, n0, x0, s0⟩, p1, m1, c1, lv⟩ : Va).Apart u6) := Lib.hid ⟨vaOk_own HXG.out.ok HXG.out.oks hm1 hown1, fun kk hkk _ a ha => by
        have h1 := (World.ownsRow.lt HO.out kk hkk).2
        dsimp only at ha
        subst ha
        have h2 := (World.ownsRow.lt hown1 a.block rfl).1
        omega⟩
      clear hm1 hown1 hb1 HA HO HB HOK
      dsimp only
      go_wp2_with (at_builtin; refine app_value rfl (.tmp 31) (.tmp 33) rfl ⟨⟨k0, n0, x0, s0⟩, p1, m1, c1, lv⟩ rfl (HO1.out.below (box2_below (Below.refl _ _))) rfl rfl (va_src (by simp) _ _) (by have := congrArg List.length HM.out; simp at this; omega) (by have := HB1.out.size; simp; omega) ?_; intro v2 w2 ho2 hb2 hk2; have HO2 := Lib.hid ho2; have HB2 : Hid (Below w.heap.size w w2) := Lib.hid ((HB1.out.trans ((box2_below (Below.refl _ _)).mono HB1.out.size)).trans hb2); have HOK2 : Hid (∀ y ∈ vs ++ [⟨⟨k0, n0, x0, s0⟩, p1, m1, c1, lv⟩], y.Ok w2 ∧ y.Apart v2) := Lib.hid (fun y hy => by rcases List.mem_append.1 hy with h | h; exact hk2 y (VaOk.below (HOK1.out y h).1 (box2_below (Below.refl _ _))) (HOK1.out y h).2; obtain rfl := List.mem_singleton.1 h; exact hk2 _ (VaOk.below HNEW.out.1 (box2_below (Below.refl _ _))) HNEW.out.2); clear ho2 hb2 hk2)
      go_roundw
      case rel => exact ⟨j + 1, u + len, vs ++ [⟨⟨k0, n0, x0, s0⟩, p1, m1, c1, lv⟩], by go_num, by omega, by go_num, HU2.out, hlen2, HO2.out, by rw [List.map_append, HM.out, HT.out]; rfl, HOK2.out, HB2.out⟩
      case measure => simp [intOf]; omega
    · have hjk : j = k := by omega
      subst hjk
      obtain ⟨len, hlen⟩ : ∃ y, y = vs.length := ⟨_, rfl⟩
      have hlj : len = j := by
        have h := congrArg List.length HM.out
        rw [List.length_map, List.length_take] at h
        have := HKV.out
        omega
      by_cases hv : j = vals.length
      · have hun2 : u = n := by
          have h1 := HU.out
          rw [hv, List.take_length, ← HC.out, ← HN.out] at h1
          exact h1
        subst hun2
        obtain ⟨p2, c2, rfl, hc2, hc3, hvs⟩ := HO.out.form (n := j) (by omega)
        have HVS := Lib.hid (hvs fun y hy => (HOK.out y hy).1)
        have HMM : Hid (vs.map (fun x : Va => (x.a, x.l)) = vals) := Lib.hid (by rw [HM.out, hv, List.take_length])
        have HV := Lib.hid hv
        clear hvs hlen hlj hv
        go_wp2
        go_ret2
        exact ⟨fun _ => ⟨vs, p2, c2, rfl, hc2, hc3, HVS.out, HMM.out⟩, fun h => absurd HV.out (by omega), HB.out⟩
      · have hun2 : u < n := by
          have h1 := HU.out
          have h2 := catV_split vals j
          obtain ⟨x, hx⟩ : ∃ x, vals[j]? = some x := ⟨_, List.getElem?_eq_getElem (by have := HKV.out; omega)⟩
          obtain ⟨_, _, h3⟩ := catV_at hx
          have hpos := valK_pos x.1 x.2
          have := HN.out
          have := HLL.out
          omega
        have HV := Lib.hid hv
        clear hlen hlj hv
        go_wp2
        go_ret2
        exact ⟨fun h => absurd h HV.out, fun _ => rfl, HB.out⟩

end Go.Proofs.Ytjimbjcfoebimaa
