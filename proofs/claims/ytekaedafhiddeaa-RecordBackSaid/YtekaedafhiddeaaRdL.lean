/-
  The reader of records: props: its contract.
-/
import Derived.Test.YtekaedafhiddeaaRdV
set_option linter.unusedVariables false
set_option maxRecDepth 100000
namespace Go.Proofs.Ytekaedafhiddeaa
open Go.RowKit

/-- Stands for the reader's own block. -/
def atG (g : Nat) : Value := .slice (some ⟨g, 0, none⟩) 0 0
theorem atG_own (g : Nat) : (atG g).ownBlock = some g := rfl
theorem POwn.gb {w w' : World} {B g : Nat} {v : Value} {l : List Pr} (h : POwn w B v l) (hg : w.grownBy w' (some g)) (hB : g < B) : POwn w' B v l :=
  World.ownsRow.kept h hg (.inr fun e => by have := (World.ownsRow.lt h g e).1; omega)
/-- The list of a property lies at or behind B. -/
def Pr.From (x : Pr) (B : Nat) : Prop := ∀ a, x.v.q = some a → B ≤ a.block
theorem pr_gb {w w' : World} {g B : Nat} {x : Pr} (hx : x.Ok w) (hf : x.From B) (hB : g < B) (hg : w.grownBy w' (some g)) : x.Ok w' :=
  (pr_kept (v := atG g) (v' := atG g) hx (fun k hk _ a ha e => by have := hf a ha; rw [atG_own] at hk; have := Option.some.inj hk; omega) (by rw [atG_own]; exact hg) (.inl rfl)).1

/-- Properties that are read. -/
def PrPost (w : World) (g : Nat) (ps : List Pc) (s : RS) (e : Ending) (w' : World) : Prop :=
  ∃ v r, e = .returned v ∧ POwn w' w.heap.size v r ∧ r.map Pr.c = ps ∧ (∀ x ∈ r, x.Ok w' ∧ x.From w.heap.size) ∧ RdC w' g s ∧ w.grownBy w' (some g)

set_option maxHeartbeats 3200000 in
theorem propsRd_any {w : World} {g : Nat} {s : RS} (h : RdC w g s) (hlen : s.1.length ≤ 100000) :
    Calls Try.prog 30 #[.pointer (some ⟨g, 0, none⟩)] w (PrPost w g (recS s).1 (recS s).2) := by
  have hst := store_flt
  have hg := h.lt
  obtain ⟨n, s1, hc⟩ : ∃ n s1, cntS 16 s = (n, s1) := ⟨_, _, rfl⟩
  have hcl := cntS_len 16 s
  have HC : Hid (Calls Try.prog 28 #[.pointer (some ⟨g, 0, none⟩), .int .i64 16] w fun e w' => e = .returned (.int .i64 ((n : Nat) : Int)) ∧ RdC w' g s1 ∧ w.grownBy w' (some g)) := Lib.hid (by
    have h1 := count_any2 h 16 (by omega)
    rw [hc] at h1
    exact h1)
  rw [hc] at hcl
  obtain ⟨hn16, hs1⟩ := hcl
  dsimp only at hn16 hs1
  obtain ⟨ps, s2, hps⟩ : ∃ ps s2, propsS n s1 = (ps, s2) := ⟨_, _, rfl⟩
  have hrec : recS s = (ps, s2) := by unfold recS; rw [hc]; exact hps
  rw [hrec]
  have HPS := Lib.hid hps
  have hl1 : s1.1.length ≤ 100000 := by omega
  clear h hc hrec hps hs1 hlen
  go_enter Try.func30, Try.ntmps30
  go_wp2_with fail
  refine HC.out.mono ?_
  rintro e w1 ⟨rfl, hr1, hg1⟩
  have HR1 := Lib.hid hr1
  have HG1 := Lib.hid hg1
  clear hr1 hg1 HC
  go_wp2_with fail
  go_loopw [3, 6] (fun v i wr => ∃ (j : Nat) (sj : RS) (r : List Pr), i = .int .i64 j ∧ j ≤ n ∧ POwn wr w.heap.size v r ∧ r.length = j ∧ r.map Pr.c ++ (propsS (n - j) sj).1 = ps ∧ (propsS (n - j) sj).2 = s2 ∧ sj.1.length ≤ 100000 ∧ RdC wr g sj ∧ (∀ x ∈ r, x.Ok wr ∧ x.Apart v ∧ x.From w.heap.size) ∧ w.grownBy wr (some g)) (fun _ i _ => n - (intOf i).toNat)
  case atStart => exact ⟨0, s1, [], rfl, by omega, POwn.nil _ _, rfl, by rw [Nat.sub_zero, HPS.out]; rfl, by rw [Nat.sub_zero, HPS.out], hl1, HR1.out, by simp, HG1.out⟩
  case round =>
    obtain ⟨j, sj, r, rfl, hj, hown, hrl, hp1, hp2, hsl, hrd, hok, hgb⟩ := hrel
    have HO := Lib.hid hown
    have HRL := Lib.hid hrl
    have HP1 := Lib.hid hp1
    have HP2 := Lib.hid hp2
    have HSL := Lib.hid hsl
    have HRD := Lib.hid hrd
    have HOK := Lib.hid hok
    have HGB := Lib.hid hgb
    clear hown hrl hp1 hp2 hsl hrd hok hgb
    by_cases hlt : j < n
    · obtain ⟨k, hk⟩ : ∃ k, n - j = k + 1 := ⟨n - j - 1, by omega⟩
      have hk2 : n - (j + 1) = k := by omega
      have htl := txtS_len sj
      have hvl := valS_len (txtS sj).2
      have HTX : Hid (Calls Try.prog 29 #[.pointer (some ⟨g, 0, none⟩)] wr fun e w' => e = .returned (.string (txtS sj).1) ∧ RdC w' g (txtS sj).2 ∧ wr.grownBy w' (some g)) := Lib.hid (text_any HRD.out HSL.out)
      have HVX : Hid (∀ w', RdC w' g (txtS sj).2 → Calls Try.prog 60 #[.pointer (some ⟨g, 0, none⟩)] w' (NvPost w' g (valS (txtS sj).2).1 (valS (txtS sj).2).2)) := Lib.hid fun w' h => valueR_any h (by have := htl.2; have := HSL.out; omega)
      have HQ1 : Hid (r.map Pr.c ++ (⟨(txtS sj).1, (valS (txtS sj).2).1.1, (valS (txtS sj).2).1.2⟩ :: (propsS k (valS (txtS sj).2).2).1) = ps) := Lib.hid (by have h := HP1.out; rw [hk] at h; exact h)
      have HQ2 : Hid ((propsS k (valS (txtS sj).2).2).2 = s2) := Lib.hid (by have h := HP2.out; rw [hk] at h; exact h)
      have HK2 := Lib.hid hk2
      clear HP1 HP2 hk hk2
      generalize txtS sj = X at *
      obtain ⟨t, sk⟩ := X
      dsimp only at htl hvl HTX HVX HQ1 HQ2
      generalize valS sk = Y at *
      obtain ⟨⟨⟨k0, n0, x0, s0⟩, ll⟩, sm⟩ := Y
      dsimp only at hvl HVX HQ1 HQ2
      obtain ⟨hv1, hv2, hv3⟩ := hvl
      have HV1 := Lib.hid hv1
      have HV2 := Lib.hid hv2
      have HTL : Hid (t.size ≤ 100000 ∧ sm.1.length ≤ 100000) := Lib.hid (by have := HSL.out; omega)
      clear hv1 hv2 hv3 htl
      go_wp2_with fail
      refine HTX.out.mono ?_
      rintro e w2 ⟨rfl, hr2, hg2⟩
      have HR2 := Lib.hid hr2
      have HG2 : Hid (w.grownBy w2 (some g)) := Lib.hid (gb_trans HGB.out hg2)
      have HO2 := Lib.hid (HO.out.gb hg2 hg)
      have HOK2 : Hid (∀ x ∈ r, x.Ok w2 ∧ x.Apart u3 ∧ x.From w.heap.size) := Lib.hid fun x hx => ⟨pr_gb (HOK.out x hx).1 (HOK.out x hx).2.2 hg hg2, (HOK.out x hx).2⟩
      clear hr2 hg2 HTX
      go_wp2_with fail
      refine (HVX.out _ HR2.out).mono ?_
      rintro e w3 ⟨q3, m3, d3, rfl, ho3, hr3, hg3⟩
      have HR3 := Lib.hid hr3
      have HG3 : Hid (w.grownBy w3 (some g)) := Lib.hid (gb_trans HG2.out hg3)
      have HO3 := Lib.hid (HO2.out.gb hg3 hg)
      have HOK3 : Hid (∀ x ∈ r, x.Ok w3 ∧ x.Apart u3 ∧ x.From w.heap.size) := Lib.hid fun x hx => ⟨pr_gb (HOK2.out x hx).1 (HOK2.out x hx).2.2 hg hg3, (HOK2.out x hx).2⟩
      obtain ⟨e3, i1, i2, i3⟩ := ho3.len
      have HNW : Hid (Pr.Ok w3 ⟨t, ⟨⟨k0, n0, x0, s0⟩, q3, m3, d3, ll⟩⟩ ∧ Pr.Apart ⟨t, ⟨⟨k0, n0, x0, s0⟩, q3, m3, d3, ll⟩⟩ u3 ∧ Pr.From ⟨t, ⟨⟨k0, n0, x0, s0⟩, q3, m3, d3, ll⟩⟩ w.heap.size) := Lib.hid ⟨⟨by have := HTL.out.1; dsimp only; omega, ⟨HV1.out, e3, i1, i2, i3, HV2.out⟩, ho3.none_zero⟩,
        fun kk hkk _ a ha => by
          have h1 := (World.ownsRow.lt HO2.out kk hkk).2
          dsimp only at ha
          subst ha
          have h2 := (World.ownsRow.lt ho3 a.block rfl).1
          omega,
        fun a ha => by
          dsimp only at ha
          subst ha
          have h2 := (World.ownsRow.lt ho3 a.block rfl).1
          have := HG2.out.size
          omega⟩
      clear ho3 hr3 hg3 e3 i3 HOK HOK2 HO HO2
      have hw3 : w.heap.size ≤ w3.heap.size := HG3.out.size
      go_wp2_with (at_builtin; refine app_prop rfl (.tmp 8) (.tmp 14) rfl ⟨t, ⟨⟨k0, n0, x0, s0⟩, q3, m3, d3, ll⟩⟩ rfl (HO3.out.below ((Below.refl _ _).alloc (Nat.le_refl _) _)) rfl rfl (pr_src rfl _ _) (by have := HRL.out; omega) (by simp; omega) ?_; intro v4 w4 ho4 hb4 hk4; have HO4 := Lib.hid ho4; have HB4 : Hid (Below w.heap.size w3 w4) := Lib.hid (((Below.refl w3.heap.size w3).alloc (Nat.le_refl _) _ |>.mono hw3).trans hb4); have HOK4 : Hid (∀ y ∈ r ++ [⟨t, ⟨⟨k0, n0, x0, s0⟩, q3, m3, d3, ll⟩⟩], y.Ok w4 ∧ y.Apart v4 ∧ y.From w.heap.size) := Lib.hid (fun y hy => by rcases List.mem_append.1 hy with h | h; exact ⟨(hk4 y ((HOK3.out y h).1.below ((Below.refl _ _).alloc (Nat.le_refl _) _)) (HOK3.out y h).2.1).1, (hk4 y ((HOK3.out y h).1.below ((Below.refl _ _).alloc (Nat.le_refl _) _)) (HOK3.out y h).2.1).2, (HOK3.out y h).2.2⟩; obtain rfl := List.mem_singleton.1 h; exact ⟨(hk4 _ (HNW.out.1.below ((Below.refl _ _).alloc (Nat.le_refl _) _)) HNW.out.2.1).1, (hk4 _ (HNW.out.1.below ((Below.refl _ _).alloc (Nat.le_refl _) _)) HNW.out.2.1).2, HNW.out.2.2⟩); clear ho4 hb4 hk4)
      go_roundw
      case rel => exact ⟨j + 1, sm, r ++ [⟨t, ⟨⟨k0, n0, x0, s0⟩, q3, m3, d3, ll⟩⟩], by go_num, by omega, HO4.out, by rw [List.length_append, HRL.out]; rfl, by rw [HK2.out, List.map_append, List.append_assoc]; exact HQ1.out, by rw [HK2.out]; exact HQ2.out, HTL.out.2, HR3.out.below HB4.out hg, HOK4.out, gb_then HG3.out HB4.out⟩
      case measure => simp [intOf]; omega
    · have hjn : n - j = 0 := by omega
      have HM : Hid (r.map Pr.c = ps) := Lib.hid (by have h := HP1.out; rw [hjn] at h; simpa [propsS] using h)
      have HS : Hid (sj = s2) := Lib.hid (by have h := HP2.out; rw [hjn] at h; exact h)
      clear HP1 HP2
      go_wp2
      go_ret
      exact ⟨_, r, rfl, HO.out, HM.out, fun x hx => ⟨(HOK.out x hx).1, (HOK.out x hx).2.2⟩, by rw [← HS.out]; exact HRD.out, HGB.out⟩

end Go.Proofs.Ytekaedafhiddeaa
