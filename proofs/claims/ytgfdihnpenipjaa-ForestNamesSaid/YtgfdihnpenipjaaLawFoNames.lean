/-
  The law ForestNames: its walk.
-/
import Derived.Test.YtgfdihnpenipjaaFoKey
import Derived.Test.YtgfdihnpenipjaaRNameR
import Derived.Test.YtgfdihnpenipjaaCmpRef
set_option linter.unusedVariables false
set_option maxRecDepth 100000
namespace Go.Proofs.Ytgfdihnpenipjaa
open Go.RowKit
open Go.Lib (compareBytes)

theorem most_n : mostF (⟨#[110]⟩ : ByteArray).data.toList = 70 := by decide

set_option maxHeartbeats 3200000 in
theorem lawFoNames {w : World} (s m : ByteArray) (hs : s.size ≤ 4611686018427387903) (hm : m.size ≤ 4611686018427387903) {p : Option Addr} {k : List UInt8} (hk : Bs w p k) (n c : Nat) (hn : n = k.length) (hnc : n ≤ c) (hc : c ≤ 9223372036854775807) (hp : p = none → c = 0) :
    Calls Try.prog 5 #[.string s, .string m, .slice p n c] w fun e w' => e = .returned (.bool true) ∧ Below w.heap.size w w' := by
  obtain ⟨g, hg⟩ : ∃ g, g = s ++ m := ⟨_, rfl⟩
  have hgs : g.size = s.size + m.size := by rw [hg, ByteArray.size_append]
  have hgl : g.data.toList = s.data.toList ++ m.data.toList := by rw [hg]; simp
  have HNS := Lib.hid (fun w => refName_any (w := w) s (by omega))
  have HNG := Lib.hid (fun w => refName_any (w := w) g (by omega))
  have HMG := Lib.hid (fun w => most_any (w := w) g (by omega))
  have HMN : Hid (∀ w, Calls Try.prog 12 #[.string ⟨#[110]⟩] w fun e w' => e = .returned (.int .i64 70) ∧ Below w.heap.size w w') := Lib.hid fun w => by
    have := most_any (w := w) ⟨#[110]⟩ (by decide)
    rw [most_n] at this
    exact this
  have hsum : ¬ ((s.size : Int) + (m.size : Int) > 9223372036854775807) := by omega
  have hnx : n ≤ 9223372036854775807 := by omega
  have HG0 : Hid (s ++ m = g) := Lib.hid hg.symm
  clear hg
  have HG : Hid (s ++ m = g) := Lib.hid HG0.out
  by_cases h1 : nameOk s = true
  case neg =>
    have h1' : nameOk s = false := by simpa using h1
    rw [h1'] at HNS
    clear h1 h1' HNG HMG hgl hk hn hp
    go_enter Try.func5, Try.ntmps5
    go_wp2_with fail
    rw [HG.out]
    refine (HNS.out _).mono ?_; rintro e w1 ⟨rfl, rfl⟩
    go_wp2_with fail
    refine (HMN.out _).mono ?_; rintro e w9 ⟨rfl, hb9⟩
    have HB9 := Lib.hid hb9
    clear hb9
    go_wp2
    go_ret
    exact ⟨rfl, HB9.out⟩
  rw [h1] at HNS
  by_cases h2 : nameOk g = true
  case neg =>
    have h2' : nameOk g = false := by simpa using h2
    rw [h2'] at HNG
    clear h1 h2 h2' HMG hgl hk hn hp
    go_enter Try.func5, Try.ntmps5
    go_wp2_with fail
    rw [HG.out]
    refine (HNS.out _).mono ?_; rintro e w1 ⟨rfl, rfl⟩
    go_wp2_with fail
    refine (HNG.out _).mono ?_; rintro e w2 ⟨rfl, rfl⟩
    go_wp2_with fail
    refine (HMN.out _).mono ?_; rintro e w9 ⟨rfl, hb9⟩
    have HB9 := Lib.hid hb9
    clear hb9
    go_wp2
    go_ret
    exact ⟨rfl, HB9.out⟩
  rw [h2] at HNG
  obtain ⟨mo, hmo⟩ : ∃ mo, mo = mostF g.data.toList := ⟨_, rfl⟩
  have hmo71 : mo ≤ 71 := by rw [hmo]; exact mostF_le _
  rw [← hmo] at HMG
  by_cases h3 : n ≤ mo
  case neg =>
    have h3' : (mo : Int) < (n : Int) := by omega
    clear h1 h2 h3 hmo hgl hk hn hp
    go_enter Try.func5, Try.ntmps5
    go_wp2_with fail
    rw [HG.out]
    refine (HNS.out _).mono ?_; rintro e w1 ⟨rfl, rfl⟩
    go_wp2_with fail
    refine (HNG.out _).mono ?_; rintro e w2 ⟨rfl, rfl⟩
    go_wp2_with fail
    refine (HMG.out _).mono ?_; rintro e w3 ⟨rfl, hb3⟩
    have HB3 := Lib.hid hb3
    clear hb3
    go_wp2_with fail
    refine (HMN.out _).mono ?_; rintro e w9 ⟨rfl, hb9⟩
    have HB9 := Lib.hid hb9
    clear hb9
    go_wp2
    go_ret
    exact ⟨rfl, HB3.out.trans (HB9.out.mono HB3.out.size)⟩
  have h3' : ¬ (mo : Int) < (n : Int) := by omega
  by_cases h4 : m.size = 0
  case pos =>
    have h4' : ((m.size : Int) == 0) = true := by rw [h4]; rfl
    clear h1 h2 h3 h4 hmo hgl hk hn hp
    go_enter Try.func5, Try.ntmps5
    go_wp2_with fail
    rw [HG.out]
    refine (HNS.out _).mono ?_; rintro e w1 ⟨rfl, rfl⟩
    go_wp2_with fail
    refine (HNG.out _).mono ?_; rintro e w2 ⟨rfl, rfl⟩
    go_wp2_with fail
    refine (HMG.out _).mono ?_; rintro e w3 ⟨rfl, hb3⟩
    have HB3 := Lib.hid hb3
    clear hb3
    go_wp2_with fail
    refine (HMN.out _).mono ?_; rintro e w9 ⟨rfl, hb9⟩
    have HB9 := Lib.hid hb9
    clear hb9
    go_wp2
    go_ret
    exact ⟨rfl, HB3.out.trans (HB9.out.mono HB3.out.size)⟩
  have h4' : ((m.size : Int) == 0) = false := by rw [beq_eq_false_iff_ne]; omega
  have hne : s.data.toList ≠ g.data.toList := by
    intro h
    have h5 := congrArg List.length h
    have e1 : s.data.toList.length = s.size := rfl
    have e2 : g.data.toList.length = g.size := rfl
    rw [e1, e2] at h5
    omega
  have HSO := Lib.hid (span_other (n := s.data.toList) (m := g.data.toList) h1 h2 hne k [] [])
  have HK := Lib.hid (fun w (h : Bs w p k) => fkey_any (w := w) g (by omega) h n c hn hp)
  have HS := Lib.hid (fun w => fspan_any (w := w) s (by omega) (p := none) (q := none) (Bs.nil w none) 0 0 rfl (fun _ => rfl) (Bs.nil w none) 0 0 rfl (fun _ => rfl))
  have HWK : Hid (wrongF g.data.toList [k] = 0) := Lib.hid (wrongF_ok h2 fun l hl => by rw [List.mem_singleton] at hl; subst hl; omega)
  have HWS : Hid (wrongF s.data.toList [[], []] = 0) := Lib.hid (wrongF_ok h1 fun l hl => by
    have : l = [] := by simpa using hl
    subst this; simp)
  have HKL : Hid ((keyF g.data.toList k).length = n + g.size + 1) := Lib.hid (by
    rw [keyF_length]
    have e2 : g.data.toList.length = g.size := rfl
    omega)
  have HBK := Lib.hid hk
  have hn71 : n ≤ 71 := by omega
  have g16 := (nameOk_len h2).2
  have s16 := (nameOk_len h1).2
  have hsp : (spanB s.data.toList []).length ≤ 100 := by
    unfold spanB
    rw [if_pos rfl]
    have := (aft_length (headF_ok h1)).2
    rw [headF_length] at this
    have e1 : s.data.toList.length = s.size := rfl
    omega
  have HSP := Lib.hid hsp
  have hka : (keyF s.data.toList []).length = s.size + 1 := by
    rw [keyF_length]
    have e1 : s.data.toList.length = s.size := rfl
    simp; omega
  have HKA := Lib.hid hka
  obtain ⟨x, hx⟩ : ∃ x, x = keyF g.data.toList k := ⟨_, rfl⟩
  obtain ⟨a, ha⟩ : ∃ a, a = keyF s.data.toList [] := ⟨_, rfl⟩
  obtain ⟨b, hb⟩ : ∃ b, b = spanB s.data.toList [] := ⟨_, rfl⟩
  rw [← hx] at HKL
  rw [← hx, ← ha, ← hb] at HSO
  rw [← ha] at HKA
  rw [← hb] at HSP
  have HX := Lib.hid hx
  have HA := Lib.hid ha
  have HB := Lib.hid hb
  clear h1 h2 h3 h4 hmo hgl hk hn hp hne hx ha hb hka hsp HMN hgs
  go_enter Try.func5, Try.ntmps5
  go_wp2_with fail
  rw [HG.out]
  refine (HNS.out _).mono ?_; rintro e w1 ⟨rfl, rfl⟩
  go_wp2_with fail
  refine (HNG.out _).mono ?_; rintro e w2 ⟨rfl, rfl⟩
  go_wp2_with fail
  refine (HMG.out _).mono ?_; rintro e w3 ⟨rfl, hb3⟩
  have HB3 := Lib.hid hb3
  clear hb3
  go_wp2_with fail
  refine (HK.out _ (HBK.out.below HB3.out)).mono ?_
  rintro e w4 ⟨v4, rfl, ho4, hb4⟩
  rw [HWK.out, if_pos rfl, ← HX.out] at ho4
  rw [HWK.out]
  obtain ⟨p4, c4, rfl, hn4, hc4, hbs4, _⟩ := ho4.form HKL.out.symm
  have HB4 := Lib.hid (HB3.out.trans (hb4.mono HB3.out.size))
  have HO4 := Lib.hid hbs4
  clear ho4 hb4 hbs4
  go_wp2_with fail
  refine (HS.out _).mono ?_
  rintro e w5 ⟨u5, v5, rfl, hu5, hv5, hb5⟩
  rw [HWS.out, if_pos rfl] at hu5 hv5
  rw [← HA.out] at hu5
  rw [← HB.out] at hv5
  rw [HWS.out]
  obtain ⟨nb, hnb⟩ : ∃ nb, nb = b.length := ⟨_, rfl⟩
  obtain ⟨p5, c5, rfl, hn5, hc5, hbs5, _⟩ := hu5.form HKA.out.symm
  obtain ⟨p6, c6, rfl, hn6, hc6, hbs6, _⟩ := hv5.form hnb
  have HB5 := Lib.hid (HB4.out.trans (hb5.mono HB4.out.size))
  have HO5 := Lib.hid (HO4.out.below hb5)
  have HC1 := Lib.hid (oRefCompare_any HO5.out hbs5 _ c4 _ c5 HKL.out.symm HKA.out.symm (by omega) (by omega))
  have HC2 := Lib.hid (fun w' (h : Below w5.heap.size w5 w') => oRefCompare_any (HO5.out.below h) (hbs6.below h) _ c4 nb c6 HKL.out.symm hnb (by omega) (by have := HSP.out; omega))
  obtain ⟨ca, hca⟩ : ∃ ca, ca = compareBytes x a := ⟨_, rfl⟩
  obtain ⟨cb, hcb⟩ : ∃ cb, cb = compareBytes x b := ⟨_, rfl⟩
  have hso : ¬ (0 ≤ ca ∧ cb < 0) := by rw [hca, hcb]; exact HSO.out
  rw [← hca] at HC1
  rw [← hcb] at HC2
  clear hu5 hv5 hb5 hbs5 hbs6 hnb hca hcb HSO
  by_cases hlt : ca < 0
  case pos =>
    clear hso
    go_wp2_with fail
    refine HC1.out.mono ?_
    rintro e w6 ⟨rfl, hb6⟩
    have HB6 := Lib.hid (HB5.out.trans (hb6.mono HB5.out.size))
    clear hb6
    go_wp2
    go_ret
    exact ⟨rfl, HB6.out⟩
  have hge : 0 ≤ cb := by omega
  clear hso
  go_wp2_with fail
  refine HC1.out.mono ?_
  rintro e w6 ⟨rfl, hb6⟩
  have HB6 := Lib.hid (HB5.out.trans (hb6.mono HB5.out.size))
  have HB56 := Lib.hid hb6
  clear hb6
  go_wp2_with fail
  refine (HC2.out _ HB56.out).mono ?_
  rintro e w7 ⟨rfl, hb7⟩
  have HB7 := Lib.hid (HB6.out.trans (hb7.mono HB6.out.size))
  clear hb7
  go_wp2
  go_ret
  exact ⟨rfl, HB7.out⟩

end Go.Proofs.Ytgfdihnpenipjaa
