/-
  The reference of layer 14: Most, Key, Split, Span: contracts for the walks.
-/
import Derived.Test.YtgfdihnpenipjaaFoKey
import Derived.Test.YtgfdihnpenipjaaRNameR
import Derived.Lib.AppendStr
set_option linter.unusedVariables false
set_option maxRecDepth 100000
namespace Go.Proofs.Ytgfdihnpenipjaa
open Go.RowKit

set_option maxHeartbeats 1600000 in
theorem rmost_any {w : World} (s : ByteArray) (hs : s.size ≤ 9223372036854775807) :
    Calls Try.prog 13 #[.string s] w fun e w' => e = .returned (.int .i64 (mostF s.data.toList : Int)) ∧ w = w' := by
  have HN := Lib.hid (fun w => refName_any (w := w) s hs)
  cases hok : nameOk s
  · rw [hok] at HN
    have HM : Hid ((mostF s.data.toList : Int) = 0) := Lib.hid (by rw [mostF_no hok]; rfl)
    clear hok
    go_enter Try.func13, Try.ntmps13
    go_wp2_with fail
    refine (HN.out _).mono ?_; rintro e w1 ⟨rfl, rfl⟩
    go_wp2
    go_ret
    exact ⟨ret_int HM.out.symm, rfl⟩
  · rw [hok] at HN
    have hs16 := (nameOk_len hok).2
    have hl : s.data.toList.length = s.size := rfl
    have HM : Hid ((mostF s.data.toList : Int) = 71 - (s.size : Int)) := Lib.hid (by rw [mostF_yes hok, hl]; omega)
    clear hok
    go_enter Try.func13, Try.ntmps13
    go_wp2_with fail
    refine (HN.out _).mono ?_; rintro e w1 ⟨rfl, rfl⟩
    go_wp2
    go_ret
    exact ⟨ret_int (by rw [HM.out]; try (unfold wrap64; omega)), rfl⟩

theorem own_one (w : World) {x : Int} {u : UInt8} (hx : x = (u.toNat : Int)) : Own (w.alloc (.cells #[.int .u8 x] 5)) w.heap.size (.slice (some ⟨w.heap.size, 0, none⟩) 1 1) [u] := by
  subst hx
  exact ⟨by simp [u8s], .inr ⟨w.heap.size, 1, _, rfl, Nat.le_refl _, heap_alloc_new w _, by simp, by simp [maxLen], rfl, by simp [u8s]⟩⟩

set_option maxHeartbeats 1600000 in
theorem rkey_any {w : World} (s : ByteArray) (hs : s.size ≤ 9223372036854775807) {p : Option Addr} {k : List UInt8} (hk : Bs w p k) (n c : Nat) (hn : n = k.length) (hp : p = none → c = 0) :
    Calls Try.prog 7 #[.string s, .slice p n c] w (FKPost w s.data.toList k) := by
  have HN := Lib.hid (fun w => refName_any (w := w) s hs)
  have HMO := Lib.hid (fun w => rmost_any (w := w) s hs)
  have HNN := Lib.hid hn
  have HK := Lib.hid hk
  have HP := Lib.hid hp
  clear hk hp hs
  cases hok : nameOk s
  · rw [hok] at HN
    have HX := Lib.hid (wrongF_no (ls := [k]) hok)
    clear hok hn
    go_enter Try.func7, Try.ntmps7
    go_wp2_with fail
    refine (HN.out _).mono ?_; rintro e w1 ⟨rfl, rfl⟩
    go_wp2
    go_ret2
    exact FKPost.no HX.out (by decide) (Below.refl _ _)
  rw [hok] at HN
  obtain ⟨mo, hmo⟩ : ∃ mo, mo = mostF s.data.toList := ⟨_, rfl⟩
  have hmo71 : mo ≤ 71 := by rw [hmo]; exact mostF_le _
  rw [← hmo] at HMO
  by_cases hb : n ≤ mo
  case neg =>
    have HX := Lib.hid (wrongF_big (n := s.data.toList) (ls := [k]) hok (k := 0) (by simp) (by rw [← hmo]; simp only [List.getElem_cons_zero]; omega))
    have hlt : (mo : Int) < (n : Int) := by omega
    clear hok hmo hn hb
    go_enter Try.func7, Try.ntmps7
    go_wp2_with fail
    refine (HN.out _).mono ?_; rintro e w1 ⟨rfl, rfl⟩
    go_wp2_with fail
    refine (HMO.out _).mono ?_; rintro e w1 ⟨rfl, rfl⟩
    go_wp2
    go_ret2
    exact FKPost.no HX.out (by decide) (Below.refl _ _)
  have HX : Hid (wrongF s.data.toList [k] = 0) := Lib.hid (wrongF_ok hok fun l hl => by rw [List.mem_singleton] at hl; subst hl; omega)
  have hlt : ¬ (mo : Int) < (n : Int) := by omega
  have s16 := (nameOk_len hok).2
  have HL : Hid (s.data.toList.length = s.size) := Lib.hid rfl
  have hu := i64_head s16
  obtain ⟨u, huu⟩ : ∃ u, u = UInt8.ofNat s.size := ⟨_, rfl⟩
  have HU : Hid ((s.size : Int) = (u.toNat : Int)) := Lib.hid (by rw [huu, UInt8.toNat_ofNat']; omega)
  have HH : Hid ([u] ++ s.data.toList = headF s.data.toList) := Lib.hid (by rw [huu]; rfl)
  have hn71 : n ≤ 71 := by omega
  rw [← huu] at hu
  have HUI := Lib.hid hu
  clear hok hmo hn hb huu hu
  go_enter Try.func7, Try.ntmps7
  go_wp2_with fail
  refine (HN.out _).mono ?_; rintro e w1 ⟨rfl, rfl⟩
  go_wp2_with fail
  refine (HMO.out _).mono ?_; rintro e w1 ⟨rfl, rfl⟩
  have HO := Lib.hid (own_one w HU.out)
  have HB : Hid (Below w.heap.size w (w.alloc (.cells #[.int .u8 (s.size : Int)] 5))) := Lib.hid (Below.alloc (Below.refl _ _) (Nat.le_refl _) _)
  obtain ⟨i, hi, hz0, hz1, hz2⟩ := info_parts info_u8
  go_wp2_with (at_builtin; refine Lib.wpList_append_own_string _ rfl (.tmp 18) (.tmp 19) _ _ rfl w.heap.size 5 i Try.underlying22 Try.underlying9 hi hz0 hz1 hz2 _ 1 (u8s [u]) rfl HO.out s rfl ?c3 ?c4 HB.out.size ?_)
  case c3 => simp only [maxLen]; omega
  case c4 => omega
  intro v2 w2 ho2 hg2 _
  have HB2 : Hid (Below w.heap.size w w2) := Lib.hid (HO.out.grown HB.out HB.out.size hg2)
  have HO2 : Hid (Own w2 w.heap.size v2 (headF s.data.toList)) := Lib.hid (by rw [← HH.out]; unfold Own; rw [← u8s_append, List.length_append, HL.out]; exact ho2)
  clear ho2 hg2
  go_wp2_with (at_builtin; refine app_own rfl (.tmp 21) (.tmp 22) rfl rfl HO2.out HNN.out rfl (HK.out.below HB2.out) HP.out (by rw [headF_length, HL.out, ← HNN.out]; omega) HB2.out.size ?_; intro v3 w3 ho3 hb3)
  have HO3 := Lib.hid ho3
  have HB3 := Lib.hid (HB2.out.trans hb3)
  clear ho3 hb3
  go_wp2
  go_ret2
  exact FKPost.yes HX.out HO3.out HB3.out

set_option maxHeartbeats 1600000 in
theorem rspan_any {w : World} (s : ByteArray) (hs : s.size ≤ 9223372036854775807) {p q : Option Addr} {f t : List UInt8} (hf : Bs w p f) (n c : Nat) (hn : n = f.length) (hp : p = none → c = 0) (ht : Bs w q t) (m d : Nat) (hm : m = t.length) (hq : q = none → d = 0) :
    Calls Try.prog 11 #[.string s, .slice p n c, .slice q m d] w (FSPost w s.data.toList f t) := by
  have HNM := Lib.hid (fun w => refName_any (w := w) s hs)
  have HMO := Lib.hid (fun w => rmost_any (w := w) s hs)
  have HKF := Lib.hid (fun w (h : Bs w p f) => rkey_any (w := w) s hs h n c hn hp)
  have HKT := Lib.hid (fun w (h : Bs w q t) => rkey_any (w := w) s hs h m d hm hq)
  have HKE := Lib.hid (fun w => rkey_any (w := w) s hs (p := none) (Bs.nil w none) 0 0 rfl (fun _ => rfl))
  have HF := Lib.hid hf
  have HT := Lib.hid ht
  have HN := Lib.hid hn
  have HM := Lib.hid hm
  clear hf ht hp hq hs
  cases hok : nameOk s
  · rw [hok] at HNM
    have HX := Lib.hid (wrongF_no (ls := [f, t]) hok)
    clear hok hn hm
    go_enter Try.func11, Try.ntmps11
    go_wp2_with fail
    refine (HNM.out _).mono ?_; rintro e w1 ⟨rfl, rfl⟩
    go_wp2
    go_ret3
    exact FSPost.no HX.out (by decide) (Below.refl _ _)
  rw [hok] at HNM
  obtain ⟨mo, hmo⟩ : ∃ mo, mo = mostF s.data.toList := ⟨_, rfl⟩
  have hmo71 : mo ≤ 71 := by rw [hmo]; exact mostF_le _
  rw [← hmo] at HMO
  by_cases hbf : n ≤ mo
  case neg =>
    have HX := Lib.hid (wrongF_big (n := s.data.toList) (ls := [f, t]) hok (k := 0) (by simp) (by rw [← hmo]; simp only [List.getElem_cons_zero]; omega))
    have hlt : (mo : Int) < (n : Int) := by omega
    clear hok hmo hn hm hbf
    go_enter Try.func11, Try.ntmps11
    go_wp2_with fail
    refine (HNM.out _).mono ?_; rintro e w1 ⟨rfl, rfl⟩
    go_wp2_with fail
    refine (HMO.out _).mono ?_; rintro e w1 ⟨rfl, rfl⟩
    go_wp2
    go_ret3
    exact FSPost.no HX.out (by decide) (Below.refl _ _)
  have hltf : ¬ (mo : Int) < (n : Int) := by omega
  by_cases hbt : m ≤ mo
  case neg =>
    have HX := Lib.hid (wrongF_big (n := s.data.toList) (ls := [f, t]) hok (k := 1) (by simp) (by rw [← hmo]; simp only [List.getElem_cons_succ, List.getElem_cons_zero]; omega))
    have hlt : (mo : Int) < (m : Int) := by omega
    clear hok hmo hn hm hbf hbt
    go_enter Try.func11, Try.ntmps11
    go_wp2_with fail
    refine (HNM.out _).mono ?_; rintro e w1 ⟨rfl, rfl⟩
    go_wp2_with fail
    refine (HMO.out _).mono ?_; rintro e w1 ⟨rfl, rfl⟩
    go_wp2_with fail
    refine (HMO.out _).mono ?_; rintro e w1 ⟨rfl, rfl⟩
    go_wp2
    go_ret3
    exact FSPost.no HX.out (by decide) (Below.refl _ _)
  have hltt : ¬ (mo : Int) < (m : Int) := by omega
  have HX : Hid (wrongF s.data.toList [f, t] = 0) := Lib.hid (wrongF_ok hok fun l hl => by
    rcases List.mem_cons.1 hl with rfl | hl
    · omega
    · rw [List.mem_singleton] at hl; subst hl; omega)
  have HXF : Hid (wrongF s.data.toList [f] = 0) := Lib.hid (wrongF_ok hok fun l hl => by rw [List.mem_singleton] at hl; subst hl; omega)
  have HXT : Hid (wrongF s.data.toList [t] = 0) := Lib.hid (wrongF_ok hok fun l hl => by rw [List.mem_singleton] at hl; subst hl; omega)
  have HXE : Hid (wrongF s.data.toList [[]] = 0) := Lib.hid (wrongF_ok hok fun l hl => by rw [List.mem_singleton] at hl; subst hl; simp)
  have HAO := Lib.hid (headF_ok hok)
  have hn71 : n ≤ 71 := by omega
  have hm71 : m ≤ 71 := by omega
  have hz : (headF s.data.toList).length = s.size + 1 := rfl
  have s16 := (nameOk_len hok).2
  by_cases hm0 : m = 0
  · obtain rfl : t = [] := List.eq_nil_of_length_eq_zero (by rw [← hm]; exact hm0)
    have HS0 : Hid (aft (headF s.data.toList) = spanB s.data.toList []) := Lib.hid (by unfold spanB; rw [if_pos rfl])
    have HK0 : Hid (keyF s.data.toList [] = headF s.data.toList) := Lib.hid (by unfold keyF; rw [List.append_nil])
    have hgt : ¬ (0 : Int) < (m : Int) := by omega
    clear hok hmo hn hm hbf hbt hm0
    go_enter Try.func11, Try.ntmps11
    go_wp2_with fail
    refine (HNM.out _).mono ?_; rintro e w1 ⟨rfl, rfl⟩
    go_wp2_with fail
    refine (HMO.out _).mono ?_; rintro e w1 ⟨rfl, rfl⟩
    go_wp2_with fail
    refine (HMO.out _).mono ?_; rintro e w1 ⟨rfl, rfl⟩
    go_wp2_with fail
    refine (HKF.out _ HF.out).mono ?_; rintro e w1 ⟨u1, rfl, ho, hb⟩
    rw [HXF.out, if_pos rfl] at ho
    rw [HXF.out]
    have HO1 := Lib.hid ho
    have HB1 := Lib.hid hb
    clear ho hb
    go_wp2_with fail
    refine (HKE.out _).mono ?_; rintro e w2 ⟨u2, rfl, ho, hb⟩
    rw [HXE.out, if_pos rfl, HK0.out] at ho
    rw [HXE.out]
    obtain ⟨p2, c2, rfl, hnc2, hc2, hbs2, _⟩ := ho.form hz.symm
    have HA := Lib.hid (refAfter_any hbs2 _ c2 hz.symm hnc2 hc2 (by rw [hz]; omega))
    have HO1 := Lib.hid (HO1.out.below hb)
    have HB2 := Lib.hid (HB1.out.trans (hb.mono HB1.out.size))
    clear ho hb hbs2
    go_wp2_with fail
    refine HA.out.mono ?_; rintro e w3 ⟨v3, rfl, ho, hb⟩
    have HO3 := Lib.hid (ho.le HB2.out.size)
    rw [HS0.out] at HO3
    have HO1 := Lib.hid (HO1.out.below hb)
    have HB3 := Lib.hid (HB2.out.trans (hb.mono HB2.out.size))
    clear ho hb
    go_wp2
    go_ret3
    exact FSPost.yes HX.out HO1.out HO3.out HB3.out
  · have HS1 : Hid (keyF s.data.toList t = spanB s.data.toList t) := Lib.hid (by unfold spanB; rw [if_neg (fun h => hm0 (by rw [hm, h]; rfl))])
    have hgt : (0 : Int) < (m : Int) := by omega
    clear hok hmo hn hm hbf hbt hm0
    go_enter Try.func11, Try.ntmps11
    go_wp2_with fail
    refine (HNM.out _).mono ?_; rintro e w1 ⟨rfl, rfl⟩
    go_wp2_with fail
    refine (HMO.out _).mono ?_; rintro e w1 ⟨rfl, rfl⟩
    go_wp2_with fail
    refine (HMO.out _).mono ?_; rintro e w1 ⟨rfl, rfl⟩
    go_wp2_with fail
    refine (HKF.out _ HF.out).mono ?_; rintro e w1 ⟨u1, rfl, ho, hb⟩
    rw [HXF.out, if_pos rfl] at ho
    rw [HXF.out]
    have HO1 := Lib.hid ho
    have HB1 := Lib.hid hb
    clear ho hb
    go_wp2_with fail
    refine (HKT.out _ (HT.out.below HB1.out)).mono ?_; rintro e w2 ⟨u2, rfl, ho, hb⟩
    rw [HXT.out, if_pos rfl, HS1.out] at ho
    rw [HXT.out]
    have HO2 := Lib.hid (ho.le HB1.out.size)
    have HO1 := Lib.hid (HO1.out.below hb)
    have HB2 := Lib.hid (HB1.out.trans (hb.mono HB1.out.size))
    clear ho hb
    go_wp2
    go_ret3
    exact FSPost.yes HX.out HO1.out HO2.out HB2.out

theorem splitF_long {c : UInt8} {r : List UInt8} (h : 71 < r.length) : splitF (c :: r) = none := if_neg (by omega)
theorem splitF_noname {c : UInt8} {r : List UInt8} (h : nameL (r.take c.toNat) = false) : splitF (c :: r) = none := if_neg (by rw [h]; simp)

set_option maxHeartbeats 1600000 in
theorem rsplit_any {w : World} {p : Option Addr} {l : List UInt8} (hl : Bs w p l) (n c : Nat) (hn : n = l.length) (hnc : n ≤ c) (hc : c ≤ 9223372036854775807) :
    Calls Try.prog 9 #[.slice p n c] w (FPPost w l) := by
  obtain rfl := hn
  cases l with
  | nil =>
    have HS := Lib.hid splitF_nil
    go_enter Try.func9, Try.ntmps9
    go_wp2
    go_ret3
    exact FPPost.no HS.out (Below.refl _ _)
  | cons d r =>
    obtain ⟨b, o, rfl, hb, hcell⟩ := hl.at (by simp)
    have c0 := hcell 0 (by simp)
    simp only [List.getElem_cons_zero, Nat.add_zero] at c0
    have hlen : (d :: r).length = r.length + 1 := rfl
    rw [hlen] at hnc
    have h255 := d.toNat_lt
    have hz : ((r.length : Int) + 1 == 0) = false := by rw [beq_eq_false_iff_ne]; omega
    have HL := Lib.hid hl
    by_cases h72 : r.length ≤ 71
    case neg =>
      have HS := Lib.hid (splitF_long (c := d) (r := r) (by omega))
      have hgt : 72 < (r.length : Int) + 1 := by omega
      clear hcell hl hlen h72
      go_enter Try.func9, Try.ntmps9
      go_wp2
      go_ret3
      exact FPPost.no HS.out (Below.refl _ _)
    have hgt : decide (72 < (r.length : Int) + 1) = false := decide_eq_false (by omega)
    by_cases hd : r.length < d.toNat
    · have HS := Lib.hid (splitF_short hd)
      have hlt : (r.length : Int) + 1 < 1 + (d.toNat : Int) := by omega
      clear hcell hl hd hlen
      go_enter Try.func9, Try.ntmps9
      go_wp2
      go_ret3
      exact FPPost.no HS.out (Below.refl _ _)
    have hge : decide ((r.length : Int) + 1 < 1 + (d.toNat : Int)) = false := decide_eq_false (by omega)
    obtain ⟨str, hstr⟩ : ∃ str, str = (⟨(r.take d.toNat).toArray⟩ : ByteArray) := ⟨_, rfl⟩
    have hcells : ∀ i u, (d :: r)[i]? = some u → w.cell? ⟨b, o + i, none⟩ = some (.int .u8 (u.toNat : Int)) := by
      obtain ⟨b', o', hp', hc'⟩ := HL.out (by simp)
      simp only [Option.some.injEq, Addr.mk.injEq, and_true] at hp'
      obtain ⟨rfl, rfl⟩ := hp'
      exact hc'
    have hb1 : Bs w (some ⟨b, o + 1, none⟩) r := by
      have := Bs.drop hcells 1
      simpa using this
    have hb2 : Bs w (some ⟨b, o + (d.toNat + 1), none⟩) (r.drop d.toNat) := by
      have := Bs.drop hcells (d.toNat + 1)
      simpa using this
    have htl : (r.take d.toNat).length = d.toNat := by rw [List.length_take]; omega
    have hdl : (r.drop d.toNat).length = r.length - d.toNat := List.length_drop
    have hb1' : Bs w (if c = 1 then some ⟨b, o, none⟩ else some ⟨b, o + 1, none⟩) (r.take d.toNat) := by
      split
      · have : r = [] := List.eq_nil_of_length_eq_zero (by omega)
        rw [this, List.take_nil]
        exact Bs.nil _ _
      · exact hb1.take _
    have hcv : ∀ cc, (convert 22 9 (.slice (if c = 1 then some ⟨b, o, none⟩ else some ⟨b, o + 1, none⟩) d.toNat cc)).run Try.prog w = .ok (.string str) w := fun cc => by rw [hstr]; exact str_of hb1' htl.symm
    have HNM := Lib.hid (fun w => refName_any (w := w) str (by rw [hstr]; show (r.take d.toNat).length ≤ _; omega))
    have HNE : nameOk str = nameL (r.take d.toNat) := by rw [hstr]; rfl
    rw [HNE] at HNM
    have q1 : 0 ≤ 1 + (d.toNat : Int) := by omega
    have q2 : (1 + (d.toNat : Int)).toNat = d.toNat + 1 := by omega
    have q3 : 1 + (d.toNat : Int) ≤ (c : Int) := by omega
    have q4 : (1 : Int) ≤ 1 + (d.toNat : Int) := by omega
    have q5 : d.toNat + 1 ≤ c := by omega
    have q6 : 1 + (d.toNat : Int) ≤ (r.length : Int) + 1 := by omega
    have q7 : d.toNat + 1 ≤ r.length + 1 := by omega
    have q8 : 1 ≤ d.toNat + 1 := by omega
    have hd2 : d.toNat ≤ r.length := by omega
    cases hok : nameL (r.take d.toNat)
    · rw [hok] at HNM
      have HX := Lib.hid (splitF_noname hok)
      clear hcell hl hd hlen hcells hstr htl hdl hb1 hb1' hb2 hd2 hok HNE
      by_cases hc1 : c = 1
      · rw [if_pos hc1] at hcv
        go_enter Try.func9, Try.ntmps9
        go_wp2_with fail
        refine (HNM.out _).mono ?_; rintro e w1 ⟨rfl, rfl⟩
        go_wp2
        go_ret3
        exact FPPost.no HX.out (Below.refl _ _)
      · rw [if_neg hc1] at hcv
        go_enter Try.func9, Try.ntmps9
        go_wp2_with fail
        refine (HNM.out _).mono ?_; rintro e w1 ⟨rfl, rfl⟩
        go_wp2
        go_ret3
        exact FPPost.no HX.out (Below.refl _ _)
    rw [hok] at HNM
    have h16 := (nameL_len hok).2
    have h1 := (nameL_len hok).1
    have hc1 : ¬ c = 1 := by omega
    rw [if_neg hc1] at hcv
    have HX := Lib.hid (splitF_right hd2 hok (by rw [mostF_yes hok]; omega))
    have HKL : Hid ((r.drop d.toNat).length ≤ 71) := Lib.hid (by omega)
    have HSTR := Lib.hid hstr
    have HDL := Lib.hid hdl
    have HEM : ∀ w : World, Hid (Below w.heap.size w (w.alloc (.cells #[] 5))) := fun w => Lib.hid (Below.alloc (Below.refl _ _) (Nat.le_refl _) _)
    by_cases hcd : c = d.toNat + 1
    · have hbk : Bs w (some ⟨b, o, none⟩) (r.drop d.toNat) := by
        have : r.drop d.toNat = [] := List.eq_nil_of_length_eq_zero (by omega)
        rw [this]
        exact Bs.nil _ _
      have HB2 := Lib.hid hbk
      clear hcell hl hd hlen hcells hstr htl hdl hb1 hb1' hb2 hd2 hok HNE h16 h1 hbk
      go_enter Try.func9, Try.ntmps9
      go_wp2_with fail
      refine (HNM.out _).mono ?_; rintro e w1 ⟨rfl, rfl⟩
      go_wp2_with (at_builtin; refine app_own rfl (.tmp 38) (.tmp 41) rfl rfl (Own.empty w w.heap.size (Nat.le_refl _)) HDL.out.symm rfl (HB2.out.below (HEM w).out) (fun h => by cases h) (by have := HKL.out; simp only [List.length_nil]; omega) (HEM w).out.size ?_; intro v3 w3 ho3 hb3)
      rw [List.nil_append] at ho3
      have HO3 := Lib.hid ho3
      have HB3 := Lib.hid ((HEM w).out.trans hb3)
      clear ho3 hb3
      go_wp2
      go_ret3
      exact FPPost.yes HX.out HSTR.out HO3.out HB3.out
    · have hbk : Bs w (some ⟨b, o + (d.toNat + 1), none⟩) (r.drop d.toNat) := hb2
      have HB2 := Lib.hid hbk
      clear hcell hl hd hlen hcells hstr htl hdl hb1 hb1' hb2 hd2 hok HNE h16 h1 hbk
      go_enter Try.func9, Try.ntmps9
      go_wp2_with fail
      refine (HNM.out _).mono ?_; rintro e w1 ⟨rfl, rfl⟩
      go_wp2_with (at_builtin; refine app_own rfl (.tmp 38) (.tmp 41) rfl rfl (Own.empty w w.heap.size (Nat.le_refl _)) HDL.out.symm rfl (HB2.out.below (HEM w).out) (fun h => by cases h) (by have := HKL.out; simp only [List.length_nil]; omega) (HEM w).out.size ?_; intro v3 w3 ho3 hb3)
      rw [List.nil_append] at ho3
      have HO3 := Lib.hid ho3
      have HB3 := Lib.hid ((HEM w).out.trans hb3)
      clear ho3 hb3
      go_wp2
      go_ret3
      exact FPPost.yes HX.out HSTR.out HO3.out HB3.out

end Go.Proofs.Ytgfdihnpenipjaa
