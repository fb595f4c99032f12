/-
  Key, Split and Span of the package forest: contracts for the walks.
-/
import Derived.Test.YtgfdihnpenipjaaFoMem
import Derived.Deep.QuietTactic
import Derived.BigQuiet
set_option linter.unusedVariables false
set_option maxRecDepth 100000
namespace Go.Proofs.Ytgfdihnpenipjaa
open Go.RowKit

def FKPost (w : World) (n k : List UInt8) (e : Ending) (w' : World) : Prop :=
  ∃ v, e = .returned (.tuple #[v, .int .i64 (wrongF n [k])]) ∧ Own w' w.heap.size v (if wrongF n [k] = 0 then keyF n k else []) ∧ Below w.heap.size w w'
theorem FKPost.no {w w' : World} {n k : List UInt8} {x : Int} (hx : wrongF n [k] = x) (h0 : x ≠ 0) (hb : Below w.heap.size w w') : FKPost w n k (.returned (.tuple #[.slice none 0 0, .int .i64 x])) w' :=
  ⟨_, by rw [hx], by rw [hx, if_neg h0]; exact Own.nil _ _, hb⟩
theorem FKPost.yes {w w' : World} {n k : List UInt8} {v : Value} (hx : wrongF n [k] = 0) (ho : Own w' w.heap.size v (keyF n k)) (hb : Below w.heap.size w w') : FKPost w n k (.returned (.tuple #[v, .int .i64 0])) w' :=
  ⟨_, by rw [hx], by rw [hx, if_pos rfl]; exact ho, hb⟩

def FSPost (w : World) (n f t : List UInt8) (e : Ending) (w' : World) : Prop :=
  ∃ u v, e = .returned (.tuple #[u, v, .int .i64 (wrongF n [f, t])]) ∧ Own w' w.heap.size u (if wrongF n [f, t] = 0 then keyF n f else []) ∧ Own w' w.heap.size v (if wrongF n [f, t] = 0 then spanB n t else []) ∧ Below w.heap.size w w'
theorem FSPost.no {w w' : World} {n f t : List UInt8} {x : Int} (hx : wrongF n [f, t] = x) (h0 : x ≠ 0) (hb : Below w.heap.size w w') : FSPost w n f t (.returned (.tuple #[.slice none 0 0, .slice none 0 0, .int .i64 x])) w' :=
  ⟨_, _, by rw [hx], by rw [hx, if_neg h0]; exact Own.nil _ _, by rw [hx, if_neg h0]; exact Own.nil _ _, hb⟩
theorem FSPost.yes {w w' : World} {n f t : List UInt8} {u v : Value} (hx : wrongF n [f, t] = 0) (ho : Own w' w.heap.size u (keyF n f)) (ho2 : Own w' w.heap.size v (spanB n t)) (hb : Below w.heap.size w w') : FSPost w n f t (.returned (.tuple #[u, v, .int .i64 0])) w' :=
  ⟨_, _, by rw [hx], by rw [hx, if_pos rfl]; exact ho, by rw [hx, if_pos rfl]; exact ho2, hb⟩

def FPPost (w : World) (b : List UInt8) (e : Ending) (w' : World) : Prop :=
  Below w.heap.size w w' ∧ ((splitF b = none ∧ e = .returned (.tuple #[.string ⟨#[]⟩, .slice none 0 0, .int .i64 11])) ∨
    ∃ n k v, splitF b = some (n, k) ∧ e = .returned (.tuple #[.string ⟨n.toArray⟩, v, .int .i64 0]) ∧ Own w' w.heap.size v k)
theorem FPPost.no {w w' : World} {b : List UInt8} (h : splitF b = none) (hb : Below w.heap.size w w') : FPPost w b (.returned (.tuple #[.string ⟨#[]⟩, .slice none 0 0, .int .i64 11])) w' := ⟨hb, .inl ⟨h, rfl⟩⟩
theorem FPPost.yes {w w' : World} {b n k : List UInt8} {s : ByteArray} {v : Value} (h : splitF b = some (n, k)) (hs : s = ⟨n.toArray⟩) (hv : Own w' w.heap.size v k) (hb : Below w.heap.size w w') : FPPost w b (.returned (.tuple #[.string s, v, .int .i64 0])) w' := ⟨hb, .inr ⟨n, k, v, h, by rw [hs], hv⟩⟩

theorem splitF_nil : splitF [] = none := rfl
theorem splitF_short {c : UInt8} {r : List UInt8} (h : r.length < c.toNat) : splitF (c :: r) = none := if_neg (by omega)
theorem splitF_wrong {c : UInt8} {r : List UInt8} (hc : c.toNat ≤ r.length) (h : wrongF (r.take c.toNat) [r.drop c.toNat] ≠ 0) : splitF (c :: r) = none := by
  refine if_neg ?_
  rintro ⟨h1, _, h3⟩
  refine h (wrongF_ok h3 fun l hl => ?_)
  rw [List.mem_singleton] at hl
  subst hl
  rw [mostF_yes h3, List.length_drop, List.length_take]
  omega
theorem splitF_right {c : UInt8} {r : List UInt8} (hc : c.toNat ≤ r.length) (h1 : nameL (r.take c.toNat) = true) (h2 : (r.drop c.toNat).length ≤ mostF (r.take c.toNat)) : splitF (c :: r) = some (r.take c.toNat, r.drop c.toNat) := by
  have h16 := (nameL_len h1).2
  rw [mostF_yes h1, List.length_drop] at h2
  rw [List.length_take] at h2 h16
  exact if_pos ⟨by omega, hc, h1⟩

set_option maxHeartbeats 1600000 in
theorem fkey_any {w : World} (s : ByteArray) (hs : s.size ≤ 9223372036854775807) {p : Option Addr} {k : List UInt8} (hk : Bs w p k) (n c : Nat) (hn : n = k.length) (hp : p = none → c = 0) :
    Calls Try.prog 6 #[.string s, .slice p n c] w (FKPost w s.data.toList k) := by
  have HR := Lib.hid (fright_any s hs (Pts.one w 22 hn hk hp) 1 1 rfl (by omega))
  have HB1 : Hid (Below w.heap.size w (w.alloc (.cells #[.slice p n c] 22))) := Lib.hid (Below.alloc (Below.refl _ _) (Nat.le_refl _) _)
  rcases wrongF_cases s.data.toList [k] with ⟨h1, hx⟩ | ⟨h1, hx⟩ | ⟨h1, hx, hal⟩
  · rw [hx] at HR
    have HX := Lib.hid hx
    clear hx h1 hk hn hp
    go_enter Try.func6, Try.ntmps6
    go_wp2_with fail
    refine HR.out.mono ?_; rintro e w1 ⟨rfl, hb1⟩
    have HB := Lib.hid (below_call hb1)
    clear hb1
    go_wp2
    go_ret2
    exact FKPost.no HX.out (by decide) HB.out
  · rw [hx] at HR
    have HX := Lib.hid hx
    clear hx h1 hk hn hp
    go_enter Try.func6, Try.ntmps6
    go_wp2_with fail
    refine HR.out.mono ?_; rintro e w1 ⟨rfl, hb1⟩
    have HB := Lib.hid (below_call hb1)
    clear hb1
    go_wp2
    go_ret2
    exact FKPost.no HX.out (by decide) HB.out
  · rw [hx] at HR
    have HX := Lib.hid hx
    have HH := Lib.hid (fun w => head_any (w := w) s h1)
    have hm := hal k (by simp)
    rw [mostF_yes h1] at hm
    have h16 := nameOk_len (s := s) h1
    have hz : (headF s.data.toList).length = s.size + 1 := rfl
    have HM := Lib.hid hm
    have HK := Lib.hid hk
    have HN := Lib.hid hn
    have HP := Lib.hid hp
    clear hx h1 hal hm hk hn hp
    go_enter Try.func6, Try.ntmps6
    go_wp2_with fail
    refine HR.out.mono ?_; rintro e w1 ⟨rfl, hb1⟩
    have HB := Lib.hid (below_call hb1)
    clear hb1
    go_wp2_with fail
    refine (HH.out _).mono ?_; rintro e w2 ⟨v, rfl, ho, hb2⟩
    obtain ⟨p2, c2, rfl, _, hc2, hbs2, hp2⟩ := ho.form hz.symm
    have HB2 := Lib.hid (HB.out.trans (hb2.mono HB.out.size))
    have HPT := Lib.hid (Pts.two w2 22 hz.symm HN.out hbs2 hp2 (HK.out.below HB2.out) HP.out)
    have HJ := Lib.hid (join_any HPT.out 2 2 rfl (by omega) (by have := HM.out; simp only [List.flatten_cons, List.flatten_nil, List.length_append, List.length_nil, hz]; omega))
    have HE : Hid ([headF s.data.toList, k].flatten = keyF s.data.toList k) := Lib.hid (by unfold keyF; simp)
    rw [HE.out] at HJ
    clear ho hb2 hbs2 hp2
    go_wp2_with fail
    refine HJ.out.mono ?_; rintro e w3 ⟨v, rfl, ho3, hb3⟩
    have HB3 := Lib.hid (HB2.out.trans ((below_call hb3).mono HB2.out.size))
    have HO3 := Lib.hid ((own_call ho3).le HB2.out.size)
    clear ho3 hb3
    go_wp2
    go_ret2
    exact FKPost.yes HX.out HO3.out HB3.out

set_option maxHeartbeats 1600000 in
theorem fspan_any {w : World} (s : ByteArray) (hs : s.size ≤ 9223372036854775807) {p q : Option Addr} {f t : List UInt8} (hf : Bs w p f) (n c : Nat) (hn : n = f.length) (hp : p = none → c = 0) (ht : Bs w q t) (m d : Nat) (hm : m = t.length) (hq : q = none → d = 0) :
    Calls Try.prog 10 #[.string s, .slice p n c, .slice q m d] w (FSPost w s.data.toList f t) := by
  have HR := Lib.hid (fright_any s hs (Pts.two w 22 hn hm hf hp ht hq) 2 2 rfl (by omega))
  rcases wrongF_cases s.data.toList [f, t] with ⟨h1, hx⟩ | ⟨h1, hx⟩ | ⟨h1, hx, hal⟩
  · rw [hx] at HR
    have HX := Lib.hid hx
    clear hx h1 hf ht hn hm hp hq
    go_enter Try.func10, Try.ntmps10
    go_wp2_with fail
    refine HR.out.mono ?_; rintro e w1 ⟨rfl, hb1⟩
    have HB := Lib.hid (below_call hb1)
    clear hb1
    go_wp2
    go_ret3
    exact FSPost.no HX.out (by decide) HB.out
  · rw [hx] at HR
    have HX := Lib.hid hx
    clear hx h1 hf ht hn hm hp hq
    go_enter Try.func10, Try.ntmps10
    go_wp2_with fail
    refine HR.out.mono ?_; rintro e w1 ⟨rfl, hb1⟩
    have HB := Lib.hid (below_call hb1)
    clear hb1
    go_wp2
    go_ret3
    exact FSPost.no HX.out (by decide) HB.out
  · rw [hx] at HR
    have HX := Lib.hid hx
    have HH := Lib.hid (fun w => head_any (w := w) s h1)
    have hmf := hal f (by simp)
    have hmt := hal t (by simp)
    rw [mostF_yes h1] at hmf hmt
    have h16 := nameOk_len (s := s) h1
    have hz : (headF s.data.toList).length = s.size + 1 := rfl
    have HS0 : Hid (t = [] → aft (headF s.data.toList) = spanB s.data.toList t) := Lib.hid fun h => by unfold spanB; rw [if_pos h]
    have HS1 : Hid (t ≠ [] → keyF s.data.toList t = spanB s.data.toList t) := Lib.hid fun h => by unfold spanB; rw [if_neg h]
    have HAO := Lib.hid (headF_ok h1)
    have HMF := Lib.hid hmf
    have HMT := Lib.hid hmt
    have HF := Lib.hid hf
    have HT := Lib.hid ht
    have HN := Lib.hid hn
    have HM := Lib.hid hm
    have HP := Lib.hid hp
    have HQ := Lib.hid hq
    have hm' : m ≤ 71 := by omega
    clear hx h1 hal hmf hmt hf ht hn hp hq hm
    go_enter Try.func10, Try.ntmps10
    go_wp2_with fail
    refine HR.out.mono ?_; rintro e w1 ⟨rfl, hb1⟩
    have HB := Lib.hid (below_call hb1)
    clear hb1
    go_wp2_with fail
    refine (HH.out _).mono ?_; rintro e w2 ⟨v, rfl, ho, hb2⟩
    obtain ⟨p2, c2, rfl, _, hc2, hbs2, hp2⟩ := ho.form hz.symm
    have HB2 := Lib.hid (HB.out.trans (hb2.mono HB.out.size))
    have HPT := Lib.hid (Pts.two w2 22 hz.symm HN.out hbs2 hp2 (HF.out.below HB2.out) HP.out)
    have HJ := Lib.hid (join_any HPT.out 2 2 rfl (by omega) (by have := HMF.out; simp only [List.flatten_cons, List.flatten_nil, List.length_append, List.length_nil, hz]; omega))
    have HE : Hid ([headF s.data.toList, f].flatten = keyF s.data.toList f) := Lib.hid (by unfold keyF; simp)
    rw [HE.out] at HJ
    clear ho hb2 hbs2 hp2
    go_wp2_with fail
    refine HJ.out.mono ?_; rintro e w3 ⟨v3, rfl, ho3, hb3⟩
    have HB3 := Lib.hid (HB2.out.trans ((below_call hb3).mono HB2.out.size))
    have HO3 := Lib.hid ((own_call ho3).le HB2.out.size)
    clear ho3 hb3 HJ HPT HE
    go_wp2_with fail
    refine (HH.out _).mono ?_; rintro e w4 ⟨v, rfl, ho, hb4⟩
    obtain ⟨p4, c4, rfl, _, hc4, hbs4, hp4⟩ := ho.form hz.symm
    have HB4 := Lib.hid (HB3.out.trans (hb4.mono HB3.out.size))
    have HO4 := Lib.hid (HO3.out.below hb4)
    have HPT := Lib.hid (Pts.two w4 22 hz.symm HM.out hbs4 hp4 (HT.out.below HB4.out) HQ.out)
    have HJ := Lib.hid (join_any HPT.out 2 2 rfl (by omega) (by have := HMT.out; simp only [List.flatten_cons, List.flatten_nil, List.length_append, List.length_nil, hz]; omega))
    have HE : Hid ([headF s.data.toList, t].flatten = keyF s.data.toList t) := Lib.hid (by unfold keyF; simp)
    rw [HE.out] at HJ
    clear ho hb4 hbs4 hp4
    go_wp2_with fail
    refine HJ.out.mono ?_; rintro e w5 ⟨v5, rfl, ho5, hb5⟩
    have HB5 := Lib.hid (HB4.out.trans ((below_call hb5).mono HB4.out.size))
    have HO5 := Lib.hid ((own_call ho5).le HB4.out.size)
    have HO35 := Lib.hid (HO4.out.below (below_call hb5))
    clear ho5 hb5 HJ HPT HE
    by_cases hm0 : m = 0
    · obtain rfl : t = [] := List.eq_nil_of_length_eq_zero (by rw [← HM.out]; exact hm0)
      have hk5 : keyF s.data.toList [] = headF s.data.toList := by unfold keyF; rw [List.append_nil]
      rw [hk5] at HO5
      obtain ⟨p5, c5, rfl, hnc5, hc5, hbs5, hp5⟩ := HO5.out.form hz.symm
      have HA := Lib.hid (after_any hbs5 _ c5 hz.symm hnc5 hc5 (by rw [hz]; omega))
      have hm0' : ((m : Int) == 0) = true := by rw [hm0]; rfl
      clear hbs5 hp5 hk5 hm0
      go_wp2_with fail
      refine HA.out.mono ?_; rintro e w6 ⟨v6, rfl, ho6, hb6⟩
      have HB6 := Lib.hid (HB5.out.trans (hb6.mono HB5.out.size))
      have HO6 := Lib.hid (ho6.le HB5.out.size)
      rw [HS0.out trivial] at HO6
      have HO36 := Lib.hid (HO35.out.below hb6)
      clear ho6 hb6
      go_wp2
      go_ret3
      exact FSPost.yes HX.out HO36.out HO6.out HB6.out
    · have HS := HS1.out (fun h => hm0 (by rw [HM.out, h]; rfl))
      rw [HS] at HO5
      have hm0' : ((m : Int) == 0) = false := by rw [beq_eq_false_iff_ne]; omega
      clear HS
      go_wp2
      go_ret3
      exact FSPost.yes HX.out HO35.out HO5.out HB5.out

set_option maxHeartbeats 1600000 in
theorem fsplit_any {w : World} {p : Option Addr} {l : List UInt8} (hl : Bs w p l) (n c : Nat) (hn : n = l.length) (hnc : n ≤ c) (hc : c ≤ 9223372036854775807) :
    Calls Try.prog 8 #[.slice p n c] w (FPPost w l) := by
  obtain rfl := hn
  cases l with
  | nil =>
    have HS := Lib.hid splitF_nil
    go_enter Try.func8, Try.ntmps8
    go_wp2
    go_ret3
    exact FPPost.no HS.out (Below.refl _ _)
  | cons d r =>
    obtain ⟨b, o, rfl, hb, hcell⟩ := hl.at (by simp)
    have c0 := hcell 0 (by simp)
    simp only [List.getElem_cons_zero, Nat.add_zero] at c0
    have hlen : (d :: r).length = r.length + 1 := rfl
    rw [hlen] at hnc
    have h255 := d.toNat_lt
    have hz : ((r.length : Int) + 1 == 0) = false := by rw [beq_eq_false_iff_ne]; omega
    have HL := Lib.hid hl
    by_cases hd : r.length < d.toNat
    · have HS := Lib.hid (splitF_short hd)
      have hge : (r.length : Int) + 1 ≤ (d.toNat : Int) := by omega
      clear hcell hl hd hlen
      go_enter Try.func8, Try.ntmps8
      go_wp2
      go_ret3
      exact FPPost.no HS.out (Below.refl _ _)
    · have hge : decide ((r.length : Int) + 1 ≤ (d.toNat : Int)) = false := decide_eq_false (by omega)
      have HD : Hid (d.toNat ≤ r.length) := Lib.hid (by omega)
      have hx : (1 : Int) + (d.toNat : Int) = ((d.toNat + 1 : Nat) : Int) := by omega
      obtain ⟨str, hstr⟩ : ∃ str, str = (⟨(r.take d.toNat).toArray⟩ : ByteArray) := ⟨_, rfl⟩
      have hcells : ∀ i u, (d :: r)[i]? = some u → w.cell? ⟨b, o + i, none⟩ = some (.int .u8 (u.toNat : Int)) := by
        obtain ⟨b', o', hp', hc'⟩ := HL.out (by simp)
        simp only [Option.some.injEq, Addr.mk.injEq, and_true] at hp'
        obtain ⟨rfl, rfl⟩ := hp'
        exact hc'
      have hb1 : Bs w (some ⟨b, o + 1, none⟩) r := by
        have := Bs.drop hcells 1
        simpa using this
      have hb2 : Bs w (some ⟨b, o + (d.toNat + 1), none⟩) (r.drop d.toNat) := by
        have := Bs.drop hcells (d.toNat + 1)
        simpa using this
      have htl : (r.take d.toNat).length = d.toNat := by rw [List.length_take]; omega
      have hdl : (r.drop d.toNat).length = r.length - d.toNat := List.length_drop
      have hb1' : Bs w (if c = 1 then some ⟨b, o, none⟩ else some ⟨b, o + 1, none⟩) (r.take d.toNat) := by
        split
        · have : r = [] := List.eq_nil_of_length_eq_zero (by omega)
          rw [this, List.take_nil]
          exact Bs.nil _ _
        · exact hb1.take _
      have hcv : ∀ k cc, (convert 22 9 (.slice (if c = 1 then some ⟨b, o, none⟩ else some ⟨b, o + 1, none⟩) d.toNat cc)).run Try.prog (w.drewN k) = .ok (.string str) (w.drewN k) := fun k cc => by rw [hstr]; exact str_of (hb1'.drewN k) htl.symm
      obtain ⟨p1, hp1⟩ : ∃ p1, p1 = (if c = 1 then (some ⟨b, o, none⟩ : Option Addr) else some ⟨b, o + 1, none⟩) := ⟨_, rfl⟩
      obtain ⟨pk, hpk⟩ : ∃ pk, pk = (if c = d.toNat + 1 then (some ⟨b, o, none⟩ : Option Addr) else some ⟨b, o + (d.toNat + 1), none⟩) := ⟨_, rfl⟩
      have hb2' : Bs w pk (r.drop d.toNat) := by
        rw [hpk]
        split
        · have : r.drop d.toNat = [] := List.eq_nil_of_length_eq_zero (by omega)
          rw [this]
          exact Bs.nil _ _
        · exact hb2
      have hpn : pk = none → c - (d.toNat + 1) = 0 := by
        rw [hpk]
        split <;> intro h <;> cases h
      have hsz : str.size = d.toNat := by rw [hstr]; exact htl
      have hsl : str.data.toList = r.take d.toNat := by rw [hstr]
      have hpt : ∀ k, Pts ((w.drewN k).alloc (.cells #[.slice pk (r.length - d.toNat) (c - (d.toNat + 1))] 22)) (some ⟨w.heap.size, 0, none⟩) [r.drop d.toNat] := fun k => Pts.one (w.drewN k) 22 hdl.symm (hb2'.drewN k) hpn
      have HR := Lib.hid (fun k => fright_any str (by omega) (hpt k) 1 1 rfl (by omega))
      clear hpt
      have hd2 : d.toNat ≤ r.length := by omega
      have HDN : Hid (∀ k, Below w.heap.size w (w.drewN k)) := Lib.hid fun k => belowN (Below.refl _ _) k
      have q1 : 0 ≤ (d.toNat : Int) + 1 := by omega
      have q2 : ((d.toNat : Int) + 1).toNat = d.toNat + 1 := by omega
      have q3 : (d.toNat : Int) + 1 ≤ (c : Int) := by omega
      have q4 : (1 : Int) ≤ (d.toNat : Int) + 1 := by omega
      have q5 : d.toNat + 1 ≤ c := by omega
      have q6 : (d.toNat : Int) + 1 ≤ (r.length : Int) + 1 := by omega
      have q7 : d.toNat + 1 ≤ r.length + 1 := by omega
      have q8 : 1 ≤ d.toNat + 1 := by omega
      rcases wrongF_cases (r.take d.toNat) [r.drop d.toNat] with ⟨h1, hx⟩ | ⟨h1, hx⟩ | ⟨h1, hx, hal⟩
      · rw [hsl, hx] at HR
        have HX := Lib.hid (splitF_wrong hd2 (by rw [hx]; decide))
        have HPK := Lib.hid hpk
        have HP1 := Lib.hid hp1
        clear hcell hl hd hlen hcells hstr htl hdl hb1 hb1' hb2 hb2' hpn hsz hsl hpk hp1 hd2 hx h1
        go_enter Try.func8, Try.ntmps8
        go_wp2
        go_quiet (fail)
        rw [← HPK.out, ← HP1.out]
        go_wp2_with fail
        refine (HR.out nq).mono ?_; rintro e w1 ⟨rfl, hb1⟩
        have HB := Lib.hid ((HDN.out nq).trans (below_call hb1))
        clear hb1
        go_wp2
        go_ret3
        exact FPPost.no HX.out HB.out
      · rw [hsl, hx] at HR
        have HX := Lib.hid (splitF_wrong hd2 (by rw [hx]; decide))
        have HPK := Lib.hid hpk
        have HP1 := Lib.hid hp1
        clear hcell hl hd hlen hcells hstr htl hdl hb1 hb1' hb2 hb2' hpn hsz hsl hpk hp1 hd2 hx h1
        go_enter Try.func8, Try.ntmps8
        go_wp2
        go_quiet (fail)
        rw [← HPK.out, ← HP1.out]
        go_wp2_with fail
        refine (HR.out nq).mono ?_; rintro e w1 ⟨rfl, hb1⟩
        have HB := Lib.hid ((HDN.out nq).trans (below_call hb1))
        clear hb1
        go_wp2
        go_ret3
        exact FPPost.no HX.out HB.out
      · rw [hsl, hx] at HR
        have hm := hal (r.drop d.toNat) (by simp)
        have HX := Lib.hid (splitF_right hd2 h1 hm)
        have HPK := Lib.hid hpk
        have HP1 := Lib.hid hp1
        have HKL : Hid ((r.drop d.toNat).length ≤ 71) := Lib.hid (Nat.le_trans hm (mostF_le _))
        have HSTR := Lib.hid hstr
        have HDL := Lib.hid hdl
        have HB2 := Lib.hid hb2'
        have HPN := Lib.hid hpn
        clear hcell hl hd hlen hcells hstr htl hdl hb1 hb1' hb2 hb2' hpn hsz hsl hpk hp1 hd2 hx h1 hal hm
        go_enter Try.func8, Try.ntmps8
        go_wp2
        go_quiet (fail)
        rw [← HPK.out, ← HP1.out]
        go_wp2_with fail
        refine (HR.out nq).mono ?_; rintro e w1 ⟨rfl, hb1⟩
        have HB := Lib.hid ((HDN.out nq).trans (below_call hb1))
        clear hb1
        have HPT := Lib.hid (Pts.one w1 22 HDL.out.symm (HB2.out.below HB.out) HPN.out)
        have HJ := Lib.hid (join_any HPT.out 1 1 rfl (by omega) (by have := HKL.out; simp only [List.flatten_cons, List.flatten_nil, List.append_nil]; omega))
        have HE : Hid ([r.drop d.toNat].flatten = r.drop d.toNat) := Lib.hid (by simp)
        rw [HE.out] at HJ
        go_wp2_with fail
        refine HJ.out.mono ?_; rintro e w3 ⟨v, rfl, ho3, hb3⟩
        have HB3 := Lib.hid (HB.out.trans ((below_call hb3).mono HB.out.size))
        have HO3 := Lib.hid ((own_call ho3).le HB.out.size)
        clear ho3 hb3
        go_wp2
        go_ret3
        exact FPPost.yes HX.out HSTR.out HO3.out HB3.out

end Go.Proofs.Ytgfdihnpenipjaa
