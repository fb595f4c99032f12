/-
  record.isNothing, propsRight, NodeRight, EdgeRight: contracts for the walks.
-/
import Derived.Test.YtekaedafhiddeaaRRise
import Derived.Test.YtekaedafhiddeaaVValid
set_option linter.unusedVariables false
set_option maxRecDepth 100000
namespace Go.Proofs.Ytekaedafhiddeaa
open Go.RowKit

set_option maxHeartbeats 800000 in
theorem isNothing_any {w : World} (p : Pr) (hp : p.Ok w) : Calls Try.prog 69 #[p.cell] w fun e w' => e = .returned (.bool (nothing p.c)) ∧ Below w.heap.size w w' := by
  have hst := store_flt
  obtain ⟨n, ⟨⟨k, i, f, s⟩, q, m, c, l⟩⟩ := p
  have HV : Hid (∀ w', Below w.heap.size w w' → Calls Try.prog 38 #[.agg #[.int .i64 k, .int .i64 i, .float .f64 f, .string s, .slice q m c]] w' fun e w'' => e = .returned (.bool (validV ⟨k, i, f, s⟩ l)) ∧ Below w'.heap.size w' w'') :=
    Lib.hid fun w' hb => valid_any (VaOk.below hp.v hb)
  have HX : Hid (nothing (Pr.c ⟨n, ⟨⟨k, i, f, s⟩, q, m, c, l⟩⟩) = (k == 0 || !validV ⟨k, i, f, s⟩ l)) := Lib.hid rfl
  show Calls Try.prog _ #[.agg #[.string n, .int .i64 k, .int .i64 i, .float .f64 f, .string s, .slice q m c]] w _
  clear hp
  generalize nothing (Pr.c ⟨n, ⟨⟨k, i, f, s⟩, q, m, c, l⟩⟩) = r at *
  generalize validV ⟨k, i, f, s⟩ l = v at *
  obtain ⟨x, hx⟩ : ∃ x, (k == 0) = x := ⟨_, rfl⟩
  rw [hx] at HX
  cases x
  · cases v
    all_goals
      go_enter Try.func69, Try.ntmps69
      go_wp2_with fail
      refine (HV.out _ (box_below (Below.refl _ _))).mono ?_; rintro e w1 ⟨rfl, hb1⟩
      have HB1 := Lib.hid (box_below hb1)
      clear hb1
      go_wp2
      go_ret
      exact ⟨ret_bool HX.out.symm, HB1.out⟩
  · go_enter Try.func69, Try.ntmps69
    go_wp2
    go_ret
    exact ⟨ret_bool HX.out.symm, box_below (Below.refl _ _)⟩

set_option maxHeartbeats 800000 in
/-- slices.IndexFunc, at whatever predicate on properties. -/
theorem indexPr_any {g : Nat} {p : Pr → Bool} (eg : ∀ args (w : World), (callFunc g args).run Try.prog w = .ok (.enter g args) w)
    {w : World} (hp : ∀ (w' : World) (x : Pr), Below w.heap.size w w' → x.Ok w' → Calls Try.prog g #[x.cell] w' fun e w'' => e = .returned (.bool (p x)) ∧ Below w'.heap.size w' w'')
    {q : Option Addr} {m c : Nat} {l : List Pr} (h : PsOk w q m c l) :
    Calls Try.prog 35 #[.slice q m c, .func (.func g) #[] #[]] w fun e w' => ∃ r : Int, e = .returned (.int .i64 r) ∧ decide (0 ≤ r) = l.any p ∧ Below w.heap.size w w' := by
  have hst := store_flt
  obtain ⟨hn, h1, h2, _, hl⟩ := h
  have HN := Lib.hid hn
  have HL := Lib.hid hl
  have HP := Lib.hid hp
  clear hn hl hp
  go_enter Try.func35, Try.ntmps35
  go_wp2
  go_loopw [8] (fun i wr => ∃ j : Nat, i = .int .i64 j ∧ j ≤ m ∧ Below w.heap.size w wr ∧ (l.take j).any p = false) (fun i _ => m - (intOf i).toNat)
  case atStart => exact ⟨0, rfl, by omega, Below.refl _ _, rfl⟩
  case round =>
    obtain ⟨j, rfl, hj, hb, hany⟩ := hrel
    have HB := Lib.hid hb
    have HA := Lib.hid hany
    clear hb hany
    by_cases hlt : j < m
    · have hjl : j < l.length := by have := HN.out; omega
      obtain ⟨x, hx⟩ : ∃ x, l[j]? = some x := ⟨_, List.getElem?_eq_getElem hjl⟩
      obtain ⟨hok, b, o, rfl, hc⟩ := HL.out.at hx
      obtain ⟨c0, c1, c2, c3, c4, c5⟩ := hc.below HB.out
      have hblt := (hc.below HB.out).lt
      have HT : Hid ((l.take (j + 1)).any p = ((l.take j).any p || p x)) := Lib.hid (by
        rw [List.take_add_one, hx]
        simp)
      have hk := List.mem_of_getElem? hx
      have HS : Hid (p x = true → l.any p = true) := Lib.hid (fun h => List.any_eq_true.2 ⟨x, hk, h⟩)
      have HSP : Hid (Calls Try.prog g #[.agg #[.string x.n, .int .i64 x.v.a.k, .int .i64 x.v.a.n, .float .f64 x.v.a.f, .string x.v.a.s, .slice x.v.q x.v.m x.v.c]] wr fun e w'' => e = .returned (.bool (p x)) ∧ Below wr.heap.size wr w'') := Lib.hid (HP.out wr x HB.out (hok.below HB.out))
      clear hx hjl hok hc hk
      generalize p x = y at *
      go_wp2_with fail
      refine HSP.out.mono ?_; rintro e w1 ⟨rfl, hb1⟩
      have HB1 := Lib.hid (HB.out.trans (hb1.mono HB.out.size))
      clear hb1
      cases y
      · go_wp2
        go_roundw
        case rel => exact ⟨j + 1, by go_num, by omega, HB1.out, by rw [HT.out, HA.out]; rfl⟩
        case measure => simp [intOf]; omega
      · go_wp2
        go_ret
        exact ⟨_, rfl, by rw [HS.out trivial]; simp, HB1.out⟩
    · have h3 := HA.out
      rw [List.take_of_length_le (by have := HN.out; omega)] at h3
      have HX := Lib.hid h3
      clear h3
      go_wp2
      go_ret
      exact ⟨-1, rfl, by rw [HX.out]; rfl, HB.out⟩

set_option maxHeartbeats 400000 in
theorem containsPr_any {w : World} {q : Option Addr} {m c : Nat} {l : List Pr} (h : PsOk w q m c l) :
    Calls Try.prog 68 #[.slice q m c, .func (.func 69) #[] #[]] w fun e w' => e = .returned (.bool ((l.map Pr.c).any nothing)) ∧ Below w.heap.size w w' := by
  have eg : ∀ args (w : World), (callFunc 69 args).run Try.prog w = .ok (.enter 69 args) w := fun _ _ => rfl
  have HC := Lib.hid (indexPr_any (p := fun x => nothing x.c) eg (w := w) (fun w' x _ hx => isNothing_any x hx) h)
  have e : (l.map Pr.c).any nothing = l.any fun x => nothing x.c := by rw [List.any_map]; rfl
  rw [e]
  clear h e
  generalize (l.any fun x => nothing x.c) = x at *
  go_enter Try.func68, Try.ntmps68
  go_wp2_with fail
  refine HC.out.mono ?_; rintro e w1 ⟨r, rfl, hr, hb⟩
  have HR := Lib.hid hr
  clear hr
  go_wp2
  go_ret
  exact ⟨ret_bool HR.out, hb⟩

set_option maxHeartbeats 800000 in
theorem propsRight_any {w : World} {q : Option Addr} {m c : Nat} {l : List Pr} (h : PsOk w q m c l) :
    Calls Try.prog 39 #[.slice q m c] w fun e w' => e = .returned (.bool (propsR (l.map Pr.c))) ∧ Below w.heap.size w w' := by
  have HR : Hid (∀ w', Below w.heap.size w w' → _) := Lib.hid fun w' hb => riseP_any (h.below hb)
  have HC : Hid (∀ w', Below w.heap.size w w' → _) := Lib.hid fun w' hb => containsPr_any (h.below hb)
  have HE : Hid (propsR (l.map Pr.c) = (decide (m ≤ 16) && (riseF str0 ((l.map Pr.c).map Pc.n) && !(l.map Pr.c).any nothing))) := Lib.hid (by unfold propsR; rw [List.length_map, h.hn])
  have h1 := h.h1
  have h2 := h.h2
  clear h
  generalize propsR (l.map Pr.c) = r at *
  generalize riseF str0 ((l.map Pr.c).map Pc.n) = x at *
  generalize (l.map Pr.c).any nothing = y at *
  have hnot : ∀ (x : Bool) (w : World), (Op.unary .not (.bool x)).run Try.prog w = .ok (.bool (!x)) w := fun _ _ => rfl
  by_cases h16 : m ≤ 16
  · rw [decide_eq_true h16] at HE
    cases x
    · go_enter Try.func39, Try.ntmps39
      go_wp2_with fail
      refine (HR.out _ (Below.refl _ _)).mono ?_; rintro e w1 ⟨rfl, hb1⟩
      go_wp2
      go_ret
      exact ⟨ret_bool HE.out.symm, hb1⟩
    · go_enter Try.func39, Try.ntmps39
      go_wp2_with fail
      refine (HR.out _ (Below.refl _ _)).mono ?_; rintro e w1 ⟨rfl, hb1⟩
      have HB1 := Lib.hid hb1
      clear hb1
      go_wp2_with fail
      refine (HC.out _ HB1.out).mono ?_; rintro e w2 ⟨rfl, hb2⟩
      have HB2 := Lib.hid (HB1.out.trans (hb2.mono HB1.out.size))
      clear hb2
      go_wp2
      go_ret
      exact ⟨ret_bool (by rw [HE.out]; rfl), HB2.out⟩
  · rw [decide_eq_false h16] at HE
    go_enter Try.func39, Try.ntmps39
    go_wp2
    go_ret
    exact ⟨ret_bool HE.out.symm, Below.refl _ _⟩

/-- A node, an edge in memory. -/
structure Nd where
  id : Int
  q : Option Addr
  m : Nat
  c : Nat
  ls : List ByteArray
  q' : Option Addr
  m' : Nat
  c' : Nat
  ps : List Pr
def Nd.cell (n : Nd) : Value := .agg #[.int .i64 n.id, .slice n.q n.m n.c, .slice n.q' n.m' n.c']
structure Nd.Ok (w : World) (n : Nd) : Prop where
  i1 : -9223372036854775808 ≤ n.id
  i2 : n.id ≤ 9223372036854775807
  ls : SsOk w n.q n.m n.c n.ls
  ps : PsOk w n.q' n.m' n.c' n.ps
theorem Nd.Ok.below {w w' : World} {n : Nd} (h : n.Ok w) (hb : Below w.heap.size w w') : n.Ok w' := ⟨h.i1, h.i2, h.ls.below hb, h.ps.below hb⟩
structure Ed where
  id : Int
  t : ByteArray
  fr : Int
  to : Int
  q : Option Addr
  m : Nat
  c : Nat
  ps : List Pr
def Ed.cell (n : Ed) : Value := .agg #[.int .i64 n.id, .string n.t, .int .i64 n.fr, .int .i64 n.to, .slice n.q n.m n.c]
structure Ed.Ok (w : World) (n : Ed) : Prop where
  i1 : -9223372036854775808 ≤ n.id
  i2 : n.id ≤ 9223372036854775807
  t : n.t.size ≤ 9223372036854775807
  f1 : -9223372036854775808 ≤ n.fr
  f2 : n.fr ≤ 9223372036854775807
  t1 : -9223372036854775808 ≤ n.to
  t2 : n.to ≤ 9223372036854775807
  ps : PsOk w n.q n.m n.c n.ps
theorem Ed.Ok.below {w w' : World} {n : Ed} (h : n.Ok w) (hb : Below w.heap.size w w') : n.Ok w' := ⟨h.i1, h.i2, h.t, h.f1, h.f2, h.t1, h.t2, h.ps.below hb⟩

set_option maxHeartbeats 1600000 in
theorem nodeRight_any {w : World} (n : Nd) (h : n.Ok w) :
    Calls Try.prog 24 #[n.cell] w fun e w' => e = .returned (.bool (nodeR n.id n.ls (n.ps.map Pr.c))) ∧ Below w.heap.size w w' := by
  obtain ⟨id, q, m, c, ls, q', m', c', ps⟩ := n
  obtain ⟨i1, i2, hl, hp⟩ := h
  dsimp only at *
  have HR : Hid (∀ w', Below w.heap.size w w' → _) := Lib.hid fun w' hb => riseS_any (hl.below hb)
  have HC : Hid (∀ w', Below w.heap.size w w' → _) := Lib.hid fun w' hb => propsRight_any (hp.below hb)
  have HE : Hid (nodeR id ls (ps.map Pr.c) = (decide (0 < id) && (decide (m ≤ 8) && (riseF str0 ls && propsR (ps.map Pr.c))))) := Lib.hid (by unfold nodeR; rw [hl.hn])
  have h1 := hl.h1
  have h2 := hl.h2
  have h1' := hp.h1
  have h2' := hp.h2
  clear hl hp
  show Calls Try.prog _ #[.agg #[.int .i64 id, .slice q m c, .slice q' m' c']] w _
  generalize nodeR id ls (ps.map Pr.c) = r at *
  generalize riseF str0 ls = x at *
  generalize propsR (ps.map Pr.c) = y at *
  by_cases h0 : 0 < id
  · rw [decide_eq_true h0] at HE
    by_cases h8 : m ≤ 8
    · rw [decide_eq_true h8] at HE
      cases x
      · go_enter Try.func24, Try.ntmps24
        go_wp2_with fail
        refine (HR.out _ (box_below (Below.refl _ _))).mono ?_; rintro e w1 ⟨rfl, rfl⟩
        go_wp2
        go_ret
        exact ⟨ret_bool HE.out.symm, box_below (Below.refl _ _)⟩
      · go_enter Try.func24, Try.ntmps24
        go_wp2_with fail
        refine (HR.out _ (box_below (Below.refl _ _))).mono ?_; rintro e w1 ⟨rfl, rfl⟩
        go_wp2_with fail
        refine (HC.out _ (box_below (Below.refl _ _))).mono ?_; rintro e w2 ⟨rfl, hb2⟩
        have HB2 := Lib.hid (box_below hb2)
        clear hb2
        go_wp2
        go_ret
        exact ⟨ret_bool HE.out.symm, HB2.out⟩
    · rw [decide_eq_false h8] at HE
      go_enter Try.func24, Try.ntmps24
      go_wp2
      go_ret
      exact ⟨ret_bool HE.out.symm, box_below (Below.refl _ _)⟩
  · rw [decide_eq_false h0] at HE
    go_enter Try.func24, Try.ntmps24
    go_wp2
    go_ret
    exact ⟨ret_bool HE.out.symm, box_below (Below.refl _ _)⟩

set_option maxHeartbeats 1600000 in
theorem edgeRight_any {w : World} (n : Ed) (h : n.Ok w) :
    Calls Try.prog 32 #[n.cell] w fun e w' => e = .returned (.bool (edgeR n.id n.fr n.to n.t (n.ps.map Pr.c))) ∧ Below w.heap.size w w' := by
  obtain ⟨id, t, fr, to, q, m, c, ps⟩ := n
  obtain ⟨i1, i2, ht, f1, f2, t1, t2, hp⟩ := h
  dsimp only at *
  have HN : Hid (∀ w', _) := Lib.hid fun w' => name_any (w := w') t ht
  have HC : Hid (∀ w', Below w.heap.size w w' → _) := Lib.hid fun w' hb => propsRight_any (hp.below hb)
  have HE : Hid (edgeR id fr to t (ps.map Pr.c) = (decide (0 < id) && (decide (0 < fr) && (decide (0 < to) && (nameOk t && propsR (ps.map Pr.c)))))) := Lib.hid rfl
  have h1' := hp.h1
  have h2' := hp.h2
  clear hp
  show Calls Try.prog _ #[.agg #[.int .i64 id, .string t, .int .i64 fr, .int .i64 to, .slice q m c]] w _
  generalize edgeR id fr to t (ps.map Pr.c) = r at *
  generalize nameOk t = x at *
  generalize propsR (ps.map Pr.c) = y at *
  by_cases h0 : 0 < id
  · rw [decide_eq_true h0] at HE
    by_cases h3 : 0 < fr
    · rw [decide_eq_true h3] at HE
      by_cases h4 : 0 < to
      · rw [decide_eq_true h4] at HE
        cases x
        · go_enter Try.func32, Try.ntmps32
          go_wp2_with fail
          refine (HN.out _).mono ?_; rintro e w1 ⟨rfl, rfl⟩
          go_wp2
          go_ret
          exact ⟨ret_bool HE.out.symm, box_below (Below.refl _ _)⟩
        · go_enter Try.func32, Try.ntmps32
          go_wp2_with fail
          refine (HN.out _).mono ?_; rintro e w1 ⟨rfl, rfl⟩
          go_wp2_with fail
          refine (HC.out _ (box_below (Below.refl _ _))).mono ?_; rintro e w2 ⟨rfl, hb2⟩
          have HB2 := Lib.hid (box_below hb2)
          clear hb2
          go_wp2
          go_ret
          exact ⟨ret_bool HE.out.symm, HB2.out⟩
      · rw [decide_eq_false h4] at HE
        go_enter Try.func32, Try.ntmps32
        go_wp2
        go_ret
        exact ⟨ret_bool HE.out.symm, box_below (Below.refl _ _)⟩
    · rw [decide_eq_false h3] at HE
      go_enter Try.func32, Try.ntmps32
      go_wp2
      go_ret
      exact ⟨ret_bool HE.out.symm, box_below (Below.refl _ _)⟩
  · rw [decide_eq_false h0] at HE
    go_enter Try.func32, Try.ntmps32
    go_wp2
    go_ret
    exact ⟨ret_bool HE.out.symm, box_below (Below.refl _ _)⟩

end Go.Proofs.Ytekaedafhiddeaa
