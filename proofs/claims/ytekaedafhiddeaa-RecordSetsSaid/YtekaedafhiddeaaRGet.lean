/-
  record.Get: its contract.
-/
import Derived.Test.YtekaedafhiddeaaRSetP
import Derived.Test.YtekaedafhiddeaaRApart
import Derived.Test.YtekaedafhiddeaaRRight
set_option linter.unusedVariables false
set_option maxRecDepth 100000
namespace Go.Proofs.Ytekaedafhiddeaa
open Go.RowKit

set_option maxHeartbeats 800000 in
theorem named_any {w : World} (p : Pr) (b : Nat) (s : ByteArray) (hc : w.cell? ⟨b, 0, none⟩ = some (.string s)) : Calls Try.prog 36 #[p.cell, .pointer (some ⟨b, 0, none⟩)] w fun e w' => e = .returned (.bool (eqS p.n s)) ∧ Below w.heap.size w w' := by
  have hst := store_flt
  have hb := World.block_lt_of_cell? _ _ hc
  simp only at hb
  have hc2 : ∀ t cs, (w.alloc (.cells cs t)).cell? ⟨b, 0, none⟩ = some (.string s) := fun t cs => by rw [((Below.refl w.heap.size w).alloc (Nat.le_refl _) _).cell hb]; exact hc
  have heq : (p.n.toList == s.toList) = eqS p.n s := rfl
  generalize eqS p.n s = r at *
  show Calls Try.prog _ #[.agg #[.string p.n, .int .i64 p.v.a.k, .int .i64 p.v.a.n, .float .f64 p.v.a.f, .string p.v.a.s, .slice p.v.q p.v.m p.v.c], .pointer (some ⟨b, 0, none⟩)] w _
  go_enter Try.func36, Try.ntmps36
  go_wp2
  go_ret
  exact ⟨rfl, box_below (Below.refl _ _)⟩

/-- Where the first is that p tells of. -/
def IxPost (w : World) (l : List Pr) (p : Pr → Bool) (e : Ending) (w' : World) : Prop :=
  ((l.find? p = none ∧ e = .returned (.int .i64 (-1))) ∨ ∃ (j : Nat) (x : Pr), e = .returned (.int .i64 (j : Int)) ∧ l[j]? = some x ∧ l.find? p = some x) ∧ Below w.heap.size w w'

set_option maxHeartbeats 1600000 in
theorem indexCap_any {g : Nat} {cap : Value} {p : Pr → Bool} (eg : ∀ args (w : World), (callFunc g args).run Try.prog w = .ok (.enter g args) w)
    {w : World} (hp : ∀ (w' : World) (x : Pr), Below w.heap.size w w' → x.Ok w' → Calls Try.prog g #[x.cell, cap] w' fun e w'' => e = .returned (.bool (p x)) ∧ Below w'.heap.size w' w'')
    {q : Option Addr} {m c : Nat} {l : List Pr} (h : PsOk w q m c l) :
    Calls Try.prog 35 #[.slice q m c, .func (.func g) #[] #[cap]] w (IxPost w l p) := by
  have hst := store_flt
  obtain ⟨hn, h1, h2, _, hl⟩ := h
  have HN := Lib.hid hn
  have HL := Lib.hid hl
  have HP := Lib.hid hp
  clear hn hl hp
  go_enter Try.func35, Try.ntmps35
  go_wp2
  go_loopw [8] (fun i wr => ∃ j : Nat, i = .int .i64 j ∧ j ≤ m ∧ Below w.heap.size w wr ∧ l.find? p = (l.drop j).find? p) (fun i _ => m - (intOf i).toNat)
  case atStart => exact ⟨0, rfl, by omega, Below.refl _ _, rfl⟩
  case round =>
    obtain ⟨j, rfl, hj, hb, hfind⟩ := hrel
    have HB := Lib.hid hb
    have HF := Lib.hid hfind
    clear hb hfind
    by_cases hlt : j < m
    · have hjl : j < l.length := by have := HN.out; omega
      obtain ⟨x, hx⟩ : ∃ x, l[j]? = some x := ⟨_, List.getElem?_eq_getElem hjl⟩
      obtain ⟨hok, b, o, rfl, hc⟩ := HL.out.at hx
      obtain ⟨c0, c1, c2, c3, c4, c5⟩ := hc.below HB.out
      have hblt := (hc.below HB.out).lt
      have HX := Lib.hid hx
      have HT : Hid (l.find? p = if p x = true then some x else (l.drop (j + 1)).find? p) := Lib.hid (by
        rw [HF.out, drop_get hx, List.find?_cons]
        cases p x <;> rfl)
      have HSP : Hid (Calls Try.prog g #[.agg #[.string x.n, .int .i64 x.v.a.k, .int .i64 x.v.a.n, .float .f64 x.v.a.f, .string x.v.a.s, .slice x.v.q x.v.m x.v.c], cap] wr fun e w'' => e = .returned (.bool (p x)) ∧ Below wr.heap.size wr w'') := Lib.hid (HP.out wr x HB.out (hok.below HB.out))
      clear hx hjl hok hc HF
      generalize p x = y at *
      go_wp2_with fail
      refine HSP.out.mono ?_; rintro e w1 ⟨rfl, hb1⟩
      have HB1 := Lib.hid (HB.out.trans (hb1.mono HB.out.size))
      clear hb1
      cases y
      · have HT2 : Hid (l.find? p = (l.drop (j + 1)).find? p) := Lib.hid (by rw [HT.out, if_neg (by simp)])
        go_wp2
        go_roundw
        case rel => exact ⟨j + 1, by go_num, by omega, HB1.out, HT2.out⟩
        case measure => simp [intOf]; omega
      · have HT2 : Hid (l.find? p = some x) := Lib.hid (by rw [HT.out, if_pos rfl])
        go_wp2
        go_ret
        exact ⟨.inr ⟨j, x, rfl, HX.out, HT2.out⟩, HB1.out⟩
    · have hjl : l.drop j = [] := List.drop_eq_nil_of_le (by have := HN.out; omega)
      have HT2 : Hid (l.find? p = none) := Lib.hid (by rw [HF.out, hjl]; rfl)
      clear hjl
      go_wp2
      go_ret
      exact ⟨.inl ⟨HT2.out, rfl⟩, HB.out⟩

/-- What Get tells. -/
structure GePost (w : World) (r : Option Pc) (e : Ending) (w' : World) : Prop where
  no : r = none → e = .returned (.tuple #[.agg #[.int .i64 0, .int .i64 0, .float .f64 0, .string ⟨#[]⟩, .slice none 0 0], .bool false])
  yes : ∀ x, r = some x → ∃ q m c, e = .returned (.tuple #[.agg #[.int .i64 x.a.k, .int .i64 x.a.n, .float .f64 x.a.f, .string x.a.s, .slice q m c], .bool true]) ∧ AOwn w' w.heap.size (.slice q m c) x.l
  bl : Below w.heap.size w w'

theorem find_map (l : List Pr) (s : ByteArray) : getP (l.map Pr.c) s = (l.find? fun p => eqS p.n s).map Pr.c := by
  unfold getP
  rw [List.find?_map]
  rfl

set_option maxHeartbeats 3200000 in
theorem get_any {w : World} {q : Option Addr} {m c : Nat} {l : List Pr} (h : PsOk w q m c l) (hlen : ∀ x ∈ l, x.v.l.length ≤ 100000) (s : ByteArray) :
    Calls Try.prog 13 #[.slice q m c, .string s] w (GePost w (getP (l.map Pr.c) s)) := by
  have hst := store_flt
  have hmf : ∀ (fn : Fn) (first cap : Array Value) (w : World), (Instr.makeFunc fn first cap).run Try.prog w = .ok (.func fn first cap) w := fun _ _ _ _ => rfl
  have eg : ∀ args (w : World), (callFunc 36 args).run Try.prog w = .ok (.enter 36 args) w := fun _ _ => rfl
  rw [find_map]
  obtain ⟨R, hR⟩ : ∃ R, (l.find? fun p => eqS p.n s).map Pr.c = R := ⟨_, rfl⟩
  rw [hR]
  have HR := Lib.hid hR
  clear hR
  obtain ⟨W, hW⟩ : ∃ W, W = (w.alloc (.cells #[.string s] 9)).alloc (.cells #[.int .i64 0, .int .i64 0, .float .f64 0, .string ⟨#[]⟩, .slice none 0 0] 46) := ⟨_, rfl⟩
  have HWB : Hid (∀ w', Below W.heap.size W w' → Below w.heap.size w w') := by
    refine Lib.hid fun w' hb => ?_
    rw [hW] at hb
    exact box2_below hb
  have HKS : Hid (∀ w', Below W.heap.size W w' → w'.cell? ⟨w.heap.size, 0, none⟩ = some (.string s)) := by
    refine Lib.hid fun w' hb => ?_
    rw [hW] at hb
    exact (box2_cell hb 0).1
  have HK1 : Hid (∀ w', Below W.heap.size W w' → Blk w' (w.heap.size + 1) #[.int .i64 0, .int .i64 0, .float .f64 0, .string ⟨#[]⟩, .slice none 0 0]) := by
    refine Lib.hid fun w' hb => ?_
    rw [hW] at hb
    exact (Blk.new _ _ (by simp)).below hb (by simp)
  have HWs : Hid (W.heap.size = w.heap.size + 2) := Lib.hid (by rw [hW]; simp)
  have HIX : Hid (Calls Try.prog 35 #[.slice q m c, .func (.func 36) #[] #[.pointer (some ⟨w.heap.size, 0, none⟩)]] W (IxPost W l fun p => eqS p.n s)) :=
    Lib.hid (indexCap_any eg (fun w' x hb _ => named_any x w.heap.size s (HKS.out w' hb)) (h.below (HWB.out _ (Below.refl _ _))))
  have HP := Lib.hid h
  have HLEN := Lib.hid hlen
  have h1 := h.h1
  have h2 := h.h2
  clear h hlen HKS
  go_enter Try.func13, Try.ntmps13
  go_wp2_with fail
  rw [← hW]
  replace hW := Lib.hid hW
  refine HIX.out.mono ?_
  rintro e w1 ⟨hr | ⟨j, x, rfl, hx, hfd⟩, hb1⟩
  · obtain ⟨hfd, rfl⟩ := hr
    have HX : Hid (R = none) := Lib.hid (by rw [← HR.out, hfd]; rfl)
    have HB1 := Lib.hid hb1
    obtain ⟨⟨y0, g0⟩, ⟨y1, g1⟩, ⟨y2, g2⟩, ⟨y3, g3⟩, ⟨y4, g4⟩⟩ : _ ∧ _ ∧ _ ∧ _ ∧ _ := ⟨(HK1.out _ hb1).at 0, (HK1.out _ hb1).at 1, (HK1.out _ hb1).at 2, (HK1.out _ hb1).at 3, (HK1.out _ hb1).at 4⟩
    simp only [List.getElem?_toArray, List.getElem?_cons_zero, List.getElem?_cons_succ] at y0 y1 y2 y3 y4
    have hw1 : w.heap.size + 1 < w1.heap.size := by have := HWs.out; have := hb1.size; omega
    clear hb1 hfd
    go_wp2
    refine bodyPost_ret (v := .tuple #[.agg #[.int .i64 0, .int .i64 0, .float .f64 0, .string ⟨#[]⟩, .slice none 0 0], .bool false]) (by simp [results, Try.results13, go_sem, y0, y1, y2, y3, y4]) rfl ⟨fun _ => rfl, (fun x hx => by rw [HX.out] at hx; cases hx), ?_⟩
    exact (((((HWB.out _ HB1.out).setCell (by simp) _).setCell (by simp) _).setCell (by simp) _).setCell (by simp) _).setCell (by simp) _
  · have HX : Hid (R = some x.c) := Lib.hid (by rw [← HR.out, hfd]; rfl)
    have HB1 := Lib.hid hb1
    have hjm : j < m := by have := (List.getElem?_eq_some_iff.1 hx).1; have := HP.out.hn; omega
    obtain ⟨hok, b0, o0, rfl, hc⟩ := (HP.out.hl.below (HWB.out _ hb1)).at hx
    obtain ⟨c0, c1, c2, c3, c4, c5⟩ := hc
    have hblt := PrCells.lt ⟨c0, c1, c2, c3, c4, c5⟩
    have HAP : Hid (Calls Try.prog 37 #[.agg #[.int .i64 x.v.a.k, .int .i64 x.v.a.n, .float .f64 x.v.a.f, .string x.v.a.s, .slice x.v.q x.v.m x.v.c]] w1 (ApPost w1 x.v.a x.v.l)) := Lib.hid (apartV_any hok.v hok.z (HLEN.out x (List.mem_of_getElem? hx)))
    clear hx hok hfd hb1
    go_wp2_with fail
    refine HAP.out.mono ?_
    rintro e w2 ⟨q2, m2, d2, rfl, ho2, hb2⟩
    have HB2 : Hid (Below W.heap.size W w2) := Lib.hid (HB1.out.trans (hb2.mono HB1.out.size))
    have HO2 := Lib.hid ho2
    have hw1 : w.heap.size + 1 < w1.heap.size := by have := HWs.out; have := HB1.out.size; omega
    have hw2 : w.heap.size + 1 < w2.heap.size := by have := HWs.out; have := HB2.out.size; omega
    obtain ⟨⟨y0, g0⟩, ⟨y1, g1⟩, ⟨y2, g2⟩, ⟨y3, g3⟩, ⟨y4, g4⟩⟩ : _ ∧ _ ∧ _ ∧ _ ∧ _ := ⟨(HK1.out _ HB2.out).at 0, (HK1.out _ HB2.out).at 1, (HK1.out _ HB2.out).at 2, (HK1.out _ HB2.out).at 3, (HK1.out _ HB2.out).at 4⟩
    simp only [List.getElem?_toArray, List.getElem?_cons_zero, List.getElem?_cons_succ] at y0 y1 y2 y3 y4
    clear ho2 hb2 c0 c1 c2 c3 c4 c5
    go_wp2
    refine bodyPost_ret (v := .tuple #[.agg #[.int .i64 x.v.a.k, .int .i64 x.v.a.n, .float .f64 x.v.a.f, .string x.v.a.s, .slice q2 m2 d2], .bool true]) (by simp [results, Try.results13, go_sem, y0, y1, y2, y3, y4]) rfl ⟨(fun h => by rw [HX.out] at h; cases h), (fun z hz => ?_), ?_⟩
    · rw [HX.out] at hz
      obtain rfl := Option.some.inj hz
      refine ⟨q2, m2, d2, rfl, ?_⟩
      exact (((((HO2.out.far (p := ⟨w.heap.size + 1, 0, none⟩) hw1 _).far (p := ⟨w.heap.size + 1, 1, none⟩) hw1 _).far (p := ⟨w.heap.size + 1, 2, none⟩) hw1 _).far (p := ⟨w.heap.size + 1, 3, none⟩) hw1 _).far (p := ⟨w.heap.size + 1, 4, none⟩) hw1 _).le (by omega)
    · exact (((((HWB.out _ HB2.out).setCell (by simp) _).setCell (by simp) _).setCell (by simp) _).setCell (by simp) _).setCell (by simp) _

end Go.Proofs.Ytekaedafhiddeaa
