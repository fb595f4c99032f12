/-
  record.rise at strings and at properties: contracts for the walks.
-/
import Derived.Test.YtekaedafhiddeaaRName
import Derived.Test.YtekaedafhiddeaaRMem
set_option linter.unusedVariables false
set_option maxRecDepth 100000
namespace Go.Proofs.Ytekaedafhiddeaa
open Go.RowKit

theorem riseF_step {a s : ByteArray} {l : List ByteArray} {j : Nat} (h : l[j]? = some s) : riseF a (l.drop j) = (nameOk s && (!leS s a && riseF s (l.drop (j + 1)))) := by
  rw [drop_get h]
  rfl

set_option maxHeartbeats 400000 in
theorem self_any {w : World} (s : ByteArray) : Calls Try.prog 53 #[.string s] w fun e w' => e = .returned (.string s) ∧ w = w' := by
  go_enter Try.func53, Try.ntmps53
  go_wp2
  go_ret
  exact ⟨rfl, rfl⟩

set_option maxHeartbeats 800000 in
theorem propName_any {w : World} (p : Pr) : Calls Try.prog 67 #[p.cell] w fun e w' => e = .returned (.string p.n) ∧ Below w.heap.size w w' := by
  have hst := store_flt
  show Calls Try.prog _ #[.agg #[.string p.n, .int .i64 p.v.a.k, .int .i64 p.v.a.n, .float .f64 p.v.a.f, .string p.v.a.s, .slice p.v.q p.v.m p.v.c]] w _
  go_enter Try.func67, Try.ntmps67
  go_wp2
  go_ret
  exact ⟨rfl, box_below (Below.refl _ _)⟩

set_option maxHeartbeats 1600000 in
theorem riseS_any {w : World} {q : Option Addr} {m c : Nat} {l : List ByteArray} (h : SsOk w q m c l) :
    Calls Try.prog 52 #[.slice q m c, .func (.func 53) #[] #[]] w fun e w' => e = .returned (.bool (riseF str0 l)) ∧ w = w' := by
  obtain ⟨hn, h1, h2, hl, hok⟩ := h
  have HN := Lib.hid hn
  have HL := Lib.hid hl
  have HOK := Lib.hid hok
  have eg : ∀ args (w : World), (callFunc 53 args).run Try.prog w = .ok (.enter 53 args) w := fun _ _ => rfl
  have HS := Lib.hid (fun w s => self_any (w := w) s)
  have HNM := Lib.hid (fun s hs w => name_any (w := w) s hs)
  obtain ⟨r, hr⟩ : ∃ r, riseF str0 l = r := ⟨_, rfl⟩
  rw [hr]
  have HR := Lib.hid hr
  clear hn hl hok hr
  go_enter Try.func52, Try.ntmps52
  go_wp2
  go_loop [5, 11] (fun a i => ∃ (j : Nat) (s : ByteArray), i = .int .i64 j ∧ a = .string s ∧ j ≤ m ∧ riseF s (l.drop j) = r) (fun _ i => m - (intOf i).toNat)
  case atStart => exact ⟨0, str0, rfl, rfl, by omega, HR.out⟩
  case round =>
    obtain ⟨j, a, rfl, rfl, hj, hrj⟩ := hrel
    have HJ := Lib.hid hrj
    clear hrj
    by_cases hlt : j < m
    · have hjl : j < l.length := by have := HN.out; omega
      obtain ⟨s, hs⟩ : ∃ s, l[j]? = some s := ⟨_, List.getElem?_eq_getElem hjl⟩
      obtain ⟨b, o, rfl, hb, hc⟩ := HL.out.at hs
      have HST : Hid ((nameOk s && (!leS s a && riseF s (l.drop (j + 1)))) = r) := Lib.hid (by rw [← riseF_step hs]; exact HJ.out)
      have HNS := Lib.hid (HNM.out s (HOK.out s (List.mem_of_getElem? hs)))
      have hle : (Op.bytesLess s.toList a.toList || s.toList == a.toList) = leS s a := rfl
      clear hs hjl HJ
      generalize nameOk s = x at *
      generalize leS s a = y at *
      cases x
      · have HX : Hid (r = false) := Lib.hid HST.out.symm
        clear HST
        go_wp2_with (first
          | (go_at_call 53; refine (HS.out _ _).mono ?_; rintro e w' ⟨rfl, rfl⟩)
          | (go_at_call 18; refine (HNS.out _).mono ?_; rintro e w' ⟨rfl, rfl⟩))
        go_ret
        exact ⟨ret_bool HX.out.symm, rfl⟩
      · cases y
        · have HX : Hid (riseF s (l.drop (j + 1)) = r) := Lib.hid HST.out
          clear HST
          go_wp2_with (first
            | (go_at_call 53; refine (HS.out _ _).mono ?_; rintro e w' ⟨rfl, rfl⟩)
            | (go_at_call 18; refine (HNS.out _).mono ?_; rintro e w' ⟨rfl, rfl⟩))
          go_round
          case rel => exact ⟨j + 1, s, by go_num, rfl, by omega, HX.out⟩
          case measure => simp [intOf]; omega
        · have HX : Hid (r = false) := Lib.hid HST.out.symm
          clear HST
          go_wp2_with (first
            | (go_at_call 53; refine (HS.out _ _).mono ?_; rintro e w' ⟨rfl, rfl⟩)
            | (go_at_call 18; refine (HNS.out _).mono ?_; rintro e w' ⟨rfl, rfl⟩))
          go_ret
          exact ⟨ret_bool HX.out.symm, rfl⟩
    · have HX : Hid (r = true) := Lib.hid (by
        have h := HJ.out
        rw [List.drop_eq_nil_of_le (by have := HN.out; omega)] at h
        exact h.symm)
      clear HJ
      go_wp2
      go_ret
      exact ⟨ret_bool HX.out.symm, rfl⟩

set_option maxHeartbeats 1600000 in
theorem riseP_any {w : World} {q : Option Addr} {m c : Nat} {l : List Pr} (h : PsOk w q m c l) :
    Calls Try.prog 66 #[.slice q m c, .func (.func 67) #[] #[]] w fun e w' => e = .returned (.bool (riseF str0 ((l.map Pr.c).map Pc.n))) ∧ Below w.heap.size w w' := by
  have hst := store_flt
  obtain ⟨hn, h1, h2, _, hl⟩ := h
  have HN := Lib.hid hn
  have HL := Lib.hid hl
  have eg : ∀ args (w : World), (callFunc 67 args).run Try.prog w = .ok (.enter 67 args) w := fun _ _ => rfl
  have HS := Lib.hid (fun w p => propName_any (w := w) p)
  have HNM := Lib.hid (fun s hs w => name_any (w := w) s hs)
  have hmm : (l.map Pr.c).map Pc.n = l.map Pr.n := by rw [List.map_map]; rfl
  rw [hmm]
  obtain ⟨r, hr⟩ : ∃ r, riseF str0 (l.map Pr.n) = r := ⟨_, rfl⟩
  rw [hr]
  have HR := Lib.hid hr
  clear hn hl hr hmm
  go_enter Try.func66, Try.ntmps66
  go_wp2
  go_loopw [5, 11] (fun a i wr => ∃ (j : Nat) (s : ByteArray), i = .int .i64 j ∧ a = .string s ∧ j ≤ m ∧ riseF s ((l.map Pr.n).drop j) = r ∧ Below w.heap.size w wr) (fun _ i _ => m - (intOf i).toNat)
  case atStart => exact ⟨0, str0, rfl, rfl, by omega, HR.out, Below.refl _ _⟩
  case round =>
    obtain ⟨j, a, rfl, rfl, hj, hrj, hb⟩ := hrel
    have HJ := Lib.hid hrj
    have HB := Lib.hid hb
    clear hrj hb
    by_cases hlt : j < m
    · have hjl : j < l.length := by have := HN.out; omega
      obtain ⟨p, hp⟩ : ∃ p, l[j]? = some p := ⟨_, List.getElem?_eq_getElem hjl⟩
      obtain ⟨hok, b, o, rfl, hc⟩ := HL.out.at hp
      obtain ⟨c0, c1, c2, c3, c4, c5⟩ := hc.below HB.out
      have hblt := (hc.below HB.out).lt
      have hps : (l.map Pr.n)[j]? = some p.n := by rw [List.getElem?_map, hp]; rfl
      have HST : Hid ((nameOk p.n && (!leS p.n a && riseF p.n ((l.map Pr.n).drop (j + 1)))) = r) := Lib.hid (by rw [← riseF_step hps]; exact HJ.out)
      have HNS := Lib.hid (HNM.out p.n hok.n)
      have hle : (Op.bytesLess p.n.toList a.toList || p.n.toList == a.toList) = leS p.n a := rfl
      have HSP : Hid (∀ w, Calls Try.prog 67 #[.agg #[.string p.n, .int .i64 p.v.a.k, .int .i64 p.v.a.n, .float .f64 p.v.a.f, .string p.v.a.s, .slice p.v.q p.v.m p.v.c]] w fun e w' => e = .returned (.string p.n) ∧ Below w.heap.size w w') := Lib.hid fun w => HS.out w p
      clear hp hjl HJ hps hok hc
      generalize nameOk p.n = x at *
      generalize leS p.n a = y at *
      cases x
      · have HX : Hid (r = false) := Lib.hid HST.out.symm
        clear HST
        go_wp2_with (first
          | (go_at_call 67; refine (HSP.out _).mono ?_; rintro e w1 ⟨rfl, hb1⟩; have HB1 : Hid (Below w.heap.size w w1) := Lib.hid (HB.out.trans ((box_below hb1).mono HB.out.size)); clear hb1)
          | (go_at_call 18; refine (HNS.out _).mono ?_; rintro e w' ⟨rfl, rfl⟩))
        go_ret
        exact ⟨ret_bool HX.out.symm, HB1.out⟩
      · cases y
        · have HX : Hid (riseF p.n ((l.map Pr.n).drop (j + 1)) = r) := Lib.hid HST.out
          clear HST
          go_wp2_with (first
            | (go_at_call 67; refine (HSP.out _).mono ?_; rintro e w1 ⟨rfl, hb1⟩; have HB1 : Hid (Below w.heap.size w w1) := Lib.hid (HB.out.trans ((box_below hb1).mono HB.out.size)); clear hb1)
            | (go_at_call 18; refine (HNS.out _).mono ?_; rintro e w' ⟨rfl, rfl⟩))
          go_roundw
          case rel => exact ⟨j + 1, p.n, by go_num, rfl, by omega, HX.out, HB1.out⟩
          case measure => simp [intOf]; omega
        · have HX : Hid (r = false) := Lib.hid HST.out.symm
          clear HST
          go_wp2_with (first
            | (go_at_call 67; refine (HSP.out _).mono ?_; rintro e w1 ⟨rfl, hb1⟩; have HB1 : Hid (Below w.heap.size w w1) := Lib.hid (HB.out.trans ((box_below hb1).mono HB.out.size)); clear hb1)
            | (go_at_call 18; refine (HNS.out _).mono ?_; rintro e w' ⟨rfl, rfl⟩))
          go_ret
          exact ⟨ret_bool HX.out.symm, HB1.out⟩
    · have HX : Hid (r = true) := Lib.hid (by
        have h := HJ.out
        rw [List.drop_eq_nil_of_le (by rw [List.length_map]; have := HN.out; omega)] at h
        exact h.symm)
      clear HJ
      go_wp2
      go_ret
      exact ⟨ret_bool HX.out.symm, HB.out⟩

end Go.Proofs.Ytekaedafhiddeaa
