/-
  record.Name and the reference'.
  order.After and the reference'.
  Many trees in one.
  Key.
  bytes.Compare tells the order.
  tree.
  tree.
  free.
-/
import Derived.Test.YtbbgdbnjmonbgaaGreatDoorH00
import Derived.Test.YtbbgdbnjmonbgaaGreatDoorH13
import Derived.Test.YtbbgdbnjmonbgaaGreatDoorH01
import Derived.Test.YtbbgdbnjmonbgaaGreatDoorH11
import Derived.Test.YtbbgdbnjmonbgaaGreatDoorH06
import Derived.Outline
import Derived.Deep.QuietTactic
import Derived.BigQuiet
import Derived.StillTailTactics
import Derived.Lib.AtoiErrMem
import Derived.Lib.ConvBytes
set_option linter.unusedVariables false
set_option maxRecDepth 100000
namespace Go.Proofs.YtbbgdbnjmonbgaaGreatDoor
open Go.RowKit
set_option maxHeartbeats 800000 in
theorem isDigit_any {w : World} (c : UInt8) : Calls Tryz.prog 116 #[.int .u8 (c.toNat : Int)] w fun e w' => e = .returned (.bool (isD c)) ∧ w = w' := by
 unfold isD
 obtain ⟨x, hx⟩ : ∃ x, decide (48 ≤ (c.toNat : Int)) = x := ⟨_, rfl⟩
 obtain ⟨y, hy⟩ : ∃ x, decide ((c.toNat : Int) ≤ 57) = x := ⟨_, rfl⟩
 rw [hx, hy]
 cases x <;> cases y
 all_goals
  go_enter Tryz.func116, Tryz.ntmps116
  go_wp2
  go_ret
  exact ⟨rfl, rfl⟩
set_option maxHeartbeats 1600000 in
theorem isLetter_any {w : World} (c : UInt8) : Calls Tryz.prog 117 #[.int .u8 (c.toNat : Int)] w fun e w' => e = .returned (.bool (isL c)) ∧ w = w' := by
 unfold isL
 obtain ⟨x, hx⟩ : ∃ x, decide (97 ≤ (c.toNat : Int)) = x := ⟨_, rfl⟩
 obtain ⟨y, hy⟩ : ∃ x, decide ((c.toNat : Int) ≤ 122) = x := ⟨_, rfl⟩
 obtain ⟨z, hz⟩ : ∃ x, decide (65 ≤ (c.toNat : Int)) = x := ⟨_, rfl⟩
 obtain ⟨u, hu⟩ : ∃ x, decide ((c.toNat : Int) ≤ 90) = x := ⟨_, rfl⟩
 rw [hx, hy, hz, hu]
 cases x <;> cases y <;> cases z <;> cases u
 all_goals
  go_enter Tryz.func117, Tryz.ntmps117
  go_wp2
  go_ret
  exact ⟨rfl, rfl⟩
theorem nameL_eq {l : List UInt8} {c : UInt8} {t : List UInt8} (h : l = c :: t) : nameL l = (decide (l.length ≤ 16) && (!isD c && l.all okC)) := by subst h; rfl
theorem all_take {α : Type} {p : α → Bool} {l : List α} {j : Nat} (hj : j < l.length) : (l.take (j + 1)).all p = ((l.take j).all p && p l[j]) := by
 rw [List.take_succ_eq_append_getElem hj, List.all_append]
 simp
theorem all_false {α : Type} {p : α → Bool} {l : List α} {j : Nat} (hj : j < l.length) (h : p l[j] = false) : l.all p = false := by
 rw [List.all_eq_false]
 exact ⟨l[j], List.getElem_mem hj, by rw [h]; decide⟩
set_option maxHeartbeats 1600000 in
theorem name_any {w : World} (s : ByteArray) (hs : s.size ≤ 9223372036854775807) :
  Calls Tryz.prog 92 #[.string s] w fun e w' => e = .returned (.bool (nameOk s)) ∧ w = w' := by
 have hl : s.data.toList.length = s.size := rfl
 have HLL := Hq hl
 have HD := Hq (fun c w => isDigit_any (w := w) c)
 have HLT := Hq (fun c w => isLetter_any (w := w) c)
 clear hl
 by_cases h0 : s.size = 0
 ·
  have hn : nameOk s = false := by
   have h : s.data.toList = [] := List.eq_nil_of_length_eq_zero (by rw [HLL.out]; exact h0)
   unfold nameOk
   rw [h]
   rfl
  rw [hn]
  have h0' : ((s.size : Int) == 0) = true := by rw [h0]; rfl
  go_enter Tryz.func92, Tryz.ntmps92
  go_wp2
  go_ret
  exact ⟨rfl, rfl⟩
 have h0' : ((s.size : Int) == 0) = false := by rw [beq_eq_false_iff_ne]; omega
 obtain ⟨c, t, hct⟩ : ∃ c t, s.data.toList = c :: t := by
  cases h : s.data.toList with
  | nil => rw [h] at HLL; exact absurd HLL.out.symm h0
  | cons c t => exact ⟨c, t, rfl⟩
 have hpos : 0 < s.size := by omega
 have hc0 : s[0] = c := by
  have : s.data.toList[0]'(by rw [HLL.out]; exact hpos) = c := by simp only [hct]; rfl
  exact this
 have hn := nameL_eq hct
 rw [HLL.out] at hn
 have HN : Hid (nameOk s = _) := Hq hn
 have HC0 := Hq hc0
 clear hn hc0 hct h0
 by_cases h16 : 16 < s.size
 ·
  have HX : Hid (nameOk s = false) := Hq (by rw [HN.out, decide_eq_false (by omega)]; rfl)
  clear HN
  generalize nameOk s = r at *
  go_enter Tryz.func92, Tryz.ntmps92
  go_wp2
  go_ret
  exact ⟨ret_bool HX.out.symm, rfl⟩
 cases hd : isD c
 ·
  have HX : Hid (nameOk s = s.data.toList.all okC) := Hq (by rw [HN.out, hd, decide_eq_true (by omega)]; rfl)
  clear HN
  generalize nameOk s = r at *
  have HDC := Hq hd
  clear hd
  have hD : ∀ w, Calls Tryz.prog 116 #[.int .u8 (s[0].toNat : Int)] w fun e w' => e = .returned (.bool false) ∧ w = w' := by
   intro w
   have := HD.out c w
   rw [HDC.out] at this
   rw [HC0.out]
   exact this
  have HD0 := Hq hD
  clear hD
  go_enter Tryz.func92, Tryz.ntmps92
  go_wp2_with fail
  refine (HD0.out _).mono ?_; rintro e w' ⟨rfl, rfl⟩
  go_wp2
  go_loop [19] (fun i => ∃ j : Nat, i = .int .i64 j ∧ j ≤ s.size ∧ (s.data.toList.take j).all okC = true) (fun i => s.size - (intOf i).toNat)
  case atStart => exact ⟨0, rfl, by omega, rfl⟩
  case round =>
   obtain ⟨j, rfl, hj, hall⟩ := hrel
   have HA := Hq hall
   clear hall
   by_cases hlt : j < s.size
   ·
    have hjl : j < s.data.toList.length := by rw [HLL.out]; exact hlt
    have HT : Hid ((s.data.toList.take (j + 1)).all okC = ((s.data.toList.take j).all okC && okC s[j])) := Hq (all_take hjl)
    have HF : Hid (okC s[j] = false → s.data.toList.all okC = false) := Hq (fun h => all_false hjl h)
    have HO : Hid (okC s[j] = (isL s[j] || (isD s[j] || ((s[j].toNat : Int) == 95)))) := Hq rfl
    have hcd := HD.out s[j]
    have hcl := HLT.out s[j]
    have h255 := s[j].toNat_lt
    obtain ⟨x, hx⟩ : ∃ x, ((s[j].toNat : Int) == 95) = x := ⟨_, rfl⟩
    have hx' : ((s[j].toNat : Int) != 95) = !x := by rw [← hx]; rfl
    rw [hx] at HO
    generalize okC s[j] = ok at *
    generalize isL s[j] = l1 at *
    generalize isD s[j] = d1 at *
    have HCD := Hq hcd
    have HCL := Hq hcl
    clear hcd hcl hx
    cases l1
    ·
     cases d1
     ·
      cases x
      ·
       go_wp2_with (first
        | (go_at_call 117; refine (HCL.out _).mono ?_; rintro e w' ⟨rfl, rfl⟩)
        | (go_at_call 116; refine (HCD.out _).mono ?_; rintro e w' ⟨rfl, rfl⟩))
       go_ret
       exact ⟨ret_bool (by rw [HX.out, HF.out (by rw [HO.out]; rfl)]), rfl⟩
      ·
       go_wp2_with (first
        | (go_at_call 117; refine (HCL.out _).mono ?_; rintro e w' ⟨rfl, rfl⟩)
        | (go_at_call 116; refine (HCD.out _).mono ?_; rintro e w' ⟨rfl, rfl⟩))
       go_round
       case rel => exact ⟨j + 1, by go_num, by omega, by rw [HT.out, HA.out, HO.out]; rfl⟩
       case measure => simp [intOf]; omega
     ·
      go_wp2_with (first
       | (go_at_call 117; refine (HCL.out _).mono ?_; rintro e w' ⟨rfl, rfl⟩)
       | (go_at_call 116; refine (HCD.out _).mono ?_; rintro e w' ⟨rfl, rfl⟩))
      go_round
      case rel => exact ⟨j + 1, by go_num, by omega, by rw [HT.out, HA.out, HO.out]; rfl⟩
      case measure => simp [intOf]; omega
    ·
     go_wp2_with (go_at_call 117; refine (HCL.out _).mono ?_; rintro e w' ⟨rfl, rfl⟩)
     go_round
     case rel => exact ⟨j + 1, by go_num, by omega, by rw [HT.out, HA.out, HO.out]; rfl⟩
     case measure => simp [intOf]; omega
   ·
    have h := HA.out
    rw [List.take_of_length_le (by rw [HLL.out]; omega)] at h
    have HH := Hq h
    clear h
    go_wp2
    go_ret
    exact ⟨ret_bool (by rw [HX.out, HH.out]), rfl⟩
 ·
  have HX : Hid (nameOk s = false) := Hq (by rw [HN.out, hd]; simp)
  clear HN
  generalize nameOk s = r at *
  have HDC := Hq hd
  clear hd
  have hD : ∀ w, Calls Tryz.prog 116 #[.int .u8 (s[0].toNat : Int)] w fun e w' => e = .returned (.bool true) ∧ w = w' := by
   intro w
   have := HD.out c w
   rw [HDC.out] at this
   rw [HC0.out]
   exact this
  have HD0 := Hq hD
  clear hD
  go_enter Tryz.func92, Tryz.ntmps92
  go_wp2_with fail
  refine (HD0.out _).mono ?_; rintro e w' ⟨rfl, rfl⟩
  go_wp2
  go_ret
  exact ⟨ret_bool HX.out.symm, rfl⟩
end Go.Proofs.YtbbgdbnjmonbgaaGreatDoor

set_option linter.unusedVariables false
set_option maxRecDepth 100000
namespace Go.Proofs.YtbbgdbnjmonbgaaGreatDoor
open Go.RowKit
end Go.Proofs.YtbbgdbnjmonbgaaGreatDoor

set_option linter.unusedVariables false
set_option maxRecDepth 100000
namespace Go.Proofs.YtbbgdbnjmonbgaaGreatDoor
open Go.RowKit
def Pts (w : World) (q : Option Addr) (ls : List (List UInt8)) : Prop :=
 ls ≠ [] → ∃ b o, q = some ⟨b, o, none⟩ ∧ ∀ i l, ls[i]? = some l → ∃ p c, w.cell? ⟨b, o + i, none⟩ = some (.slice p l.length c) ∧ Bs w p l ∧ (p = none → c = 0)
theorem Pts.below {w w' : World} {q : Option Addr} {ls : List (List UInt8)} (h : Pts w q ls) (hb : Below w.heap.size w w') : Pts w' q ls := by
 intro hne
 obtain ⟨b, o, hq, hc⟩ := h hne
 refine ⟨b, o, hq, fun i l hi => ?_⟩
 obtain ⟨p, c, h1, h2, h3⟩ := hc i l hi
 exact ⟨p, c, by rw [hb.cell (World.block_lt_of_cell? _ _ h1)]; exact h1, h2.below hb, h3⟩
theorem Pts.at {w : World} {q : Option Addr} {ls : List (List UInt8)} (h : Pts w q ls) (h0 : 0 < ls.length) :
  ∃ b o, q = some ⟨b, o, none⟩ ∧ ∀ i (hi : i < ls.length), ∃ p c, w.cell? ⟨b, o + i, none⟩ = some (.slice p ls[i].length c) ∧ Bs w p ls[i] ∧ (p = none → c = 0) := by
 obtain ⟨b, o, hq, hc⟩ := h (by intro e; rw [e] at h0; simp at h0)
 exact ⟨b, o, hq, fun i hi => hc i _ (List.getElem?_eq_getElem hi)⟩
theorem Pts.one (w : World) (t : TypeId) {p : Option Addr} {l : List UInt8} {n c : Nat} (hn : n = l.length) (h : Bs w p l) (hp : p = none → c = 0) :
  Pts (w.alloc (.cells #[.slice p n c] t)) (some ⟨w.heap.size, 0, none⟩) [l] := by
 subst hn
 intro _
 refine ⟨w.heap.size, 0, rfl, fun i m hi => ?_⟩
 cases i with
 | zero =>
  simp only [List.getElem?_cons_zero, Option.some.injEq] at hi
  subst hi
  exact ⟨p, c, (jC (heap_alloc_new w _) 0).trans rfl, h.alloc _, hp⟩
 | succ j => simp at hi
theorem Pts.two (w : World) (t : TypeId) {p q : Option Addr} {l m : List UInt8} {n c k d : Nat} (hn : n = l.length) (hk : k = m.length) (h : Bs w p l) (hp : p = none → c = 0) (h2 : Bs w q m) (hq : q = none → d = 0) :
  Pts (w.alloc (.cells #[.slice p n c, .slice q k d] t)) (some ⟨w.heap.size, 0, none⟩) [l, m] := by
 subst hn hk
 intro _
 refine ⟨w.heap.size, 0, rfl, fun i x hi => ?_⟩
 match i with
 | 0 =>
  simp only [List.getElem?_cons_zero, Option.some.injEq] at hi
  subst hi
  exact ⟨p, c, (jC (heap_alloc_new w _) 0).trans rfl, h.alloc _, hp⟩
 | 1 =>
  simp only [List.getElem?_cons_succ, List.getElem?_cons_zero, Option.some.injEq] at hi
  subst hi
  exact ⟨q, d, (jC (heap_alloc_new w _) 1).trans rfl, h2.alloc _, hq⟩
 | j + 2 => simp at hi
def FoPost (w : World) (l : List UInt8) (e : Ending) (w' : World) : Prop := ∃ v, e = .returned v ∧ Own w' w.heap.size v l ∧ Below w.heap.size w w'
theorem FoPost.o {w w' : World} {l : List UInt8} {v : Value} (ho : Own w' w.heap.size v l) (hb : Below w.heap.size w w') : FoPost w l (.returned v) w' := ⟨v, rfl, ho, hb⟩
theorem flat_take {ls : List (List UInt8)} {k : Nat} (hk : k < ls.length) : (ls.take (k + 1)).flatten = (ls.take k).flatten ++ ls[k] := by
 rw [List.take_succ_eq_append_getElem hk, List.flatten_append]
 simp
theorem flat_le {ls : List (List UInt8)} (k : Nat) : (ls.take k).flatten.length ≤ ls.flatten.length := by
 conv => rhs; rw [← List.take_append_drop k ls, List.flatten_append, List.length_append]
 omega
set_option maxHeartbeats 1600000 in
theorem join_any {w : World} {q : Option Addr} {ls : List (List UInt8)} (hp : Pts w q ls) (n c : Nat) (hn : n = ls.length) (hn2 : n ≤ 1000) (hlen : ls.flatten.length ≤ 100000) :
  Calls Tryz.prog 53 #[.slice q n c] w (FoPost w ls.flatten) := by
 obtain rfl := hn
 have HP := Hq hp
 have HN2 := Hq hn2
 have HLEN := Hq hlen
 clear hp hn2 hlen
 go_enter Tryz.func53, Tryz.ntmps53
 go_wp2
 go_loopw [3, 8] (fun v i wr => ∃ k : Nat, i = .int .i64 k ∧ k ≤ ls.length ∧ Own wr w.heap.size v (ls.take k).flatten ∧ Below w.heap.size w wr) (fun _ i _ => ls.length - (intOf i).toNat)
 case atStart => exact ⟨0, rfl, by omega, Own.nil _ _, Below.refl _ _⟩
 case round =>
  obtain ⟨k, rfl, hk, hown, hb⟩ := hrel
  have hk1 : k ≤ 1000 := by have := HN2.out; omega
  have HB := Hq hb
  have HO := Hq hown
  clear hb hown
  by_cases hlt : k < ls.length
  ·
   obtain ⟨b, o, rfl, hc⟩ := (HP.out.below HB.out).at (by omega)
   obtain ⟨p, cc, hcell, hbs, hp0⟩ := hc k hlt
   have HBS := Hq hbs
   have HP0 := Hq hp0
   have HF := Hq (flat_take hlt)
   have HL1 := Hq (flat_le (ls := ls) (k + 1))
   clear hbs hp0 hc
   go_wp2_with (at_builtin; refine app_own rfl (.tmp 12) (.tmp 13) rfl rfl HO.out rfl rfl HBS.out HP0.out (by have h1 := HF.out; have h2 := HL1.out; have h3 := HLEN.out; rw [h1, List.length_append] at h2; omega) HB.out.size ?_; intro v' w1 hown1 hbel1)
   rw [← HF.out] at hown1
   have HO1 := Hq hown1
   have HB1 := Hq (HB.out.trans hbel1)
   clear hown1 hbel1
   go_wp2
   go_roundw
   case rel => exact ⟨k + 1, by go_num, by omega, HO1.out, HB1.out⟩
   case measure => simp [intOf]; omega
  ·
   have hko := HO.out
   rw [List.take_of_length_le (by omega)] at hko
   have HO1 := Hq hko
   clear hko
   go_wp2
   go_ret
   exact FoPost.o HO1.out HB.out
theorem i64_head {n : Nat} (h : n ≤ 16) : IntKind.u8.wrap (n : Int) = ((UInt8.ofNat n).toNat : Int) := by
 rw [UInt8.toNat_ofNat']
 unfold IntKind.wrap
 simp [IntKind.signed, IntKind.bits]
theorem below_call {w w' : World} {o : Obj} (h : Below (w.alloc o).heap.size (w.alloc o) w') : Below w.heap.size w w' :=
 (Below.alloc (Below.refl _ _) (Nat.le_refl _) o).trans (h.mono (by simp))
theorem own_call {w w' : World} {o : Obj} {v : Value} {l : List UInt8} (h : Own w' (w.alloc o).heap.size v l) : Own w' w.heap.size v l := h.le (by simp)
theorem bytes_of_str (w : World) (s : ByteArray) : ∃ c w2, (convert 9 33 (.string s)).run Tryz.prog w = .ok (.slice (some ⟨w.heap.size, 0, none⟩) s.size c) w2 ∧ Below w.heap.size w w2 ∧ Bs w2 (some ⟨w.heap.size, 0, none⟩) s.data.toList := by
 refine ⟨_, _, Lib.run_convert_string_bytes w _ _ _ s Tryz.underlying9 Tryz.underlying33 Tryz.underlying5, Lib.bytesWorld_below _ _ _, ?_⟩
 intro _
 refine ⟨w.heap.size, 0, rfl, fun i u hi => ?_⟩
 have hi2 : i < s.size := (List.getElem?_eq_some_iff.1 hi).1
 rw [Nat.zero_add, Lib.bytesWorld_cell w _ s i hi2, List.getD_eq_getElem?_getD, hi]
 rfl
set_option maxHeartbeats 1600000 in
theorem head_any {w : World} (s : ByteArray) (h : nameOk s = true) :
  Calls Tryz.prog 54 #[.string s] w (FoPost w (headF s.data.toList)) := by
 have hs := (nameOk_len h).2
 have HU := Hq (i64_head hs)
 have HL : Hid (s.data.toList.length = s.size) := Hq rfl
 obtain ⟨u, hu⟩ : ∃ u, u = UInt8.ofNat s.size := ⟨_, rfl⟩
 have HUU := Hq hu
 rw [← hu] at HU
 clear hu
 have hlt := u.toNat_lt
 go_enter Tryz.func54, Tryz.ntmps54
 go_wp2_with fail
 obtain ⟨c, w2, hr, hb, hbs⟩ := bytes_of_str (w.alloc (.cells #[.int .u8 (s.size : Int)] 5)) s
 rw [hr]
 have hz : (w.alloc (.cells #[.int .u8 (s.size : Int)] 5)).heap.size = w.heap.size + 1 := by simp
 rw [hz] at hbs
 have hx : (s.size : Int) = (u.toNat : Int) := by
  have := HUU.out
  rw [this, UInt8.toNat_ofNat']; omega
 have hone : Bs (w.alloc (.cells #[.int .u8 (s.size : Int)] 5)) (some ⟨w.heap.size, 0, none⟩) [u] := Bs.one w _ _ rfl hx
 have hbel : Below w.heap.size w (w.alloc (.cells #[.int .u8 (s.size : Int)] 5)) := Below.alloc (Below.refl _ _) (Nat.le_refl _) _
 have HPT := Hq (Pts.two w2 33 (n := 1) (c := 1) (k := s.size) (d := c) rfl rfl (hone.below hb) (fun h => by cases h) hbs (fun h => by cases h))
 have HB := Hq (hbel.trans (hb.mono hbel.size))
 have HJ := Hq (join_any HPT.out 2 2 rfl (by omega) (by have := HL.out; simp; omega))
 have HE : Hid ([[u], s.data.toList].flatten = headF s.data.toList) := Hq (by rw [HUU.out]; unfold headF; rw [HL.out]; simp)
 rw [HE.out] at HJ
 clear hr hb hbs hone hbel hx
 go_wp2_with fail
 refine HJ.out.mono ?_
 rintro e w3 ⟨v, rfl, ho, hb3⟩
 have HB3 := Hq (HB.out.trans ((below_call hb3).mono HB.out.size))
 have HO := Hq ((own_call ho).le HB.out.size)
 clear ho hb3
 go_wp2
 go_ret
 exact FoPost.o HO.out (HB3.out)
theorem mostF_le (n : List UInt8) : mostF n ≤ 71 := by unfold mostF; split <;> omega
theorem mostF_yes {n : List UInt8} (h : nameL n = true) : mostF n = 71 - n.length := if_pos h
theorem mostF_no {n : List UInt8} (h : nameL n = false) : mostF n = 0 := if_neg (by rw [h]; decide)
set_option maxHeartbeats 1600000 in
theorem most_any {w : World} (s : ByteArray) (hs : s.size ≤ 9223372036854775807) :
  Calls Tryz.prog 93 #[.string s] w fun e w' => e = .returned (.int .i64 (mostF s.data.toList : Int)) ∧ Below w.heap.size w w' := by
 have HN := Hq (fun w => name_any (w := w) s hs)
 cases hok : nameOk s
 ·
  rw [hok] at HN
  have HM : Hid ((mostF s.data.toList : Int) = 0) := Hq (by rw [mostF_no hok]; rfl)
  clear hok
  go_enter Tryz.func93, Tryz.ntmps93
  go_wp2_with fail
  refine (HN.out _).mono ?_; rintro e w1 ⟨rfl, rfl⟩
  go_wp2
  go_ret
  exact ⟨ret_int HM.out.symm, Below.refl _ _⟩
 ·
  rw [hok] at HN
  have hs16 := (nameOk_len hok).2
  have hs1 := (nameOk_len hok).1
  have HH := Hq (fun w => head_any (w := w) s hok)
  have hl : s.data.toList.length = s.size := rfl
  have hz : (headF s.data.toList).length = s.size + 1 := rfl
  have HM : Hid ((mostF s.data.toList : Int) = 72 - ((s.size : Int) + 1)) := Hq (by rw [mostF_yes hok, hl]; omega)
  clear hok
  go_enter Tryz.func93, Tryz.ntmps93
  go_wp2_with fail
  refine (HN.out _).mono ?_; rintro e w1 ⟨rfl, rfl⟩
  go_wp2_with fail
  refine (HH.out _).mono ?_
  rintro e w2 ⟨v, rfl, ho, hb⟩
  obtain ⟨p, c, rfl, _, hc, _, _⟩ := ho.form hz.symm
  have HB := Hq hb
  clear ho hb
  go_wp2
  go_ret
  exact ⟨ret_int (by rw [HM.out]; try (unfold wrap64; omega)), HB.out⟩
def wrongF (n : List UInt8) (ls : List (List UInt8)) : Int := if nameL n = false then 2 else if ls.all (fun k => decide (k.length ≤ mostF n)) = true then 0 else 3
theorem wrongF_no {n : List UInt8} {ls : List (List UInt8)} (h : nameL n = false) : wrongF n ls = 2 := if_pos h
theorem wrongF_big {n : List UInt8} {ls : List (List UInt8)} {k : Nat} (h : nameL n = true) (hk : k < ls.length) (hb : ¬ ls[k].length ≤ mostF n) : wrongF n ls = 3 := by
 unfold wrongF
 rw [if_neg (by rw [h]; decide), if_neg]
 intro he
 have := List.all_eq_true.1 he _ (List.getElem_mem hk)
 exact hb (by simpa using this)
theorem wrongF_ok {n : List UInt8} {ls : List (List UInt8)} (h : nameL n = true) (hk : ∀ l ∈ ls, l.length ≤ mostF n) : wrongF n ls = 0 := by
 unfold wrongF
 rw [if_neg (by rw [h]; decide), if_pos]
 exact List.all_eq_true.2 fun l hl => by simpa using hk l hl
theorem wrongF_cases (n : List UInt8) (ls : List (List UInt8)) : (nameL n = false ∧ wrongF n ls = 2) ∨ (nameL n = true ∧ wrongF n ls = 3) ∨ (nameL n = true ∧ wrongF n ls = 0 ∧ ∀ l ∈ ls, l.length ≤ mostF n) := by
 cases h : nameL n
 ·
  exact .inl ⟨rfl, wrongF_no h⟩
 ·
  refine .inr ?_
  by_cases hx : ls.all (fun k => decide (k.length ≤ mostF n)) = true
  ·
   have hk : ∀ l ∈ ls, l.length ≤ mostF n := fun l hl => by simpa using List.all_eq_true.1 hx l hl
   exact .inr ⟨rfl, wrongF_ok h hk, hk⟩
  ·
   refine .inl ⟨rfl, ?_⟩
   unfold wrongF
   rw [if_neg (by rw [h]; decide), if_neg hx]
set_option maxHeartbeats 1600000 in
theorem fright_any {w : World} (s : ByteArray) (hs : s.size ≤ 9223372036854775807) {q : Option Addr} {ls : List (List UInt8)} (hp : Pts w q ls) (n c : Nat) (hn : n = ls.length) (hn2 : n ≤ 1000) :
  Calls Tryz.prog 52 #[.string s, .slice q n c] w fun e w' => e = .returned (.int .i64 (wrongF s.data.toList ls)) ∧ Below w.heap.size w w' := by
 obtain rfl := hn
 have HN := Hq (fun w => name_any (w := w) s hs)
 cases hok : nameOk s
 ·
  rw [hok] at HN
  have HM := Hq (wrongF_no (ls := ls) hok)
  clear hok
  go_enter Tryz.func52, Tryz.ntmps52
  go_wp2_with fail
  refine (HN.out _).mono ?_; rintro e w1 ⟨rfl, rfl⟩
  go_wp2
  go_ret
  exact ⟨ret_int HM.out.symm, Below.refl _ _⟩
 ·
  rw [hok] at HN
  have HMO := Hq (fun w => most_any (w := w) s hs)
  have HOK : Hid (nameL s.data.toList = true) := Hq hok
  obtain ⟨mo, hmo⟩ : ∃ mo, mo = mostF s.data.toList := ⟨_, rfl⟩
  have hmo71 : mo ≤ 71 := by rw [hmo]; exact mostF_le _
  rw [← hmo] at HMO
  have HMM := Hq hmo
  have HP := Hq hp
  clear hok hmo hp hs
  go_enter Tryz.func52, Tryz.ntmps52
  go_wp2_with fail
  refine (HN.out _).mono ?_; rintro e w1 ⟨rfl, rfl⟩
  go_wp2
  go_loopw [12] (fun i wr => ∃ k : Nat, i = .int .i64 k ∧ k ≤ ls.length ∧ (∀ j (hj : j < ls.length), j < k → ls[j].length ≤ mo) ∧ Below w.heap.size w wr) (fun i _ => ls.length - (intOf i).toNat)
  case atStart => exact ⟨0, rfl, by omega, fun j _ h => absurd h (by omega), Below.refl _ _⟩
  case round =>
   obtain ⟨k, rfl, hk, hall, hb⟩ := hrel
   have HB := Hq hb
   have HA := Hq hall
   clear hb hall
   by_cases hlt : k < ls.length
   ·
    obtain ⟨b, o, rfl, hc⟩ := (HP.out.below HB.out).at (by omega)
    obtain ⟨p, cc, hcell, hbs, hp0⟩ := hc k hlt
    have HBIG := Hq (fun h => wrongF_big (n := s.data.toList) (ls := ls) HOK.out hlt h)
    rw [← HMM.out] at HBIG
    obtain ⟨z, hz⟩ : ∃ z, z = ls[k].length := ⟨_, rfl⟩
    have HZ := Hq hz
    rw [← hz] at hcell HBIG
    clear hbs hp0 hc hz
    by_cases hbig : z ≤ mo
    ·
     have hng : ¬ (mo : Int) < (z : Int) := by omega
     go_wp2_with fail
     refine (HMO.out _).mono ?_; rintro e w2 ⟨rfl, hb2⟩
     have HB2 := Hq (HB.out.trans (hb2.mono HB.out.size))
     clear hb2
     go_wp2
     go_roundw
     case rel => exact ⟨k + 1, by go_num, by omega, fun j hj h => by
      rcases Nat.lt_or_ge j k with h1 | h1
      ·
       exact HA.out j hj h1
      ·
       obtain rfl : j = k := by omega
       rw [← HZ.out]; exact hbig, HB2.out⟩
     case measure => simp [intOf]; omega
    ·
     have hng : (mo : Int) < (z : Int) := by omega
     have HX := Hq (HBIG.out hbig)
     go_wp2_with fail
     refine (HMO.out _).mono ?_; rintro e w2 ⟨rfl, hb2⟩
     have HB2 := Hq (HB.out.trans (hb2.mono HB.out.size))
     clear hb2
     go_wp2
     go_ret
     exact ⟨ret_int HX.out.symm, HB2.out⟩
   ·
    have HX : Hid (wrongF s.data.toList ls = 0) := Hq (wrongF_ok HOK.out fun l hl => by
     obtain ⟨j, hj, rfl⟩ := List.getElem_of_mem hl
     rw [← HMM.out]
     exact HA.out j hj (by omega))
    go_wp2
    go_ret
    exact ⟨ret_int HX.out.symm, HB.out⟩
end Go.Proofs.YtbbgdbnjmonbgaaGreatDoor

set_option linter.unusedVariables false
set_option maxRecDepth 100000
namespace Go.Proofs.YtbbgdbnjmonbgaaGreatDoor
open Go.RowKit
def FKPost (w : World) (n k : List UInt8) (e : Ending) (w' : World) : Prop :=
 ∃ v, e = .returned (.tuple #[v, .int .i64 (wrongF n [k])]) ∧ Own w' w.heap.size v (if wrongF n [k] = 0 then keyF n k else []) ∧ Below w.heap.size w w'
theorem FKPost.no {w w' : World} {n k : List UInt8} {x : Int} (hx : wrongF n [k] = x) (h0 : x ≠ 0) (hb : Below w.heap.size w w') : FKPost w n k (.returned (.tuple #[.slice none 0 0, .int .i64 x])) w' :=
 ⟨_, by rw [hx], by rw [hx, if_neg h0]; exact Own.nil _ _, hb⟩
theorem FKPost.yes {w w' : World} {n k : List UInt8} {v : Value} (hx : wrongF n [k] = 0) (ho : Own w' w.heap.size v (keyF n k)) (hb : Below w.heap.size w w') : FKPost w n k (.returned (.tuple #[v, .int .i64 0])) w' :=
 ⟨_, by rw [hx], by rw [hx, if_pos rfl]; exact ho, hb⟩
set_option maxHeartbeats 1600000 in
theorem fkey_any {w : World} (s : ByteArray) (hs : s.size ≤ 9223372036854775807) {p : Option Addr} {k : List UInt8} (hk : Bs w p k) (n c : Nat) (hn : n = k.length) (hp : p = none → c = 0) :
  Calls Tryz.prog 24 #[.string s, .slice p n c] w (FKPost w s.data.toList k) := by
 have HR := Hq (fright_any s hs (Pts.one w 33 hn hk hp) 1 1 rfl (by omega))
 have HB1 : Hid (Below w.heap.size w (w.alloc (.cells #[.slice p n c] 33))) := Hq (Below.alloc (Below.refl _ _) (Nat.le_refl _) _)
 rcases wrongF_cases s.data.toList [k] with ⟨h1, hx⟩ | ⟨h1, hx⟩ | ⟨h1, hx, hal⟩
 ·
  rw [hx] at HR
  have HX := Hq hx
  clear hx h1 hk hn hp
  go_enter Tryz.func24, Tryz.ntmps24
  go_wp2_with fail
  refine HR.out.mono ?_; rintro e w1 ⟨rfl, hb1⟩
  have HB := Hq (below_call hb1)
  clear hb1
  go_wp2
  go_ret2
  exact FKPost.no HX.out (by decide) HB.out
 ·
  rw [hx] at HR
  have HX := Hq hx
  clear hx h1 hk hn hp
  go_enter Tryz.func24, Tryz.ntmps24
  go_wp2_with fail
  refine HR.out.mono ?_; rintro e w1 ⟨rfl, hb1⟩
  have HB := Hq (below_call hb1)
  clear hb1
  go_wp2
  go_ret2
  exact FKPost.no HX.out (by decide) HB.out
 ·
  rw [hx] at HR
  have HX := Hq hx
  have HH := Hq (fun w => head_any (w := w) s h1)
  have hm := hal k (by simp)
  rw [mostF_yes h1] at hm
  have h16 := nameOk_len (s := s) h1
  have hz : (headF s.data.toList).length = s.size + 1 := rfl
  have HM := Hq hm
  have HK := Hq hk
  have HN := Hq hn
  have HP := Hq hp
  clear hx h1 hal hm hk hn hp
  go_enter Tryz.func24, Tryz.ntmps24
  go_wp2_with fail
  refine HR.out.mono ?_; rintro e w1 ⟨rfl, hb1⟩
  have HB := Hq (below_call hb1)
  clear hb1
  go_wp2_with fail
  refine (HH.out _).mono ?_; rintro e w2 ⟨v, rfl, ho, hb2⟩
  obtain ⟨p2, c2, rfl, _, hc2, hbs2, hp2⟩ := ho.form hz.symm
  have HB2 := Hq (HB.out.trans (hb2.mono HB.out.size))
  have HPT := Hq (Pts.two w2 33 hz.symm HN.out hbs2 hp2 (HK.out.below HB2.out) HP.out)
  have HJ := Hq (join_any HPT.out 2 2 rfl (by omega) (by have := HM.out; simp only [List.flatten_cons, List.flatten_nil, List.length_append, List.length_nil, hz]; omega))
  have HE : Hid ([headF s.data.toList, k].flatten = keyF s.data.toList k) := Hq (by unfold keyF; simp)
  rw [HE.out] at HJ
  clear ho hb2 hbs2 hp2
  go_wp2_with fail
  refine HJ.out.mono ?_; rintro e w3 ⟨v, rfl, ho3, hb3⟩
  have HB3 := Hq (HB2.out.trans ((below_call hb3).mono HB2.out.size))
  have HO3 := Hq ((own_call ho3).le HB2.out.size)
  clear ho3 hb3
  go_wp2
  go_ret2
  exact FKPost.yes HX.out HO3.out HB3.out
end Go.Proofs.YtbbgdbnjmonbgaaGreatDoor

set_option linter.unusedVariables false
set_option maxRecDepth 100000
namespace Go.Proofs.YtbbgdbnjmonbgaaGreatDoor
open Go.RowKit
set_option maxHeartbeats 400000 in
theorem bytesCompare_any {w : World} {p q : Option Addr} {l m : List UInt8} (hl : Bs w p l) (hm : Bs w q m) (n c k d : Nat) (hn : n = l.length) (hk : k = m.length) (hp : p = none → c = 0) (hq : q = none → d = 0) :
  Calls Tryz.prog 104 #[.slice p n c, .slice q k d] w fun e w' => e = .returned (.int .i64 (Lib.compareBytes l m)) ∧ w = w' := by
 have hr := run_cmp hl hm hn hk hp hq
 have hx : (callFunc 123 #[.slice p n c, .slice q k d]).run Tryz.prog w = .ok (.value (.int .i64 (Lib.compareBytes l m))) w := by
  rw [run_callFunc_extern Tryz.func123 (by kernel_rfl) (by kernel_rfl) (by kernel_rfl) (e := Extern.BytealgCompare.compare) (by kernel_rfl), hr]
  rfl
 clear hr hl hm hn hk hp hq
 generalize Lib.compareBytes l m = r at hx ⊢
 go_enter Tryz.func104, Tryz.ntmps104
 go_wp2
 go_ret
 exact ⟨rfl, rfl⟩
end Go.Proofs.YtbbgdbnjmonbgaaGreatDoor

set_option linter.unusedVariables false
set_option linter.unusedSimpArgs false
set_option maxRecDepth 100000
namespace Go.Proofs.YtbbgdbnjmonbgaaGreatDoor
open Go.RowKit
structure SpS where
 f : List UInt8
 t : List UInt8
 e : Bool
def SpS.ahead (s : SpS) (k : List UInt8) : Bool := !s.e || decide (Lib.compareBytes k s.t < 0)
def SpS.has (s : SpS) (k : List UInt8) : Bool := decide (Lib.compareBytes s.f k ≤ 0) && s.ahead k
def SpS.all (s : SpS) : Bool := decide (s.f.length = 0) && !s.e
def SpS.zero : SpS := ⟨[], [], false⟩
structure Sp where
 f : Kb
 t : Kb
 e : Bool
def Kb.zero : Kb := ⟨none, 0, []⟩
theorem Kb.zero_ok (w : World) : Kb.zero.Ok w := ⟨Bs.nil _ _, Nat.le_refl _, (by show (0 : Nat) ≤ _; omega), fun _ => rfl⟩
def Sp.zero : Sp := ⟨Kb.zero, Kb.zero, false⟩
def Sp.v (s : Sp) : Value := .agg #[.slice s.f.q s.f.l.length s.f.c, .slice s.t.q s.t.l.length s.t.c, .bool s.e]
def Sp.s (s : Sp) : SpS := ⟨s.f.l, s.t.l, s.e⟩
structure Sp.Ok (w : World) (s : Sp) : Prop where
 f : s.f.Ok w
 t : s.t.Ok w
theorem Sp.Ok.below {w w' : World} {s : Sp} (h : s.Ok w) (hb : Below w.heap.size w w') : s.Ok w' := ⟨h.f.below hb, h.t.below hb⟩
theorem Sp.zero_ok (w : World) : Sp.zero.Ok w := ⟨Kb.zero_ok w, Kb.zero_ok w⟩
theorem sp_box (w : World) (s : Sp) : ∃ W, W = w.alloc (.cells #[.slice s.f.q s.f.l.length s.f.c, .slice s.t.q s.t.l.length s.t.c, .bool s.e] 101) ∧ Below w.heap.size w W ∧ W.heap.size = w.heap.size + 1 ∧
  (∀ w', Below W.heap.size W w' → Below w.heap.size w w' ∧ w'.cell? ⟨w.heap.size, 0, none⟩ = some (.slice s.f.q s.f.l.length s.f.c) ∧ w'.cell? ⟨w.heap.size, 1, none⟩ = some (.slice s.t.q s.t.l.length s.t.c) ∧ w'.cell? ⟨w.heap.size, 2, none⟩ = some (.bool s.e)) := by
 refine ⟨_, rfl, (Below.refl _ _).alloc (Nat.le_refl _) _, by simp, fun w' hb => ?_⟩
 have h1 := (hb.block w.heap.size (by simp)).trans (heap_alloc_new w _)
 exact ⟨((Below.refl _ _).alloc (Nat.le_refl _) _).trans (hb.mono (by simp)), jC h1 0, jC h1 1, jC h1 2⟩
set_option maxHeartbeats 800000 in
theorem spAhead {w : World} {s : Sp} (h : s.Ok w) {k : Kb} (hk : k.Ok w) :
  Calls Tryz.prog 173 #[s.v, .slice k.q k.l.length k.c] w fun e w' => e = .returned (.bool (s.s.ahead k.l)) ∧ Below w.heap.size w w' := by
 obtain ⟨W, hW, hbw, hws, hc⟩ := sp_box w s
 have HC := Hq hc
 have HBW := Hq hbw
 obtain ⟨z0, z1, z2⟩ := (hc W (Below.refl _ _)).2
 have HCMP := Hq (bytesCompare_any (hk.bs.below hbw) (h.t.bs.below hbw) k.l.length k.c s.t.l.length s.t.c rfl rfl hk.z h.t.z)
 have HR : Hid (s.s.ahead k.l = (!s.e || decide (Lib.compareBytes k.l s.t.l < 0))) := Hq rfl
 unfold Sp.v
 generalize s.s.ahead k.l = R at *
 generalize Lib.compareBytes k.l s.t.l = c at *
 generalize k.l.length = kn at *
 generalize s.t.l.length = tn at *
 generalize s.f.l.length = fn at *
 cases hE : s.e
 ·
  rw [hE] at HR z2 hW
  rw [hE] at HC
  clear h hk hc hE
  go_enter Tryz.func173, Tryz.ntmps173
  go_wp2
  go_ret
  exact ⟨by rw [HR.out]; rfl, sbox1 _ _⟩
 ·
  rw [hE] at HR z2 hW
  rw [hE] at HC
  clear h hk hc hE
  go_enter Tryz.func173, Tryz.ntmps173
  go_wp2_with fail
  rw [← hW]
  clear hW
  refine HCMP.out.mono ?_; rintro e w1 ⟨rfl, rfl⟩
  go_wp2
  go_ret
  exact ⟨by rw [HR.out]; rfl, HBW.out⟩
set_option maxHeartbeats 800000 in
theorem spHas {w : World} {s : Sp} (h : s.Ok w) {k : Kb} (hk : k.Ok w) :
  Calls Tryz.prog 149 #[s.v, .slice k.q k.l.length k.c] w fun e w' => e = .returned (.bool (s.s.has k.l)) ∧ Below w.heap.size w w' := by
 obtain ⟨W, hW, hbw, hws, hc⟩ := sp_box w s
 have HC := Hq hc
 have HBW := Hq hbw
 obtain ⟨z0, z1, z2⟩ := (hc W (Below.refl _ _)).2
 have HCMP := Hq (bytesCompare_any (h.f.bs.below hbw) (hk.bs.below hbw) s.f.l.length s.f.c k.l.length k.c rfl rfl h.f.z hk.z)
 have HA := Hq (spAhead (h.below hbw) (hk.below hbw))
 have HR : Hid (s.s.has k.l = (decide (Lib.compareBytes s.f.l k.l ≤ 0) && s.s.ahead k.l)) := Hq rfl
 unfold Sp.v at *
 generalize s.s.has k.l = R at *
 generalize s.s.ahead k.l = A at *
 generalize Lib.compareBytes s.f.l k.l = c at *
 generalize k.l.length = kn at *
 generalize s.t.l.length = tn at *
 generalize s.f.l.length = fn at *
 by_cases h0 : c ≤ 0
 ·
  have d0 : decide (c ≤ 0) = true := decide_eq_true h0
  rw [d0] at HR
  clear h hk hc
  go_enter Tryz.func149, Tryz.ntmps149
  go_wp2_with fail
  rw [← hW]
  clear hW
  refine HCMP.out.mono ?_; rintro e w1 ⟨rfl, rfl⟩
  go_wp2_with fail
  refine HA.out.mono ?_; rintro e w1 ⟨rfl, hb1⟩
  have HB1 := Hq (HC.out _ hb1).1
  clear hb1
  go_wp2
  go_ret
  exact ⟨by rw [HR.out]; simp, HB1.out⟩
 ·
  have d0 : decide (c ≤ 0) = false := decide_eq_false h0
  rw [d0] at HR
  clear h hk hc
  go_enter Tryz.func149, Tryz.ntmps149
  go_wp2_with fail
  rw [← hW]
  clear hW
  refine HCMP.out.mono ?_; rintro e w1 ⟨rfl, rfl⟩
  go_wp2
  go_ret
  exact ⟨by rw [HR.out]; simp, HBW.out⟩
set_option maxHeartbeats 800000 in
theorem spAll {w : World} {s : Sp} :
  Calls Tryz.prog 148 #[s.v] w fun e w' => e = .returned (.bool s.s.all) ∧ Below w.heap.size w w' := by
 obtain ⟨W, hW, hbw, hws, hc⟩ := sp_box w s
 have HBW := Hq hbw
 obtain ⟨z0, z1, z2⟩ := (hc W (Below.refl _ _)).2
 have HR : Hid (s.s.all = (decide (s.f.l.length = 0) && !s.e)) := Hq rfl
 unfold Sp.v at *
 generalize s.s.all = R at *
 generalize s.t.l.length = tn at *
 generalize s.f.l.length = fn at *
 generalize s.e = E at *
 clear hc
 by_cases h0 : fn = 0
 ·
  subst h0
  go_enter Tryz.func148, Tryz.ntmps148
  go_wp2
  go_ret
  exact ⟨by rw [HR.out]; simp, sbox1 _ _⟩
 ·
  have d0 : decide (fn = 0) = false := decide_eq_false h0
  have d1 : ((fn : Int) == 0) = false := by rw [beq_eq_false_iff_ne]; omega
  have d2 : (fn == 0) = false := by rw [beq_eq_false_iff_ne]; omega
  rw [d0] at HR
  go_enter Tryz.func148, Tryz.ntmps148
  go_wp2
  go_ret
  exact ⟨by rw [HR.out]; simp, sbox1 _ _⟩
end Go.Proofs.YtbbgdbnjmonbgaaGreatDoor

set_option linter.unusedVariables false
set_option linter.unusedSimpArgs false
set_option maxRecDepth 100000
namespace Go.Proofs.YtbbgdbnjmonbgaaGreatDoor
open Go.RowKit
noncomputable def PG.page (X : PG) (k : Int) : Option (UInt8 × List UInt8) := open Classical in
 if X.F.st k = 0 then none else if openE (X.S.read k) k = 0 then some ((X.S.read k).headD 0, fIn (X.S.read k)) else none
theorem PG.page_is {X : PG} {k : Nat} (hs : X.F.st k ≠ 0) (hk : k < 4096) {kind : UInt8} {gen : Nat} {l : List UInt8} (hp : X.S.read k = pageB kind k gen l) (hl : l.length ≤ 493) (hg : gen ≤ 1152921504606846976) : X.page k = some (kind, l) := by
 unfold PG.page
 have hz := page_right (kind := kind) (no := k) (gen := gen) hl hk hg k
 rw [if_pos rfl] at hz
 obtain ⟨f1, f2, f3, f4, f5, _⟩ := page_fields (kind := kind) hl (no := k) (by omega) (gen := gen) (by omega)
 rw [if_neg hs, hp, if_pos hz, f5]
 have hh : (pageB kind k gen l).headD 0 = kind := by
  cases h : pageB kind k gen l with
  | nil => rw [h] at f1; cases f1
  | cons a m => rw [h] at f1; simpa using f1
 rw [hh]
theorem SD.read_len {S : SD} (h : S.Ok) (k : Int) : (S.read k).length = 512 := by
 unfold SD.read
 cases hf : found S.waits k with
 | none => exact h.l k
 | some l => exact found_len h.w hf
def GrReadPost (w : World) (X : PG) (k : Int) (e : Ending) (w' : World) : Prop :=
 (∃ kind l v, X.page k = some (kind, l) ∧ e = .returned (.tuple #[.int .u8 (kind.toNat : Int), v, .int .i64 0]) ∧ Own w' w.heap.size v l ∧ Below w.heap.size w w') ∨
 (X.page k = none ∧ ∃ z : Int, z ≠ 0 ∧ z ≠ 1 ∧ e = .returned (.tuple #[.int .u8 0, .slice none 0 0, .int .i64 z]) ∧ Below w.heap.size w w')
section
variable {w w' : World} {B P pd lm fm pl um wm la : Nat} {v : Value} {X : PG}
set_option maxHeartbeats 1600000 in
theorem grRead_gen (hT : Tab w) (h : GrIs w B P pd lm fm pl um wm la v X) (hz : X.F.hi = X.S.size) (k : Int) :
  Calls Tryz.prog 80 #[.pointer (some ⟨P, 0, none⟩), .int .i64 k] w (GrReadPost w X k) := by
 have HM := Hq h.made
 have c1 := h.c1
 have HST := Hq (frState_any h.list k)
 by_cases hs : X.F.st k = 0
 ·
  have hb0 : (X.F.st k == 0) = true := by rw [beq_iff_eq]; exact hs
  have HP : Hid (X.page k = none) := Hq (by unfold PG.page; rw [if_pos hs])
  rw [hs] at HST
  clear h hT hs hb0
  go_enter Tryz.func80, Tryz.ntmps80
  go_wp2_with fail
  refine HM.out.mono ?_; rintro e w1 ⟨rfl, rfl⟩
  go_wp2_with fail
  refine HST.out.mono ?_; rintro e w1 ⟨rfl, hb1⟩
  have HB1 := Hq hb1
  clear hb1
  go_wp2
  exact bodyPost_ret (v := .tuple #[.int .u8 0, .slice none 0 0, .int .i64 2]) (by simp [results, Tryz.results80, go_sem]) rfl (.inr ⟨HP.out, 2, by decide, by decide, rfl, HB1.out⟩)
 have hk : 0 ≤ k ∧ k < X.S.size := by
  have h1 : X.F.has k = true := by
   cases hh : X.F.has k
   ·
    exact absurd (by unfold FL.st; rw [hh]; rfl) hs
   ·
    rfl
  have h2 := FL.has_iff.1 h1
  have := h.list.ok.h0
  omega
 have HR := Hq fun w' hb => read_any (h.disk.below (w' := w') hb) hk.1 hk.2
 have hlen := SD.read_len h.disk.ok k
 have HPL : Hid (512 = (X.S.read k).length) := Hq hlen.symm
 have HO : Hid (∀ w1 g, Below w.heap.size w w1 → Sec w1 g (X.S.read k) → Calls Tryz.prog 110 #[.slice (some ⟨g, 0, none⟩) 512 512, .int .i64 k] w1 (OpenPost w1 (X.S.read k) k)) := Hq fun w1 g hb hsec => pOpen_any (hT.below hT.lt hb) hsec.bs HPL.out (Nat.le_refl _) (by omega) k
 have hb0 : (X.F.st k == 0) = false := by rw [beq_eq_false_iff_ne]; exact hs
 have HP1 : Hid (openE (X.S.read k) k ≠ 0 → X.page k = none) := Hq fun h0 => by unfold PG.page; rw [if_neg hs, if_neg h0]
 have HP2 : Hid (openE (X.S.read k) k = 0 → ∀ u, (X.S.read k)[0]? = some u → X.page k = some (u, fIn (X.S.read k))) := Hq fun h0 u hu => by
  unfold PG.page
  rw [if_neg hs, if_pos h0]
  congr 2
  cases hx : X.S.read k with
  | nil => rw [hx] at hu; cases hu
  | cons a m => rw [hx] at hu; simpa using hu
 have HC0 : Hid (∀ w', Below w.heap.size w w' → w'.cell? ⟨P, 0, none⟩ = some (.pointer (some ⟨pd, 0, none⟩))) := Hq fun w' hb => (h.below hb).c0
 clear h hs hT hlen hk hz
 generalize X.S.read k = pg at *
 generalize X.F.st k = st at *
 go_enter Tryz.func80, Tryz.ntmps80
 go_wp2_with fail
 refine HM.out.mono ?_; rintro e w1 ⟨rfl, rfl⟩
 go_wp2_with fail
 refine HST.out.mono ?_; rintro e w1 ⟨rfl, hb1⟩
 have HB1 := Hq hb1
 have c0 := HC0.out _ hb1
 clear hb1
 go_wp2_with fail
 refine (HR.out _ HB1.out).mono ?_; rintro e w2 ⟨g, rfl, hg, hsec, hb2⟩
 have HB2 := Hq (HB1.out.trans (hb2.mono HB1.out.size))
 have HS2 := Hq hsec
 clear hb2 hsec hg c0
 go_wp2_with fail
 have HOO := Hq (HO.out _ _ HB2.out HS2.out)
 clear HO
 generalize hz0 : openE pg k = z at *
 by_cases hz1 : z = 0
 ·
  refine HOO.out.mono ?_
  rintro e w3 (⟨h1, _⟩ | ⟨h1, u, v', hu, rfl, ho, hb3⟩)
  ·
   rw [hz0] at h1; exact absurd hz1 h1
  have HB3 := Hq (HB2.out.trans (hb3.mono HB2.out.size))
  have HOW := Hq ho
  have HQ := Hq (HP2.out hz1 u hu)
  have HSZ := Hq HB2.out.size
  clear HP1 HP2 hz0 hz1 HOO hb3 ho hu h1 HB2 HS2 HR HC0
  go_wp2
  exact bodyPost_ret (v := .tuple #[.int .u8 (u.toNat : Int), v', .int .i64 0]) (by simp [results, Tryz.results80, go_sem]) rfl (.inl ⟨u, _, v', HQ.out, rfl, HOW.out.le HSZ.out, HB3.out⟩)
 ·
  refine HOO.out.mono ?_
  rintro e w3 h3
  obtain ⟨h1, rfl, hb3⟩ : openE pg k ≠ 0 ∧ e = .returned (.tuple #[.int .u8 0, .int .i64 0, .slice none 0 0, .int .i64 (openE pg k : Nat)]) ∧ Below w2.heap.size w2 w3 := by
   rcases h3 with h3 | h3
   ·
    exact h3
   ·
    exact absurd (hz0 ▸ h3.1) hz1
  have HB3 := Hq (HB2.out.trans (hb3.mono HB2.out.size))
  have HQ := Hq (HP1.out hz1)
  have hne : (((openE pg k : Nat) : Int) == 0) = false := by rw [hz0, beq_eq_false_iff_ne]; omega
  have hne2 : (((openE pg k : Nat) : Int) != 0) = true := by rw [hz0, bne_iff_ne]; omega
  clear HP1 HP2 HOO hb3 h1 HB2 HS2 HR HC0
  rw [hz0] at hne hne2 ⊢
  have hne3 : (z != 0) = true := by rw [bne_iff_ne]; omega
  clear hz0
  go_wp2
  exact bodyPost_ret (v := .tuple #[.int .u8 0, .slice none 0 0, .int .i64 18]) (by simp [results, Tryz.results80, go_sem]) rfl (.inr ⟨HQ.out, 18, by decide, by decide, rfl, HB3.out⟩)
end
end Go.Proofs.YtbbgdbnjmonbgaaGreatDoor

set_option linter.unusedVariables false
set_option linter.unusedSimpArgs false
set_option maxRecDepth 100000
namespace Go.Proofs.YtbbgdbnjmonbgaaGreatDoor
open Go.RowKit
end Go.Proofs.YtbbgdbnjmonbgaaGreatDoor

