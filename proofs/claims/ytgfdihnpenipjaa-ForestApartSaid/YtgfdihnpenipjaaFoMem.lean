/-
  Many trees in one: byte slices in a row; join, head, Most and right of the package forest: contracts for the walks.
-/
import Derived.Test.YtgfdihnpenipjaaFoSpec
import Derived.Test.YtgfdihnpenipjaaRName
import Derived.Test.YtgfdihnpenipjaaAft
import Derived.Lib.AtoiErrMem
import Derived.Lib.ConvBytes
set_option linter.unusedVariables false
set_option maxRecDepth 100000
namespace Go.Proofs.Ytgfdihnpenipjaa
open Go.RowKit

/-- Byte slices in a row. -/
def Pts (w : World) (q : Option Addr) (ls : List (List UInt8)) : Prop :=
  ls ≠ [] → ∃ b o, q = some ⟨b, o, none⟩ ∧ ∀ i l, ls[i]? = some l → ∃ p c, w.cell? ⟨b, o + i, none⟩ = some (.slice p l.length c) ∧ Bs w p l ∧ (p = none → c = 0)

theorem Pts.below {w w' : World} {q : Option Addr} {ls : List (List UInt8)} (h : Pts w q ls) (hb : Below w.heap.size w w') : Pts w' q ls := by
  intro hne
  obtain ⟨b, o, hq, hc⟩ := h hne
  refine ⟨b, o, hq, fun i l hi => ?_⟩
  obtain ⟨p, c, h1, h2, h3⟩ := hc i l hi
  exact ⟨p, c, by rw [hb.cell (World.block_lt_of_cell? _ _ h1)]; exact h1, h2.below hb, h3⟩

theorem Pts.at {w : World} {q : Option Addr} {ls : List (List UInt8)} (h : Pts w q ls) (h0 : 0 < ls.length) :
    ∃ b o, q = some ⟨b, o, none⟩ ∧ ∀ i (hi : i < ls.length), ∃ p c, w.cell? ⟨b, o + i, none⟩ = some (.slice p ls[i].length c) ∧ Bs w p ls[i] ∧ (p = none → c = 0) := by
  obtain ⟨b, o, hq, hc⟩ := h (by intro e; rw [e] at h0; simp at h0)
  exact ⟨b, o, hq, fun i hi => hc i _ (List.getElem?_eq_getElem hi)⟩

theorem Pts.one (w : World) (t : TypeId) {p : Option Addr} {l : List UInt8} {n c : Nat} (hn : n = l.length) (h : Bs w p l) (hp : p = none → c = 0) :
    Pts (w.alloc (.cells #[.slice p n c] t)) (some ⟨w.heap.size, 0, none⟩) [l] := by
  subst hn
  intro _
  refine ⟨w.heap.size, 0, rfl, fun i m hi => ?_⟩
  cases i with
  | zero =>
    simp only [List.getElem?_cons_zero, Option.some.injEq] at hi
    subst hi
    exact ⟨p, c, (Joins.cell_of_block (heap_alloc_new w _) 0).trans rfl, h.alloc _, hp⟩
  | succ j => simp at hi

theorem Pts.two (w : World) (t : TypeId) {p q : Option Addr} {l m : List UInt8} {n c k d : Nat} (hn : n = l.length) (hk : k = m.length) (h : Bs w p l) (hp : p = none → c = 0) (h2 : Bs w q m) (hq : q = none → d = 0) :
    Pts (w.alloc (.cells #[.slice p n c, .slice q k d] t)) (some ⟨w.heap.size, 0, none⟩) [l, m] := by
  subst hn hk
  intro _
  refine ⟨w.heap.size, 0, rfl, fun i x hi => ?_⟩
  match i with
  | 0 =>
    simp only [List.getElem?_cons_zero, Option.some.injEq] at hi
    subst hi
    exact ⟨p, c, (Joins.cell_of_block (heap_alloc_new w _) 0).trans rfl, h.alloc _, hp⟩
  | 1 =>
    simp only [List.getElem?_cons_succ, List.getElem?_cons_zero, Option.some.injEq] at hi
    subst hi
    exact ⟨q, d, (Joins.cell_of_block (heap_alloc_new w _) 1).trans rfl, h2.alloc _, hq⟩
  | j + 2 => simp at hi

/-- What a call answers that makes bytes. -/
def FoPost (w : World) (l : List UInt8) (e : Ending) (w' : World) : Prop := ∃ v, e = .returned v ∧ Own w' w.heap.size v l ∧ Below w.heap.size w w'
theorem FoPost.o {w w' : World} {l : List UInt8} {v : Value} (ho : Own w' w.heap.size v l) (hb : Below w.heap.size w w') : FoPost w l (.returned v) w' := ⟨v, rfl, ho, hb⟩

theorem flat_take {ls : List (List UInt8)} {k : Nat} (hk : k < ls.length) : (ls.take (k + 1)).flatten = (ls.take k).flatten ++ ls[k] := by
  rw [List.take_succ_eq_append_getElem hk, List.flatten_append]
  simp
theorem flat_le {ls : List (List UInt8)} (k : Nat) : (ls.take k).flatten.length ≤ ls.flatten.length := by
  conv => rhs; rw [← List.take_append_drop k ls, List.flatten_append, List.length_append]
  omega

set_option maxHeartbeats 1600000 in
theorem join_any {w : World} {q : Option Addr} {ls : List (List UInt8)} (hp : Pts w q ls) (n c : Nat) (hn : n = ls.length) (hn2 : n ≤ 1000) (hlen : ls.flatten.length ≤ 100000) :
    Calls Try.prog 18 #[.slice q n c] w (FoPost w ls.flatten) := by
  obtain rfl := hn
  have HP := Lib.hid hp
  have HN2 := Lib.hid hn2
  have HLEN := Lib.hid hlen
  clear hp hn2 hlen
  go_enter Try.func18, Try.ntmps18
  go_wp2
  go_loopw [3, 8] (fun v i wr => ∃ k : Nat, i = .int .i64 k ∧ k ≤ ls.length ∧ Own wr w.heap.size v (ls.take k).flatten ∧ Below w.heap.size w wr) (fun _ i _ => ls.length - (intOf i).toNat)
  case atStart => exact ⟨0, rfl, by omega, Own.nil _ _, Below.refl _ _⟩
  case round =>
    obtain ⟨k, rfl, hk, hown, hb⟩ := hrel
    have hk1 : k ≤ 1000 := by have := HN2.out; omega
    have HB := Lib.hid hb
    have HO := Lib.hid hown
    clear hb hown
    by_cases hlt : k < ls.length
    · obtain ⟨b, o, rfl, hc⟩ := (HP.out.below HB.out).at (by omega)
      obtain ⟨p, cc, hcell, hbs, hp0⟩ := hc k hlt
      have HBS := Lib.hid hbs
      have HP0 := Lib.hid hp0
      have HF := Lib.hid (flat_take hlt)
      have HL1 := Lib.hid (flat_le (ls := ls) (k + 1))
      clear hbs hp0 hc
      go_wp2_with (at_builtin; refine app_own rfl (.tmp 12) (.tmp 13) rfl rfl HO.out rfl rfl HBS.out HP0.out (by have h1 := HF.out; have h2 := HL1.out; have h3 := HLEN.out; rw [h1, List.length_append] at h2; omega) HB.out.size ?_; intro v' w1 hown1 hbel1)
      rw [← HF.out] at hown1
      have HO1 := Lib.hid hown1
      have HB1 := Lib.hid (HB.out.trans hbel1)
      clear hown1 hbel1
      go_wp2
      go_roundw
      case rel => exact ⟨k + 1, by go_num, by omega, HO1.out, HB1.out⟩
      case measure => simp [intOf]; omega
    · have hko := HO.out
      rw [List.take_of_length_le (by omega)] at hko
      have HO1 := Lib.hid hko
      clear hko
      go_wp2
      go_ret
      exact FoPost.o HO1.out HB.out

theorem i64_head {n : Nat} (h : n ≤ 16) : IntKind.u8.wrap (n : Int) = ((UInt8.ofNat n).toNat : Int) := by
  rw [UInt8.toNat_ofNat']
  unfold IntKind.wrap
  simp [IntKind.signed, IntKind.bits]

theorem below_call {w w' : World} {o : Obj} (h : Below (w.alloc o).heap.size (w.alloc o) w') : Below w.heap.size w w' :=
  (Below.alloc (Below.refl _ _) (Nat.le_refl _) o).trans (h.mono (by simp))
theorem own_call {w w' : World} {o : Obj} {v : Value} {l : List UInt8} (h : Own w' (w.alloc o).heap.size v l) : Own w' w.heap.size v l := h.le (by simp)

/-- []byte(s) -/
theorem bytes_of_str (w : World) (s : ByteArray) : ∃ c w2, (convert 9 22 (.string s)).run Try.prog w = .ok (.slice (some ⟨w.heap.size, 0, none⟩) s.size c) w2 ∧ Below w.heap.size w w2 ∧ Bs w2 (some ⟨w.heap.size, 0, none⟩) s.data.toList := by
  refine ⟨_, _, Lib.run_convert_string_bytes w _ _ _ s Try.underlying9 Try.underlying22 Try.underlying5, Lib.bytesWorld_below _ _ _, ?_⟩
  intro _
  refine ⟨w.heap.size, 0, rfl, fun i u hi => ?_⟩
  have hi2 : i < s.size := (List.getElem?_eq_some_iff.1 hi).1
  rw [Nat.zero_add, Lib.bytesWorld_cell w _ s i hi2, List.getD_eq_getElem?_getD, hi]
  rfl

set_option maxHeartbeats 1600000 in
theorem head_any {w : World} (s : ByteArray) (h : nameOk s = true) :
    Calls Try.prog 19 #[.string s] w (FoPost w (headF s.data.toList)) := by
  have hs := (nameOk_len h).2
  have HU := Lib.hid (i64_head hs)
  have HL : Hid (s.data.toList.length = s.size) := Lib.hid rfl
  obtain ⟨u, hu⟩ : ∃ u, u = UInt8.ofNat s.size := ⟨_, rfl⟩
  have HUU := Lib.hid hu
  rw [← hu] at HU
  clear hu
  have hlt := u.toNat_lt
  go_enter Try.func19, Try.ntmps19
  go_wp2_with fail
  obtain ⟨c, w2, hr, hb, hbs⟩ := bytes_of_str (w.alloc (.cells #[.int .u8 (s.size : Int)] 5)) s
  rw [hr]
  have hz : (w.alloc (.cells #[.int .u8 (s.size : Int)] 5)).heap.size = w.heap.size + 1 := by simp
  rw [hz] at hbs
  have hx : (s.size : Int) = (u.toNat : Int) := by
    have := HUU.out
    rw [this, UInt8.toNat_ofNat']; omega
  have hone : Bs (w.alloc (.cells #[.int .u8 (s.size : Int)] 5)) (some ⟨w.heap.size, 0, none⟩) [u] := Bs.one w _ _ rfl hx
  have hbel : Below w.heap.size w (w.alloc (.cells #[.int .u8 (s.size : Int)] 5)) := Below.alloc (Below.refl _ _) (Nat.le_refl _) _
  have HPT := Lib.hid (Pts.two w2 22 (n := 1) (c := 1) (k := s.size) (d := c) rfl rfl (hone.below hb) (fun h => by cases h) hbs (fun h => by cases h))
  have HB := Lib.hid (hbel.trans (hb.mono hbel.size))
  have HJ := Lib.hid (join_any HPT.out 2 2 rfl (by omega) (by have := HL.out; simp; omega))
  have HE : Hid ([[u], s.data.toList].flatten = headF s.data.toList) := Lib.hid (by rw [HUU.out]; unfold headF; rw [HL.out]; simp)
  rw [HE.out] at HJ
  clear hr hb hbs hone hbel hx
  go_wp2_with fail
  refine HJ.out.mono ?_
  rintro e w3 ⟨v, rfl, ho, hb3⟩
  have HB3 := Lib.hid (HB.out.trans ((below_call hb3).mono HB.out.size))
  have HO := Lib.hid ((own_call ho).le HB.out.size)
  clear ho hb3
  go_wp2
  go_ret
  exact FoPost.o HO.out (HB3.out)

theorem mostF_le (n : List UInt8) : mostF n ≤ 71 := by unfold mostF; split <;> omega
theorem mostF_yes {n : List UInt8} (h : nameL n = true) : mostF n = 71 - n.length := if_pos h
theorem mostF_no {n : List UInt8} (h : nameL n = false) : mostF n = 0 := if_neg (by rw [h]; decide)

set_option maxHeartbeats 1600000 in
theorem most_any {w : World} (s : ByteArray) (hs : s.size ≤ 9223372036854775807) :
    Calls Try.prog 12 #[.string s] w fun e w' => e = .returned (.int .i64 (mostF s.data.toList : Int)) ∧ Below w.heap.size w w' := by
  have HN := Lib.hid (fun w => name_any (w := w) s hs)
  cases hok : nameOk s
  · rw [hok] at HN
    have HM : Hid ((mostF s.data.toList : Int) = 0) := Lib.hid (by rw [mostF_no hok]; rfl)
    clear hok
    go_enter Try.func12, Try.ntmps12
    go_wp2_with fail
    refine (HN.out _).mono ?_; rintro e w1 ⟨rfl, rfl⟩
    go_wp2
    go_ret
    exact ⟨ret_int HM.out.symm, Below.refl _ _⟩
  · rw [hok] at HN
    have hs16 := (nameOk_len hok).2
    have hs1 := (nameOk_len hok).1
    have HH := Lib.hid (fun w => head_any (w := w) s hok)
    have hl : s.data.toList.length = s.size := rfl
    have hz : (headF s.data.toList).length = s.size + 1 := rfl
    have HM : Hid ((mostF s.data.toList : Int) = 72 - ((s.size : Int) + 1)) := Lib.hid (by rw [mostF_yes hok, hl]; omega)
    clear hok
    go_enter Try.func12, Try.ntmps12
    go_wp2_with fail
    refine (HN.out _).mono ?_; rintro e w1 ⟨rfl, rfl⟩
    go_wp2_with fail
    refine (HH.out _).mono ?_
    rintro e w2 ⟨v, rfl, ho, hb⟩
    obtain ⟨p, c, rfl, _, hc, _, _⟩ := ho.form hz.symm
    have HB := Lib.hid hb
    clear ho hb
    go_wp2
    go_ret
    exact ⟨ret_int (by rw [HM.out]; try (unfold wrap64; omega)), HB.out⟩

/-- What is wrong with a name and keys of its tree. -/
def wrongF (n : List UInt8) (ls : List (List UInt8)) : Int := if nameL n = false then 2 else if ls.all (fun k => decide (k.length ≤ mostF n)) = true then 0 else 3
theorem wrongF_no {n : List UInt8} {ls : List (List UInt8)} (h : nameL n = false) : wrongF n ls = 2 := if_pos h
theorem wrongF_big {n : List UInt8} {ls : List (List UInt8)} {k : Nat} (h : nameL n = true) (hk : k < ls.length) (hb : ¬ ls[k].length ≤ mostF n) : wrongF n ls = 3 := by
  unfold wrongF
  rw [if_neg (by rw [h]; decide), if_neg]
  intro he
  have := List.all_eq_true.1 he _ (List.getElem_mem hk)
  exact hb (by simpa using this)
theorem wrongF_ok {n : List UInt8} {ls : List (List UInt8)} (h : nameL n = true) (hk : ∀ l ∈ ls, l.length ≤ mostF n) : wrongF n ls = 0 := by
  unfold wrongF
  rw [if_neg (by rw [h]; decide), if_pos]
  exact List.all_eq_true.2 fun l hl => by simpa using hk l hl
theorem wrongF_cases (n : List UInt8) (ls : List (List UInt8)) : (nameL n = false ∧ wrongF n ls = 2) ∨ (nameL n = true ∧ wrongF n ls = 3) ∨ (nameL n = true ∧ wrongF n ls = 0 ∧ ∀ l ∈ ls, l.length ≤ mostF n) := by
  cases h : nameL n
  · exact .inl ⟨rfl, wrongF_no h⟩
  · refine .inr ?_
    by_cases hx : ls.all (fun k => decide (k.length ≤ mostF n)) = true
    · have hk : ∀ l ∈ ls, l.length ≤ mostF n := fun l hl => by simpa using List.all_eq_true.1 hx l hl
      exact .inr ⟨rfl, wrongF_ok h hk, hk⟩
    · refine .inl ⟨rfl, ?_⟩
      unfold wrongF
      rw [if_neg (by rw [h]; decide), if_neg hx]

set_option maxHeartbeats 1600000 in
theorem fright_any {w : World} (s : ByteArray) (hs : s.size ≤ 9223372036854775807) {q : Option Addr} {ls : List (List UInt8)} (hp : Pts w q ls) (n c : Nat) (hn : n = ls.length) (hn2 : n ≤ 1000) :
    Calls Try.prog 17 #[.string s, .slice q n c] w fun e w' => e = .returned (.int .i64 (wrongF s.data.toList ls)) ∧ Below w.heap.size w w' := by
  obtain rfl := hn
  have HN := Lib.hid (fun w => name_any (w := w) s hs)
  cases hok : nameOk s
  · rw [hok] at HN
    have HM := Lib.hid (wrongF_no (ls := ls) hok)
    clear hok
    go_enter Try.func17, Try.ntmps17
    go_wp2_with fail
    refine (HN.out _).mono ?_; rintro e w1 ⟨rfl, rfl⟩
    go_wp2
    go_ret
    exact ⟨ret_int HM.out.symm, Below.refl _ _⟩
  · rw [hok] at HN
    have HMO := Lib.hid (fun w => most_any (w := w) s hs)
    have HOK : Hid (nameL s.data.toList = true) := Lib.hid hok
    obtain ⟨mo, hmo⟩ : ∃ mo, mo = mostF s.data.toList := ⟨_, rfl⟩
    have hmo71 : mo ≤ 71 := by rw [hmo]; exact mostF_le _
    rw [← hmo] at HMO
    have HMM := Lib.hid hmo
    have HP := Lib.hid hp
    clear hok hmo hp hs
    go_enter Try.func17, Try.ntmps17
    go_wp2_with fail
    refine (HN.out _).mono ?_; rintro e w1 ⟨rfl, rfl⟩
    go_wp2
    go_loopw [12] (fun i wr => ∃ k : Nat, i = .int .i64 k ∧ k ≤ ls.length ∧ (∀ j (hj : j < ls.length), j < k → ls[j].length ≤ mo) ∧ Below w.heap.size w wr) (fun i _ => ls.length - (intOf i).toNat)
    case atStart => exact ⟨0, rfl, by omega, fun j _ h => absurd h (by omega), Below.refl _ _⟩
    case round =>
      obtain ⟨k, rfl, hk, hall, hb⟩ := hrel
      have HB := Lib.hid hb
      have HA := Lib.hid hall
      clear hb hall
      by_cases hlt : k < ls.length
      · obtain ⟨b, o, rfl, hc⟩ := (HP.out.below HB.out).at (by omega)
        obtain ⟨p, cc, hcell, hbs, hp0⟩ := hc k hlt
        have HBIG := Lib.hid (fun h => wrongF_big (n := s.data.toList) (ls := ls) HOK.out hlt h)
        rw [← HMM.out] at HBIG
        obtain ⟨z, hz⟩ : ∃ z, z = ls[k].length := ⟨_, rfl⟩
        have HZ := Lib.hid hz
        rw [← hz] at hcell HBIG
        clear hbs hp0 hc hz
        by_cases hbig : z ≤ mo
        · have hng : ¬ (mo : Int) < (z : Int) := by omega
          go_wp2_with fail
          refine (HMO.out _).mono ?_; rintro e w2 ⟨rfl, hb2⟩
          have HB2 := Lib.hid (HB.out.trans (hb2.mono HB.out.size))
          clear hb2
          go_wp2
          go_roundw
          case rel => exact ⟨k + 1, by go_num, by omega, fun j hj h => by
            rcases Nat.lt_or_ge j k with h1 | h1
            · exact HA.out j hj h1
            · obtain rfl : j = k := by omega
              rw [← HZ.out]; exact hbig, HB2.out⟩
          case measure => simp [intOf]; omega
        · have hng : (mo : Int) < (z : Int) := by omega
          have HX := Lib.hid (HBIG.out hbig)
          go_wp2_with fail
          refine (HMO.out _).mono ?_; rintro e w2 ⟨rfl, hb2⟩
          have HB2 := Lib.hid (HB.out.trans (hb2.mono HB.out.size))
          clear hb2
          go_wp2
          go_ret
          exact ⟨ret_int HX.out.symm, HB2.out⟩
      · have HX : Hid (wrongF s.data.toList ls = 0) := Lib.hid (wrongF_ok HOK.out fun l hl => by
          obtain ⟨j, hj, rfl⟩ := List.getElem_of_mem hl
          rw [← HMM.out]
          exact HA.out j hj (by omega))
        go_wp2
        go_ret
        exact ⟨ret_int HX.out.symm, HB.out⟩

end Go.Proofs.Ytgfdihnpenipjaa
