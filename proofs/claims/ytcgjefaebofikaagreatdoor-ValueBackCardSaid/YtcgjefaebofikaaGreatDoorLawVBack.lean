/-
  The law ValueBack.
-/
import Derived.Test.YtcgjefaebofikaaGreatDoorVBkP
import Derived.Test.YtcgjefaebofikaaGreatDoorVRead
import Derived.Test.YtcgjefaebofikaaGreatDoorVRdE
import Derived.Test.YtcgjefaebofikaaGreatDoorVSame
import Derived.Test.YtcgjefaebofikaaGreatDoorVRefW
import Derived.Test.YtcgjefaebofikaaGreatDoorVShort
import Derived.Deep.CutRange
import Derived.Deep.CutBlock
set_option linter.unusedVariables false
set_option linter.unusedSimpArgs false
set_option maxRecDepth 100000
namespace Go.Proofs.YtcgjefaebofikaaGreatDoor
open Go.RowKit

theorem sameA_self (a : At) : sameA a a = true := by simp [sameA]
theorem sameV_self (a : At) (l : List At) : sameV a l a l = true := by
  unfold sameV
  rw [sameA_self]
  simp only [Bool.true_and, decide_true]
  rw [List.all_eq_true]
  intro p hp
  have : p.1 = p.2 := by
    induction l with
    | nil => simp at hp
    | cons x l ih =>
      simp only [List.zip_cons_cons, List.mem_cons] at hp
      rcases hp with rfl | hp
      · rfl
      · exact ih hp
  rw [this]
  exact sameA_self _

/-- What stands behind a literal in the law. -/
theorem behind_law {a : At} {l : List At} (hv : validV a l = true) {T : ByteArray} (hT : T.data.toList = prV a l) {t : ByteArray}
    (h : ∀ c r, t.data.toList = c :: r → ¬ isDig c ∧ ¬ (T = ⟨#[48]⟩ ∧ c = 102)) : a.k ≠ 6 → Behind a t.data.toList := by
  intro h6 h2
  refine ⟨fun c r hr => (h c r hr).1, fun h0 r hr => ?_⟩
  refine (h 102 r hr).2 ⟨?_, rfl⟩
  apply ByteArray.ext
  apply Array.ext'
  rw [hT]
  unfold prV
  rw [if_pos hv, if_neg h6]
  unfold prAt prA
  rw [if_neg (by omega), if_neg (by omega), if_pos h2, h0]
  unfold Lib.itoa
  rw [if_neg (by decide), show (0 : Int).toNat = 0 from rfl, decD_small (by decide)]
  rfl
theorem behind_blank (a : At) (m : List UInt8) : Behind a (32 :: m) := by
  intro _
  refine ⟨fun c r h => ?_, fun _ r h => ?_⟩
  · obtain ⟨rfl, _⟩ := List.cons.inj h
    unfold isDig
    decide
  · obtain ⟨h1, _⟩ := List.cons.inj h
    exact absurd h1 (by decide)

theorem rr_u8' {c d : UInt8} (h : c ≠ d) : ¬ (c.toNat : Int) = (d.toNat : Int) := fun e => h (UInt8.toNat_inj.1 (by omega))
theorem prV_len {a : At} {l : List At} (hv : validV a l = true) (hok : a.Ok) (hl : ∀ x ∈ l, x.Ok) : (prV a l).length ≤ 20002 := by
  unfold prV
  rw [if_pos hv]
  split
  · rename_i h6
    obtain ⟨h16, hall⟩ := valid_of_list hv h6
    have h1 := join_len [44, 32] 1100 (l.map prAt) (fun x hx => by
      obtain ⟨b, hb, rfl⟩ := List.mem_map.1 hx
      exact prAt_len (hl b hb) (hall b hb))
    have h2 : (l.map prAt).length ≤ 16 := by rw [List.length_map]; omega
    have h3 : ([44, 32] : List UInt8).length = 2 := rfl
    have h4 : (l.map prAt).length * (1100 + ([44, 32] : List UInt8).length) ≤ 16 * 1102 := Nat.mul_le_mul h2 (by omega)
    unfold prL
    simp only [List.length_append, List.length_singleton]
    omega
  · rename_i h6
    have := prAt_len hok (valid_of_one hv h6)
    omega

theorem zeroVa (w : World) : VaOk w ⟨0, 0, 0, ⟨#[]⟩⟩ none 0 0 [] := ⟨⟨by decide, by decide, by decide, by decide, by decide, by decide⟩, rfl, Nat.le_refl _, by omega, fun h => absurd rfl h, by simp⟩

set_option maxHeartbeats 8000000 in
theorem lawVBack_any {w : World} (hW : RW w) {k n : Int} {f : Nat} {s : ByteArray} {q : Option Addr} {m c : Nat} {l : List At} (h : VaOk w ⟨k, n, f, s⟩ q m c l) (t : ByteArray) :
    Calls Tryz.prog 3 #[.agg #[.int .i64 k, .int .i64 n, .float .f64 f, .string s, .slice q m c], .string t] w fun e w' => e = .returned (.bool true) ∧ Below w.heap.size w w' := by
  have hst := store_flt
  obtain ⟨W, hW0⟩ : ∃ W, W = w.alloc (.cells #[.int .i64 k, .int .i64 n, .float .f64 f, .string s, .slice q m c] 27) := ⟨_, rfl⟩
  have HB0 : Hid (Below w.heap.size w W) := Lib.hid (by rw [hW0]; exact (Below.refl _ _).alloc (Nat.le_refl _) _)
  have HX : Hid (∀ w', Below W.heap.size W w' → ∀ i, w'.cell? ⟨w.heap.size, i, none⟩ = (#[.int .i64 k, .int .i64 n, .float .f64 f, .string s, .slice q m c] : Array Value)[i]?) := Lib.hid fun w' hb i => by rw [hW0] at hb; exact box_cell hb i
  have HVA : Hid (∀ w', Below w.heap.size w w' → VaOk w' ⟨k, n, f, s⟩ q m c l) := Lib.hid fun w' hb => h.below hb
  have HRW : Hid (∀ w', Below w.heap.size w w' → RW w') := Lib.hid fun w' hb => hW.below hb
  have HOK : Hid ((⟨k, n, f, s⟩ : At).Ok ∧ ∀ x ∈ l, x.Ok) := Lib.hid ⟨h.ok, h.hok⟩
  have HSH := Lib.hid (short_any (HVA.out W HB0.out))
  have HXW := HX.out W (Below.refl _ _)
  clear h hW
  go_enter Tryz.func3, Tryz.ntmps3
  go_wp2_with fail
  rw [← hW0]
  replace hW0 := Lib.hid hW0
  refine HSH.out.mono ?_
  rintro e w1 ⟨b, rfl, hb1⟩
  have HB1 := Lib.hid (HB0.out.trans (hb1.mono HB0.out.size))
  have HBW1 := Lib.hid hb1
  have HX1 := HX.out w1 hb1
  clear hb1 HSH HXW
  cases b
  · go_wp2
    go_ret
    exact ⟨rfl, HB1.out⟩
  by_cases hlong : (1000 : Int) < (t.size : Int)
  · go_wp2
    go_ret
    exact ⟨rfl, HB1.out⟩
  have HTS : Hid (t.size ≤ 1000) := Lib.hid (by omega)
  have HPR : Hid (∀ w', Below w.heap.size w w' → Calls Tryz.prog 5 #[.agg #[.int .i64 k, .int .i64 n, .float .f64 f, .string s, .slice q m c]] w' (PrPost w' (prV ⟨k, n, f, s⟩ l))) := Lib.hid fun w' hb => print_any (HRW.out w' hb).pw (HVA.out w' hb)
  have HVL : Hid (∀ w', Below w.heap.size w w' → Calls Tryz.prog 6 #[.agg #[.int .i64 k, .int .i64 n, .float .f64 f, .string s, .slice q m c]] w' fun e w'' => e = .returned (.bool (validV ⟨k, n, f, s⟩ l)) ∧ Below w'.heap.size w' w'') := Lib.hid fun w' hb => refValid_any (HVA.out w' hb)
  have HP0 : Hid (∀ w', Below w.heap.size w w' → Calls Tryz.prog 5 #[.agg #[.int .i64 0, .int .i64 0, .float .f64 0, .string ⟨#[]⟩, .slice none 0 0]] w' (PrPost w' [110, 117, 108, 108])) := Lib.hid fun w' hb => by
    have h := print_any (HRW.out w' hb).pw (zeroVa w')
    have e : prV ⟨0, 0, 0, ⟨#[]⟩⟩ [] = [110, 117, 108, 108] := by
      have hv : validV ⟨0, 0, 0, ⟨#[]⟩⟩ [] = true := by simp [validV, At.valid, validA, ByteArray.toList_eq]
      unfold prV
      rw [if_pos hv, if_neg (by decide)]
      rfl
    rw [e] at h
    exact h
  go_wp2_with fail
  refine (HPR.out _ HB1.out).mono ?_
  rintro e w2 ⟨⟨T, rfl, hT⟩, hb2⟩
  have HTT := Lib.hid hT
  have HB2 := Lib.hid (HB1.out.trans (hb2.mono HB1.out.size))
  have HBW2 := Lib.hid (HBW1.out.trans (hb2.mono HBW1.out.size))
  have HX2 := HX.out w2 (HBW1.out.trans (hb2.mono HBW1.out.size))
  clear hb2 hT HX1
  go_wp2_with fail
  refine (HVL.out _ HB2.out).mono ?_
  rintro e w3 ⟨rfl, hb3⟩
  have HB3 := Lib.hid (HB2.out.trans (hb3.mono HB2.out.size))
  have HBW3 := Lib.hid (HBW2.out.trans (hb3.mono HBW2.out.size))
  have HX3 := HX.out w3 (HBW2.out.trans (hb3.mono HBW2.out.size))
  clear hb3 HX2
  cases hv : validV ⟨k, n, f, s⟩ l
  · have hTe : T = ⟨#[]⟩ := by
      apply ByteArray.ext
      apply Array.ext'
      rw [HTT.out]
      unfold prV
      rw [hv]
      rfl
    subst hTe
    clear hv
    go_wp2_with fail
    refine (HP0.out _ HB3.out).mono ?_
    rintro e w4 ⟨⟨U, rfl, hU⟩, hb4⟩
    have hUe : U = ⟨#[110, 117, 108, 108]⟩ := by
      apply ByteArray.ext
      apply Array.ext'
      rw [hU]
    subst hUe
    have HB4 := Lib.hid (HB3.out.trans (hb4.mono HB3.out.size))
    clear hU hb4
    go_wp2
    go_ret
    exact ⟨by simp [ByteArray.toList_eq], HB4.out⟩
  · have HV := Lib.hid hv
    have hpl := prV_len hv HOK.out.1 HOK.out.2
    have htl : T.size ≤ 20002 := by rw [bytes_size, HTT.out]; exact hpl
    have hpos : 0 < T.size := by rw [bytes_size, HTT.out]; exact prV_ne hv
    have hpos2 : (0 : Int) < (T.size : Int) := by omega
    clear hv hpl
    by_cases ht0 : t.size = 0
    · have hd : ¬ (0 : Int) < (t.size : Int) := by omega
      have hmb : (⟨k, n, f, s⟩ : At).k ≠ 6 → Behind ⟨k, n, f, s⟩ t.data.toList := by
        exact behind_law HV.out HTT.out (fun c r hr => by have h1 := congrArg List.length hr; have h2 : t.data.toList.length = t.size := rfl; rw [h2, ht0] at h1; simp at h1)
      have hmz : t.size ≤ 1001 := by have := HTS.out; omega
      go_upto_region 8 with fail
      have HMB := Lib.hid hmb
      have hms : t.size ≤ 1001 := hmz
      have hval : valueR (T ++ t).data.toList = .ok ((⟨k, n, f, s⟩, l), t.data.toList) := by
        rw [bytes_app, HTT.out]
        exact valueR_put HV.out HOK.out.1 HOK.out.2 HMB.out
      have hsz : (T ++ t).size = T.size + t.size := by simp
      have R := read_any (HRW.out w3 HB3.out) (T ++ t) (by omega)
      rw [hval] at R
      have hml : t.data.toList.length = t.size := rfl
      have hcast : ((T ++ t).size : Int) - (t.data.toList.length : Int) = (T.size : Int) := by rw [hml, hsz]; omega
      have R' : Calls Tryz.prog 7 #[.string (T ++ t)] w3 fun e w' => (∃ v, e = .returned (.tuple #[.agg #[.int .i64 k, .int .i64 n, .float .f64 f, .string s, v], .int .i64 (T.size : Int), .int .i64 0]) ∧ AOwn w' w3.heap.size v l) ∧ Below w3.heap.size w3 w' := by
        refine R.mono ?_
        rintro e w' ⟨⟨v, h1, h2⟩, h3⟩
        rw [hcast] at h1
        exact ⟨⟨v, h1, h2⟩, h3⟩
      replace R' := Lib.hid R'
      clear R hval hsz hml hcast hmb hmz
      go_wp2_with fail
      refine R'.out.mono ?_
      rintro e w4 ⟨⟨v, rfl, ho⟩, hb4⟩
      obtain ⟨q2, hq2⟩ : ∃ q2, q2 = l.length := ⟨_, rfl⟩
      obtain ⟨p2, c2, rfl, o1, o2, o3⟩ := ho.form hq2
      have HVA4 : Hid (VaOk w4 ⟨k, n, f, s⟩ p2 q2 c2 l) := Lib.hid ⟨HOK.out.1, hq2, o1, o2, o3, HOK.out.2⟩
      have HB4 := Lib.hid (HB3.out.trans (hb4.mono HB3.out.size))
      have HBW4 := Lib.hid (HBW3.out.trans (hb4.mono HBW3.out.size))
      obtain ⟨W4, hW4⟩ : ∃ W4, W4 = w4.alloc (.cells #[.int .i64 k, .int .i64 n, .float .f64 f, .string s, .slice p2 q2 c2] 27) := ⟨_, rfl⟩
      have HBA : Hid (Below w4.heap.size w4 W4) := Lib.hid (by rw [hW4]; exact (Below.refl _ _).alloc (Nat.le_refl _) _)
      have HX4 := HX.out w4 HBW4.out
      have hlt4 : w.heap.size < w4.heap.size := World.block_lt_of_cell? _ _ (HX4 0)
      have hne4 : ¬ w4.heap.size = w.heap.size := by omega
      have hne5 : ¬ w.heap.size = w4.heap.size := by omega
      have HSM : Hid (Calls Tryz.prog 8 #[.agg #[.int .i64 k, .int .i64 n, .float .f64 f, .string s, .slice q m c], .agg #[.int .i64 k, .int .i64 n, .float .f64 f, .string s, .slice p2 q2 c2]] W4 fun e w' => e = .returned (.bool true) ∧ Below W4.heap.size W4 w') := Lib.hid (by
        have h := same_any (HVA.out W4 (HB4.out.trans (HBA.out.mono HB4.out.size))) (HVA4.out.below HBA.out)
        rw [sameV_self] at h
        exact h)
      have HB5 := Lib.hid (HB4.out.trans (HBA.out.mono HB4.out.size))
      clear ho hb4 hq2 o1 o2 o3 HX3
      have x0 : w4.cell? ⟨w.heap.size, 0, none⟩ = some (.int .i64 k) := HX4 0
      have x1 : w4.cell? ⟨w.heap.size, 1, none⟩ = some (.int .i64 n) := HX4 1
      have x2 : w4.cell? ⟨w.heap.size, 2, none⟩ = some (.float .f64 f) := HX4 2
      have x3 : w4.cell? ⟨w.heap.size, 3, none⟩ = some (.string s) := HX4 3
      have x4 : w4.cell? ⟨w.heap.size, 4, none⟩ = some (.slice q m c) := HX4 4
      clear HX4
      go_wp2_with fail
      rw [← hW4]
      replace hW4 := Lib.hid hW4
      refine HSM.out.mono ?_
      rintro e w6 ⟨rfl, hb6⟩
      have HB6 := Lib.hid (HB5.out.trans (hb6.mono HB5.out.size))
      clear hb6
      go_wp2
      go_ret
      exact ⟨rfl, HB6.out⟩
    · have hd : (0 : Int) < (t.size : Int) := by omega
      have hd2 : 0 < t.size := by omega
      have hhead : ∀ c r, t.data.toList = c :: r → c = t[0] := fun c r hr => by
        have h1 : t.data.toList[0]? = some t[0] := List.getElem?_eq_getElem (by exact hd2)
        rw [hr] at h1
        exact Option.some.inj h1
      have h255 := t[0].toNat_lt
      by_cases hdg : isDig t[0]
      · have hg1 : (48 : Int) ≤ (t[0].toNat : Int) := by have := hdg.1; omega
        have hg2 : (t[0].toNat : Int) ≤ 57 := by have := hdg.2; omega
        clear hhead hdg
        obtain ⟨M, hM⟩ : ∃ M, M = (⟨#[32]⟩ : ByteArray) ++ t := ⟨_, rfl⟩
        have hmb : (⟨k, n, f, s⟩ : At).k ≠ 6 → Behind ⟨k, n, f, s⟩ M.data.toList := fun _ => by
          rw [hM, bytes_app]
          exact behind_blank _ _
        have hmz : M.size ≤ 1001 := by rw [hM]; simp; have := HTS.out; show 1 + t.size ≤ 1001; omega
        have hts := HTS.out
        go_upto_region 8 with fail
        rw [← hM]
        replace hM := Lib.hid hM
        have HMB := Lib.hid hmb
        have hms : M.size ≤ 1001 := hmz
        have hval : valueR (T ++ M).data.toList = .ok ((⟨k, n, f, s⟩, l), M.data.toList) := by
          rw [bytes_app, HTT.out]
          exact valueR_put HV.out HOK.out.1 HOK.out.2 HMB.out
        have hsz : (T ++ M).size = T.size + M.size := by simp
        have R := read_any (HRW.out w3 HB3.out) (T ++ M) (by omega)
        rw [hval] at R
        have hml : M.data.toList.length = M.size := rfl
        have hcast : ((T ++ M).size : Int) - (M.data.toList.length : Int) = (T.size : Int) := by rw [hml, hsz]; omega
        have R' : Calls Tryz.prog 7 #[.string (T ++ M)] w3 fun e w' => (∃ v, e = .returned (.tuple #[.agg #[.int .i64 k, .int .i64 n, .float .f64 f, .string s, v], .int .i64 (T.size : Int), .int .i64 0]) ∧ AOwn w' w3.heap.size v l) ∧ Below w3.heap.size w3 w' := by
          refine R.mono ?_
          rintro e w' ⟨⟨v, h1, h2⟩, h3⟩
          rw [hcast] at h1
          exact ⟨⟨v, h1, h2⟩, h3⟩
        replace R' := Lib.hid R'
        clear R hval hsz hml hcast hmb hmz
        go_wp2_with fail
        refine R'.out.mono ?_
        rintro e w4 ⟨⟨v, rfl, ho⟩, hb4⟩
        obtain ⟨q2, hq2⟩ : ∃ q2, q2 = l.length := ⟨_, rfl⟩
        obtain ⟨p2, c2, rfl, o1, o2, o3⟩ := ho.form hq2
        have HVA4 : Hid (VaOk w4 ⟨k, n, f, s⟩ p2 q2 c2 l) := Lib.hid ⟨HOK.out.1, hq2, o1, o2, o3, HOK.out.2⟩
        have HB4 := Lib.hid (HB3.out.trans (hb4.mono HB3.out.size))
        have HBW4 := Lib.hid (HBW3.out.trans (hb4.mono HBW3.out.size))
        obtain ⟨W4, hW4⟩ : ∃ W4, W4 = w4.alloc (.cells #[.int .i64 k, .int .i64 n, .float .f64 f, .string s, .slice p2 q2 c2] 27) := ⟨_, rfl⟩
        have HBA : Hid (Below w4.heap.size w4 W4) := Lib.hid (by rw [hW4]; exact (Below.refl _ _).alloc (Nat.le_refl _) _)
        have HX4 := HX.out w4 HBW4.out
        have hlt4 : w.heap.size < w4.heap.size := World.block_lt_of_cell? _ _ (HX4 0)
        have hne4 : ¬ w4.heap.size = w.heap.size := by omega
        have hne5 : ¬ w.heap.size = w4.heap.size := by omega
        have HSM : Hid (Calls Tryz.prog 8 #[.agg #[.int .i64 k, .int .i64 n, .float .f64 f, .string s, .slice q m c], .agg #[.int .i64 k, .int .i64 n, .float .f64 f, .string s, .slice p2 q2 c2]] W4 fun e w' => e = .returned (.bool true) ∧ Below W4.heap.size W4 w') := Lib.hid (by
          have h := same_any (HVA.out W4 (HB4.out.trans (HBA.out.mono HB4.out.size))) (HVA4.out.below HBA.out)
          rw [sameV_self] at h
          exact h)
        have HB5 := Lib.hid (HB4.out.trans (HBA.out.mono HB4.out.size))
        clear ho hb4 hq2 o1 o2 o3 HX3
        have x0 : w4.cell? ⟨w.heap.size, 0, none⟩ = some (.int .i64 k) := HX4 0
        have x1 : w4.cell? ⟨w.heap.size, 1, none⟩ = some (.int .i64 n) := HX4 1
        have x2 : w4.cell? ⟨w.heap.size, 2, none⟩ = some (.float .f64 f) := HX4 2
        have x3 : w4.cell? ⟨w.heap.size, 3, none⟩ = some (.string s) := HX4 3
        have x4 : w4.cell? ⟨w.heap.size, 4, none⟩ = some (.slice q m c) := HX4 4
        clear HX4
        go_wp2_with fail
        rw [← hW4]
        replace hW4 := Lib.hid hW4
        refine HSM.out.mono ?_
        rintro e w6 ⟨rfl, hb6⟩
        have HB6 := Lib.hid (HB5.out.trans (hb6.mono HB5.out.size))
        clear hb6
        go_wp2
        go_ret
        exact ⟨rfl, HB6.out⟩
      · have hg : ¬ (48 : Int) ≤ (t[0].toNat : Int) ∨ ((48 : Int) ≤ (t[0].toNat : Int) ∧ ¬ (t[0].toNat : Int) ≤ 57) := by unfold isDig at hdg; omega
        by_cases hT0 : T = ⟨#[48]⟩
        · subst hT0
          by_cases h102 : t[0] = 102
          · have q102 : (t[0].toNat : Int) = 102 := by rw [h102]; rfl
            clear hhead hdg h102 hg
            obtain ⟨M, hM⟩ : ∃ M, M = (⟨#[32]⟩ : ByteArray) ++ t := ⟨_, rfl⟩
            have hmb : (⟨k, n, f, s⟩ : At).k ≠ 6 → Behind ⟨k, n, f, s⟩ M.data.toList := fun _ => by
              rw [hM, bytes_app]
              exact behind_blank _ _
            have hmz : M.size ≤ 1001 := by rw [hM]; simp; have := HTS.out; show 1 + t.size ≤ 1001; omega
            have hts := HTS.out
            go_upto_region 8 with fail
            rw [← hM]
            replace hM := Lib.hid hM
            have HMB := Lib.hid hmb
            have hms : M.size ≤ 1001 := hmz
            have hval : valueR ((⟨#[48]⟩ : ByteArray) ++ M).data.toList = .ok ((⟨k, n, f, s⟩, l), M.data.toList) := by
              rw [bytes_app, HTT.out]
              exact valueR_put HV.out HOK.out.1 HOK.out.2 HMB.out
            have hsz : ((⟨#[48]⟩ : ByteArray) ++ M).size = (⟨#[48]⟩ : ByteArray).size + M.size := by simp
            have R := read_any (HRW.out w3 HB3.out) ((⟨#[48]⟩ : ByteArray) ++ M) (by omega)
            rw [hval] at R
            have hml : M.data.toList.length = M.size := rfl
            have hcast : (((⟨#[48]⟩ : ByteArray) ++ M).size : Int) - (M.data.toList.length : Int) = ((⟨#[48]⟩ : ByteArray).size : Int) := by rw [hml, hsz]; omega
            have R' : Calls Tryz.prog 7 #[.string ((⟨#[48]⟩ : ByteArray) ++ M)] w3 fun e w' => (∃ v, e = .returned (.tuple #[.agg #[.int .i64 k, .int .i64 n, .float .f64 f, .string s, v], .int .i64 ((⟨#[48]⟩ : ByteArray).size : Int), .int .i64 0]) ∧ AOwn w' w3.heap.size v l) ∧ Below w3.heap.size w3 w' := by
              refine R.mono ?_
              rintro e w' ⟨⟨v, h1, h2⟩, h3⟩
              rw [hcast] at h1
              exact ⟨⟨v, h1, h2⟩, h3⟩
            replace R' := Lib.hid R'
            clear R hval hsz hml hcast hmb hmz
            go_wp2_with fail
            refine R'.out.mono ?_
            rintro e w4 ⟨⟨v, rfl, ho⟩, hb4⟩
            obtain ⟨q2, hq2⟩ : ∃ q2, q2 = l.length := ⟨_, rfl⟩
            obtain ⟨p2, c2, rfl, o1, o2, o3⟩ := ho.form hq2
            have HVA4 : Hid (VaOk w4 ⟨k, n, f, s⟩ p2 q2 c2 l) := Lib.hid ⟨HOK.out.1, hq2, o1, o2, o3, HOK.out.2⟩
            have HB4 := Lib.hid (HB3.out.trans (hb4.mono HB3.out.size))
            have HBW4 := Lib.hid (HBW3.out.trans (hb4.mono HBW3.out.size))
            obtain ⟨W4, hW4⟩ : ∃ W4, W4 = w4.alloc (.cells #[.int .i64 k, .int .i64 n, .float .f64 f, .string s, .slice p2 q2 c2] 27) := ⟨_, rfl⟩
            have HBA : Hid (Below w4.heap.size w4 W4) := Lib.hid (by rw [hW4]; exact (Below.refl _ _).alloc (Nat.le_refl _) _)
            have HX4 := HX.out w4 HBW4.out
            have hlt4 : w.heap.size < w4.heap.size := World.block_lt_of_cell? _ _ (HX4 0)
            have hne4 : ¬ w4.heap.size = w.heap.size := by omega
            have hne5 : ¬ w.heap.size = w4.heap.size := by omega
            have HSM : Hid (Calls Tryz.prog 8 #[.agg #[.int .i64 k, .int .i64 n, .float .f64 f, .string s, .slice q m c], .agg #[.int .i64 k, .int .i64 n, .float .f64 f, .string s, .slice p2 q2 c2]] W4 fun e w' => e = .returned (.bool true) ∧ Below W4.heap.size W4 w') := Lib.hid (by
              have h := same_any (HVA.out W4 (HB4.out.trans (HBA.out.mono HB4.out.size))) (HVA4.out.below HBA.out)
              rw [sameV_self] at h
              exact h)
            have HB5 := Lib.hid (HB4.out.trans (HBA.out.mono HB4.out.size))
            clear ho hb4 hq2 o1 o2 o3 HX3
            have x0 : w4.cell? ⟨w.heap.size, 0, none⟩ = some (.int .i64 k) := HX4 0
            have x1 : w4.cell? ⟨w.heap.size, 1, none⟩ = some (.int .i64 n) := HX4 1
            have x2 : w4.cell? ⟨w.heap.size, 2, none⟩ = some (.float .f64 f) := HX4 2
            have x3 : w4.cell? ⟨w.heap.size, 3, none⟩ = some (.string s) := HX4 3
            have x4 : w4.cell? ⟨w.heap.size, 4, none⟩ = some (.slice q m c) := HX4 4
            clear HX4
            go_wp2_with fail
            rw [← hW4]
            replace hW4 := Lib.hid hW4
            refine HSM.out.mono ?_
            rintro e w6 ⟨rfl, hb6⟩
            have HB6 := Lib.hid (HB5.out.trans (hb6.mono HB5.out.size))
            clear hb6
            go_wp2
            go_ret
            exact ⟨rfl, HB6.out⟩
          · have q102 : ¬ (t[0].toNat : Int) = 102 := rr_u8' h102
            have b102 : ((t[0].toNat : Int) == 102) = false := by rw [beq_eq_false_iff_ne]; exact q102
            rcases hg with hg | ⟨hg, hgb⟩
            · have hg0 := hg
              have hmb : (⟨k, n, f, s⟩ : At).k ≠ 6 → Behind ⟨k, n, f, s⟩ t.data.toList := by
                exact behind_law HV.out HTT.out (fun c r hr => ⟨by rw [hhead c r hr]; exact hdg, fun h => h102 (by rw [← hhead c r hr]; exact h.2)⟩)
              have hmz : t.size ≤ 1001 := by have := HTS.out; omega
              go_upto_region 8 with fail
              have HMB := Lib.hid hmb
              have hms : t.size ≤ 1001 := hmz
              have hval : valueR ((⟨#[48]⟩ : ByteArray) ++ t).data.toList = .ok ((⟨k, n, f, s⟩, l), t.data.toList) := by
                rw [bytes_app, HTT.out]
                exact valueR_put HV.out HOK.out.1 HOK.out.2 HMB.out
              have hsz : ((⟨#[48]⟩ : ByteArray) ++ t).size = (⟨#[48]⟩ : ByteArray).size + t.size := by simp
              have R := read_any (HRW.out w3 HB3.out) ((⟨#[48]⟩ : ByteArray) ++ t) (by omega)
              rw [hval] at R
              have hml : t.data.toList.length = t.size := rfl
              have hcast : (((⟨#[48]⟩ : ByteArray) ++ t).size : Int) - (t.data.toList.length : Int) = ((⟨#[48]⟩ : ByteArray).size : Int) := by rw [hml, hsz]; omega
              have R' : Calls Tryz.prog 7 #[.string ((⟨#[48]⟩ : ByteArray) ++ t)] w3 fun e w' => (∃ v, e = .returned (.tuple #[.agg #[.int .i64 k, .int .i64 n, .float .f64 f, .string s, v], .int .i64 ((⟨#[48]⟩ : ByteArray).size : Int), .int .i64 0]) ∧ AOwn w' w3.heap.size v l) ∧ Below w3.heap.size w3 w' := by
                refine R.mono ?_
                rintro e w' ⟨⟨v, h1, h2⟩, h3⟩
                rw [hcast] at h1
                exact ⟨⟨v, h1, h2⟩, h3⟩
              replace R' := Lib.hid R'
              clear R hval hsz hml hcast hmb hmz
              go_wp2_with fail
              refine R'.out.mono ?_
              rintro e w4 ⟨⟨v, rfl, ho⟩, hb4⟩
              obtain ⟨q2, hq2⟩ : ∃ q2, q2 = l.length := ⟨_, rfl⟩
              obtain ⟨p2, c2, rfl, o1, o2, o3⟩ := ho.form hq2
              have HVA4 : Hid (VaOk w4 ⟨k, n, f, s⟩ p2 q2 c2 l) := Lib.hid ⟨HOK.out.1, hq2, o1, o2, o3, HOK.out.2⟩
              have HB4 := Lib.hid (HB3.out.trans (hb4.mono HB3.out.size))
              have HBW4 := Lib.hid (HBW3.out.trans (hb4.mono HBW3.out.size))
              obtain ⟨W4, hW4⟩ : ∃ W4, W4 = w4.alloc (.cells #[.int .i64 k, .int .i64 n, .float .f64 f, .string s, .slice p2 q2 c2] 27) := ⟨_, rfl⟩
              have HBA : Hid (Below w4.heap.size w4 W4) := Lib.hid (by rw [hW4]; exact (Below.refl _ _).alloc (Nat.le_refl _) _)
              have HX4 := HX.out w4 HBW4.out
              have hlt4 : w.heap.size < w4.heap.size := World.block_lt_of_cell? _ _ (HX4 0)
              have hne4 : ¬ w4.heap.size = w.heap.size := by omega
              have hne5 : ¬ w.heap.size = w4.heap.size := by omega
              have HSM : Hid (Calls Tryz.prog 8 #[.agg #[.int .i64 k, .int .i64 n, .float .f64 f, .string s, .slice q m c], .agg #[.int .i64 k, .int .i64 n, .float .f64 f, .string s, .slice p2 q2 c2]] W4 fun e w' => e = .returned (.bool true) ∧ Below W4.heap.size W4 w') := Lib.hid (by
                have h := same_any (HVA.out W4 (HB4.out.trans (HBA.out.mono HB4.out.size))) (HVA4.out.below HBA.out)
                rw [sameV_self] at h
                exact h)
              have HB5 := Lib.hid (HB4.out.trans (HBA.out.mono HB4.out.size))
              clear ho hb4 hq2 o1 o2 o3 HX3
              have x0 : w4.cell? ⟨w.heap.size, 0, none⟩ = some (.int .i64 k) := HX4 0
              have x1 : w4.cell? ⟨w.heap.size, 1, none⟩ = some (.int .i64 n) := HX4 1
              have x2 : w4.cell? ⟨w.heap.size, 2, none⟩ = some (.float .f64 f) := HX4 2
              have x3 : w4.cell? ⟨w.heap.size, 3, none⟩ = some (.string s) := HX4 3
              have x4 : w4.cell? ⟨w.heap.size, 4, none⟩ = some (.slice q m c) := HX4 4
              clear HX4
              go_wp2_with fail
              rw [← hW4]
              replace hW4 := Lib.hid hW4
              refine HSM.out.mono ?_
              rintro e w6 ⟨rfl, hb6⟩
              have HB6 := Lib.hid (HB5.out.trans (hb6.mono HB5.out.size))
              clear hb6
              go_wp2
              go_ret
              exact ⟨rfl, HB6.out⟩
            · have hg0 := hg
              have bgb : decide ((t[0].toNat : Int) ≤ 57) = false := decide_eq_false hgb
              have hmb : (⟨k, n, f, s⟩ : At).k ≠ 6 → Behind ⟨k, n, f, s⟩ t.data.toList := by
                exact behind_law HV.out HTT.out (fun c r hr => ⟨by rw [hhead c r hr]; exact hdg, fun h => h102 (by rw [← hhead c r hr]; exact h.2)⟩)
              have hmz : t.size ≤ 1001 := by have := HTS.out; omega
              go_upto_region 8 with fail
              have HMB := Lib.hid hmb
              have hms : t.size ≤ 1001 := hmz
              have hval : valueR ((⟨#[48]⟩ : ByteArray) ++ t).data.toList = .ok ((⟨k, n, f, s⟩, l), t.data.toList) := by
                rw [bytes_app, HTT.out]
                exact valueR_put HV.out HOK.out.1 HOK.out.2 HMB.out
              have hsz : ((⟨#[48]⟩ : ByteArray) ++ t).size = (⟨#[48]⟩ : ByteArray).size + t.size := by simp
              have R := read_any (HRW.out w3 HB3.out) ((⟨#[48]⟩ : ByteArray) ++ t) (by omega)
              rw [hval] at R
              have hml : t.data.toList.length = t.size := rfl
              have hcast : (((⟨#[48]⟩ : ByteArray) ++ t).size : Int) - (t.data.toList.length : Int) = ((⟨#[48]⟩ : ByteArray).size : Int) := by rw [hml, hsz]; omega
              have R' : Calls Tryz.prog 7 #[.string ((⟨#[48]⟩ : ByteArray) ++ t)] w3 fun e w' => (∃ v, e = .returned (.tuple #[.agg #[.int .i64 k, .int .i64 n, .float .f64 f, .string s, v], .int .i64 ((⟨#[48]⟩ : ByteArray).size : Int), .int .i64 0]) ∧ AOwn w' w3.heap.size v l) ∧ Below w3.heap.size w3 w' := by
                refine R.mono ?_
                rintro e w' ⟨⟨v, h1, h2⟩, h3⟩
                rw [hcast] at h1
                exact ⟨⟨v, h1, h2⟩, h3⟩
              replace R' := Lib.hid R'
              clear R hval hsz hml hcast hmb hmz
              go_wp2_with fail
              refine R'.out.mono ?_
              rintro e w4 ⟨⟨v, rfl, ho⟩, hb4⟩
              obtain ⟨q2, hq2⟩ : ∃ q2, q2 = l.length := ⟨_, rfl⟩
              obtain ⟨p2, c2, rfl, o1, o2, o3⟩ := ho.form hq2
              have HVA4 : Hid (VaOk w4 ⟨k, n, f, s⟩ p2 q2 c2 l) := Lib.hid ⟨HOK.out.1, hq2, o1, o2, o3, HOK.out.2⟩
              have HB4 := Lib.hid (HB3.out.trans (hb4.mono HB3.out.size))
              have HBW4 := Lib.hid (HBW3.out.trans (hb4.mono HBW3.out.size))
              obtain ⟨W4, hW4⟩ : ∃ W4, W4 = w4.alloc (.cells #[.int .i64 k, .int .i64 n, .float .f64 f, .string s, .slice p2 q2 c2] 27) := ⟨_, rfl⟩
              have HBA : Hid (Below w4.heap.size w4 W4) := Lib.hid (by rw [hW4]; exact (Below.refl _ _).alloc (Nat.le_refl _) _)
              have HX4 := HX.out w4 HBW4.out
              have hlt4 : w.heap.size < w4.heap.size := World.block_lt_of_cell? _ _ (HX4 0)
              have hne4 : ¬ w4.heap.size = w.heap.size := by omega
              have hne5 : ¬ w.heap.size = w4.heap.size := by omega
              have HSM : Hid (Calls Tryz.prog 8 #[.agg #[.int .i64 k, .int .i64 n, .float .f64 f, .string s, .slice q m c], .agg #[.int .i64 k, .int .i64 n, .float .f64 f, .string s, .slice p2 q2 c2]] W4 fun e w' => e = .returned (.bool true) ∧ Below W4.heap.size W4 w') := Lib.hid (by
                have h := same_any (HVA.out W4 (HB4.out.trans (HBA.out.mono HB4.out.size))) (HVA4.out.below HBA.out)
                rw [sameV_self] at h
                exact h)
              have HB5 := Lib.hid (HB4.out.trans (HBA.out.mono HB4.out.size))
              clear ho hb4 hq2 o1 o2 o3 HX3
              have x0 : w4.cell? ⟨w.heap.size, 0, none⟩ = some (.int .i64 k) := HX4 0
              have x1 : w4.cell? ⟨w.heap.size, 1, none⟩ = some (.int .i64 n) := HX4 1
              have x2 : w4.cell? ⟨w.heap.size, 2, none⟩ = some (.float .f64 f) := HX4 2
              have x3 : w4.cell? ⟨w.heap.size, 3, none⟩ = some (.string s) := HX4 3
              have x4 : w4.cell? ⟨w.heap.size, 4, none⟩ = some (.slice q m c) := HX4 4
              clear HX4
              go_wp2_with fail
              rw [← hW4]
              replace hW4 := Lib.hid hW4
              refine HSM.out.mono ?_
              rintro e w6 ⟨rfl, hb6⟩
              have HB6 := Lib.hid (HB5.out.trans (hb6.mono HB5.out.size))
              clear hb6
              go_wp2
              go_ret
              exact ⟨rfl, HB6.out⟩
        · have hzn : ¬ T.toList = [48] := by
            intro e
            rw [ByteArray.toList_eq] at e
            exact hT0 (ByteArray.ext (Array.ext' e))
          have hz : (T.toList == [48]) = false := by rw [beq_eq_false_iff_ne]; exact hzn
          rcases hg with hg | ⟨hg, hgb⟩
          · have hg0 := hg
            have hmb : (⟨k, n, f, s⟩ : At).k ≠ 6 → Behind ⟨k, n, f, s⟩ t.data.toList := by
              exact behind_law HV.out HTT.out (fun c r hr => ⟨by rw [hhead c r hr]; exact hdg, fun h => hT0 h.1⟩)
            have hmz : t.size ≤ 1001 := by have := HTS.out; omega
            go_upto_region 8 with fail
            have HMB := Lib.hid hmb
            have hms : t.size ≤ 1001 := hmz
            have hval : valueR (T ++ t).data.toList = .ok ((⟨k, n, f, s⟩, l), t.data.toList) := by
              rw [bytes_app, HTT.out]
              exact valueR_put HV.out HOK.out.1 HOK.out.2 HMB.out
            have hsz : (T ++ t).size = T.size + t.size := by simp
            have R := read_any (HRW.out w3 HB3.out) (T ++ t) (by omega)
            rw [hval] at R
            have hml : t.data.toList.length = t.size := rfl
            have hcast : ((T ++ t).size : Int) - (t.data.toList.length : Int) = (T.size : Int) := by rw [hml, hsz]; omega
            have R' : Calls Tryz.prog 7 #[.string (T ++ t)] w3 fun e w' => (∃ v, e = .returned (.tuple #[.agg #[.int .i64 k, .int .i64 n, .float .f64 f, .string s, v], .int .i64 (T.size : Int), .int .i64 0]) ∧ AOwn w' w3.heap.size v l) ∧ Below w3.heap.size w3 w' := by
              refine R.mono ?_
              rintro e w' ⟨⟨v, h1, h2⟩, h3⟩
              rw [hcast] at h1
              exact ⟨⟨v, h1, h2⟩, h3⟩
            replace R' := Lib.hid R'
            clear R hval hsz hml hcast hmb hmz
            go_wp2_with fail
            refine R'.out.mono ?_
            rintro e w4 ⟨⟨v, rfl, ho⟩, hb4⟩
            obtain ⟨q2, hq2⟩ : ∃ q2, q2 = l.length := ⟨_, rfl⟩
            obtain ⟨p2, c2, rfl, o1, o2, o3⟩ := ho.form hq2
            have HVA4 : Hid (VaOk w4 ⟨k, n, f, s⟩ p2 q2 c2 l) := Lib.hid ⟨HOK.out.1, hq2, o1, o2, o3, HOK.out.2⟩
            have HB4 := Lib.hid (HB3.out.trans (hb4.mono HB3.out.size))
            have HBW4 := Lib.hid (HBW3.out.trans (hb4.mono HBW3.out.size))
            obtain ⟨W4, hW4⟩ : ∃ W4, W4 = w4.alloc (.cells #[.int .i64 k, .int .i64 n, .float .f64 f, .string s, .slice p2 q2 c2] 27) := ⟨_, rfl⟩
            have HBA : Hid (Below w4.heap.size w4 W4) := Lib.hid (by rw [hW4]; exact (Below.refl _ _).alloc (Nat.le_refl _) _)
            have HX4 := HX.out w4 HBW4.out
            have hlt4 : w.heap.size < w4.heap.size := World.block_lt_of_cell? _ _ (HX4 0)
            have hne4 : ¬ w4.heap.size = w.heap.size := by omega
            have hne5 : ¬ w.heap.size = w4.heap.size := by omega
            have HSM : Hid (Calls Tryz.prog 8 #[.agg #[.int .i64 k, .int .i64 n, .float .f64 f, .string s, .slice q m c], .agg #[.int .i64 k, .int .i64 n, .float .f64 f, .string s, .slice p2 q2 c2]] W4 fun e w' => e = .returned (.bool true) ∧ Below W4.heap.size W4 w') := Lib.hid (by
              have h := same_any (HVA.out W4 (HB4.out.trans (HBA.out.mono HB4.out.size))) (HVA4.out.below HBA.out)
              rw [sameV_self] at h
              exact h)
            have HB5 := Lib.hid (HB4.out.trans (HBA.out.mono HB4.out.size))
            clear ho hb4 hq2 o1 o2 o3 HX3
            have x0 : w4.cell? ⟨w.heap.size, 0, none⟩ = some (.int .i64 k) := HX4 0
            have x1 : w4.cell? ⟨w.heap.size, 1, none⟩ = some (.int .i64 n) := HX4 1
            have x2 : w4.cell? ⟨w.heap.size, 2, none⟩ = some (.float .f64 f) := HX4 2
            have x3 : w4.cell? ⟨w.heap.size, 3, none⟩ = some (.string s) := HX4 3
            have x4 : w4.cell? ⟨w.heap.size, 4, none⟩ = some (.slice q m c) := HX4 4
            clear HX4
            go_wp2_with fail
            rw [← hW4]
            replace hW4 := Lib.hid hW4
            refine HSM.out.mono ?_
            rintro e w6 ⟨rfl, hb6⟩
            have HB6 := Lib.hid (HB5.out.trans (hb6.mono HB5.out.size))
            clear hb6
            go_wp2
            go_ret
            exact ⟨rfl, HB6.out⟩
          · have hg0 := hg
            have bgb : decide ((t[0].toNat : Int) ≤ 57) = false := decide_eq_false hgb
            have hmb : (⟨k, n, f, s⟩ : At).k ≠ 6 → Behind ⟨k, n, f, s⟩ t.data.toList := by
              exact behind_law HV.out HTT.out (fun c r hr => ⟨by rw [hhead c r hr]; exact hdg, fun h => hT0 h.1⟩)
            have hmz : t.size ≤ 1001 := by have := HTS.out; omega
            go_upto_region 8 with fail
            have HMB := Lib.hid hmb
            have hms : t.size ≤ 1001 := hmz
            have hval : valueR (T ++ t).data.toList = .ok ((⟨k, n, f, s⟩, l), t.data.toList) := by
              rw [bytes_app, HTT.out]
              exact valueR_put HV.out HOK.out.1 HOK.out.2 HMB.out
            have hsz : (T ++ t).size = T.size + t.size := by simp
            have R := read_any (HRW.out w3 HB3.out) (T ++ t) (by omega)
            rw [hval] at R
            have hml : t.data.toList.length = t.size := rfl
            have hcast : ((T ++ t).size : Int) - (t.data.toList.length : Int) = (T.size : Int) := by rw [hml, hsz]; omega
            have R' : Calls Tryz.prog 7 #[.string (T ++ t)] w3 fun e w' => (∃ v, e = .returned (.tuple #[.agg #[.int .i64 k, .int .i64 n, .float .f64 f, .string s, v], .int .i64 (T.size : Int), .int .i64 0]) ∧ AOwn w' w3.heap.size v l) ∧ Below w3.heap.size w3 w' := by
              refine R.mono ?_
              rintro e w' ⟨⟨v, h1, h2⟩, h3⟩
              rw [hcast] at h1
              exact ⟨⟨v, h1, h2⟩, h3⟩
            replace R' := Lib.hid R'
            clear R hval hsz hml hcast hmb hmz
            go_wp2_with fail
            refine R'.out.mono ?_
            rintro e w4 ⟨⟨v, rfl, ho⟩, hb4⟩
            obtain ⟨q2, hq2⟩ : ∃ q2, q2 = l.length := ⟨_, rfl⟩
            obtain ⟨p2, c2, rfl, o1, o2, o3⟩ := ho.form hq2
            have HVA4 : Hid (VaOk w4 ⟨k, n, f, s⟩ p2 q2 c2 l) := Lib.hid ⟨HOK.out.1, hq2, o1, o2, o3, HOK.out.2⟩
            have HB4 := Lib.hid (HB3.out.trans (hb4.mono HB3.out.size))
            have HBW4 := Lib.hid (HBW3.out.trans (hb4.mono HBW3.out.size))
            obtain ⟨W4, hW4⟩ : ∃ W4, W4 = w4.alloc (.cells #[.int .i64 k, .int .i64 n, .float .f64 f, .string s, .slice p2 q2 c2] 27) := ⟨_, rfl⟩
            have HBA : Hid (Below w4.heap.size w4 W4) := Lib.hid (by rw [hW4]; exact (Below.refl _ _).alloc (Nat.le_refl _) _)
            have HX4 := HX.out w4 HBW4.out
            have hlt4 : w.heap.size < w4.heap.size := World.block_lt_of_cell? _ _ (HX4 0)
            have hne4 : ¬ w4.heap.size = w.heap.size := by omega
            have hne5 : ¬ w.heap.size = w4.heap.size := by omega
            have HSM : Hid (Calls Tryz.prog 8 #[.agg #[.int .i64 k, .int .i64 n, .float .f64 f, .string s, .slice q m c], .agg #[.int .i64 k, .int .i64 n, .float .f64 f, .string s, .slice p2 q2 c2]] W4 fun e w' => e = .returned (.bool true) ∧ Below W4.heap.size W4 w') := Lib.hid (by
              have h := same_any (HVA.out W4 (HB4.out.trans (HBA.out.mono HB4.out.size))) (HVA4.out.below HBA.out)
              rw [sameV_self] at h
              exact h)
            have HB5 := Lib.hid (HB4.out.trans (HBA.out.mono HB4.out.size))
            clear ho hb4 hq2 o1 o2 o3 HX3
            have x0 : w4.cell? ⟨w.heap.size, 0, none⟩ = some (.int .i64 k) := HX4 0
            have x1 : w4.cell? ⟨w.heap.size, 1, none⟩ = some (.int .i64 n) := HX4 1
            have x2 : w4.cell? ⟨w.heap.size, 2, none⟩ = some (.float .f64 f) := HX4 2
            have x3 : w4.cell? ⟨w.heap.size, 3, none⟩ = some (.string s) := HX4 3
            have x4 : w4.cell? ⟨w.heap.size, 4, none⟩ = some (.slice q m c) := HX4 4
            clear HX4
            go_wp2_with fail
            rw [← hW4]
            replace hW4 := Lib.hid hW4
            refine HSM.out.mono ?_
            rintro e w6 ⟨rfl, hb6⟩
            have HB6 := Lib.hid (HB5.out.trans (hb6.mono HB5.out.size))
            clear hb6
            go_wp2
            go_ret
            exact ⟨rfl, HB6.out⟩

end Go.Proofs.YtcgjefaebofikaaGreatDoor
