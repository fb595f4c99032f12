/-
  Read's reader: code, char.
-/
import Derived.Test.YtckmajcophpddaaDoorVRd
import Derived.Test.YtckmajcophpddaaDoorVEsc
import Derived.Deep.QuietTactic
import Derived.BigQuiet
set_option linter.unusedVariables false
set_option linter.unusedSimpArgs false
set_option maxRecDepth 100000
namespace Go.Proofs.YtckmajcophpddaaDoor
open Go.RowKit

/-- What a reader's method leaves: a value and a shorter rest, or a panic with an error's number. -/
def RPost (w : World) (b : Nat) (e : Ending) (w' : World) : Except Int (Value × List UInt8) → Prop
  | .ok (v, m) => e = .returned v ∧ Rd w' b m ∧ w.grownBy w' (some b)
  | .error x => e = .panicked [{ v := .iface 28 (.int .i64 x), recovered := false }] ∧ w.grownBy w' (some b)

theorem grown_drewN {w w' : World} {r : Option Nat} (h : w.grownBy w' r) (n : Nat) : w.grownBy (w'.drewN n) r := ⟨h.os, h.tape, h.output, h.size, h.block⟩
theorem grown_drew {w w' : World} {r : Option Nat} (h : w.grownBy w' r) : w.grownBy w'.drew r := ⟨h.os, h.tape, h.output, h.size, h.block⟩
theorem grown_trans {a b c : World} {r : Option Nat} (h : a.grownBy b r) (k : b.grownBy c r) : a.grownBy c r :=
  ⟨k.os.trans h.os, k.tape.trans h.tape, k.output.trans h.output, Nat.le_trans h.size k.size, fun i hi hne => (k.block i (Nat.lt_of_lt_of_le hi h.size) hne).trans (h.block i hi hne)⟩

/-- A byte by its two digits, at most so great as a byte. -/
def codeN (x y : UInt8) : Nat := (Lib.indexByte hexE x).toNat * 16 + (Lib.indexByte hexE y).toNat
def codeOk (x y : UInt8) : Bool := decide (0 ≤ Lib.indexByte hexE x) && decide (0 ≤ Lib.indexByte hexE y) && codeC (UInt8.ofNat (codeN x y))
def codeR : List UInt8 → Except Int (UInt8 × List UInt8)
  | x :: y :: m => if codeOk x y then .ok (UInt8.ofNat (codeN x y), m) else .error 11
  | _ => .error 11

theorem codeR_two (x y : UInt8) (m : List UInt8) : codeR (x :: y :: m) = if codeOk x y then .ok (UInt8.ofNat (codeN x y), m) else .error 11 := rfl
theorem idx_lt (l : List UInt8) (x : UInt8) (h0 : l ≠ []) : Lib.indexByte l x ≤ l.length - 1 := by
  induction l with
  | nil => exact absurd rfl h0
  | cons b l ih =>
    unfold Lib.indexByte
    split
    · simp
    · rename_i hb
      rcases l with _ | ⟨c, l⟩
      · simp [Lib.indexByte]
      · have := ih (by simp)
        simp only [List.length_cons] at this ⊢
        split
        · omega
        · omega
theorem idx_le (x : UInt8) : Lib.indexByte hexE x ≤ 15 := idx_lt hexE x (by simp [hexE])
theorem idx_ge (x : UInt8) : -1 ≤ Lib.indexByte hexE x := Lib.indexByte_ge _ _

theorem code_bits_all : ∀ i j : Fin 16, bits BinOp.or IntKind.i64 (wrap64 ((i.val : Int) * 16)) (j.val : Int) % 256 = ((i.val * 16 + j.val : Nat) : Int) := by decide +kernel
theorem code_bits {p q : Int} (h0 : 0 ≤ p) (h1 : p ≤ 15) (k0 : 0 ≤ q) (k1 : q ≤ 15) : bits BinOp.or IntKind.i64 (wrap64 (p * 16)) q % 256 = ((UInt8.ofNat (p.toNat * 16 + q.toNat)).toNat : Int) := by
  have h := code_bits_all ⟨p.toNat, by omega⟩ ⟨q.toNat, by omega⟩
  simp only at h
  rw [Int.toNat_of_nonneg h0, Int.toNat_of_nonneg k0] at h
  rw [h, UInt8.toNat_ofNat']
  omega

set_option maxHeartbeats 1000000 in
theorem code_any {w : World} {b : Nat} {l : List UInt8} (h : Rd w b l) (hl : l.length ≤ 9223372036854775807) :
    Calls Tryd.prog 64 #[.pointer (some ⟨b, 0, none⟩)] w fun e w' => RPost w b e w' ((codeR l).map fun p => (.int .u8 (p.1.toNat : Int), p.2)) := by
  have C := Lib.hid (cut_any h 2 hl)
  clear h
  by_cases h2 : l.length < 2
  · obtain ⟨s, hs⟩ : ∃ s, s = (⟨(l.take 2).toArray⟩ : ByteArray) := ⟨_, rfl⟩
    have hz : s.size < 2 := by rw [hs, ba_size, List.length_take]; omega
    have HE : Hid (codeR l = .error 11) := Lib.hid (by
      rcases l with _ | ⟨x, _ | ⟨y, m⟩⟩
      · rfl
      · rfl
      · simp at h2; omega)
    rw [← hs] at C
    clear hs h2
    go_enter Tryd.func64, Tryd.ntmps64
    go_wp2_with fail
    refine C.out.mono ?_
    rintro e w1 ⟨rfl, hr, hg⟩
    have HR := Lib.hid hr
    have HG := Lib.hid hg
    clear hr hg
    go_wp2
    refine ⟨rfl, ?_⟩
    rw [HE.out]
    exact ⟨rfl, HG.out⟩
  · obtain ⟨x, y, m, rfl⟩ : ∃ x y m, l = x :: y :: m := by
      rcases l with _ | ⟨x, _ | ⟨y, m⟩⟩
      · simp at h2
      · simp at h2
      · exact ⟨x, y, m, rfl⟩
    obtain ⟨s, hs⟩ : ∃ s, s = (⟨#[x, y]⟩ : ByteArray) := ⟨_, rfl⟩
    have hz : s.size = 2 := by rw [hs]; rfl
    have hx : s[0]'(by omega) = x := by subst hs; rfl
    have hy : s[1]'(by omega) = y := by subst hs; rfl
    have hc : (⟨((x :: y :: m).take 2).toArray⟩ : ByteArray) = s := by rw [hs]; rfl
    rw [hc] at C
    have HD := Lib.hid hs
    clear hs hc h2
    obtain ⟨p, hp⟩ : ∃ p, p = Lib.indexByte hexE x := ⟨_, rfl⟩
    obtain ⟨q, hq⟩ : ∃ q, q = Lib.indexByte hexE y := ⟨_, rfl⟩
    have X := fun w => Lib.hid (Tryd.strings_IndexByte ⟨#[48, 49, 50, 51, 52, 53, 54, 55, 56, 57, 97, 98, 99, 100, 101, 102]⟩ (x.toNat : Int) w)
    have Y := fun w => Lib.hid (Tryd.strings_IndexByte ⟨#[48, 49, 50, 51, 52, 53, 54, 55, 56, 57, 97, 98, 99, 100, 101, 102]⟩ (y.toNat : Int) w)
    have hX : (x.toNat : Int).toNat.toUInt8 = x := by simp
    have hY : (y.toNat : Int).toNat.toUInt8 = y := by simp
    rw [show (⟨#[48, 49, 50, 51, 52, 53, 54, 55, 56, 57, 97, 98, 99, 100, 101, 102]⟩ : ByteArray).data.toList = hexE from rfl, hX, ← hp] at X
    rw [show (⟨#[48, 49, 50, 51, 52, 53, 54, 55, 56, 57, 97, 98, 99, 100, 101, 102]⟩ : ByteArray).data.toList = hexE from rfl, hY, ← hq] at Y
    have HP := Lib.hid hp
    have HQ := Lib.hid hq
    clear hp hq hX hY
    go_enter Tryd.func64, Tryd.ntmps64
    go_wp2_with fail
    refine C.out.mono ?_
    rintro e w1 ⟨rfl, hr, hg⟩
    have HR : Hid (Rd w1 b m) := Lib.hid hr
    have HG := Lib.hid hg
    clear hr hg
    go_wp2_with fail
    have i0 : (0 : Int) < (s.size : Int) := by omega
    have i1 : (1 : Int) < (s.size : Int) := by omega
    go_quiet ((go_at_call 76; first | exact Calls.quiet_of_same (X _).out | exact Calls.quiet_of_same (Y _).out))
    have hI := idx_le x
    have hJ := idx_le y
    by_cases hp0 : p < 0
    · have HE : Hid (codeR (x :: y :: m) = .error 11) := Lib.hid (by
        have e : codeOk x y = false := by unfold codeOk; rw [← HP.out, decide_eq_false (by omega)]; rfl
        rw [codeR_two, e]; rfl)
      clear hI hJ
      go_wp2
      refine ⟨rfl, ?_⟩
      rw [HE.out]
      exact ⟨rfl, grown_drewN HG.out _⟩
    · by_cases hq0 : q < 0
      · have HE : Hid (codeR (x :: y :: m) = .error 11) := Lib.hid (by
          have e : codeOk x y = false := by unfold codeOk; rw [← HQ.out, decide_eq_false (p := 0 ≤ q) (by omega), Bool.and_false]; rfl
          rw [codeR_two, e]; rfl)
        clear hI hJ
        go_wp2
        refine ⟨rfl, ?_⟩
        rw [HE.out]
        exact ⟨rfl, grown_drewN HG.out _⟩
      · obtain ⟨c, hc⟩ : ∃ c, c = UInt8.ofNat (codeN x y) := ⟨_, rfl⟩
        have hb : bits BinOp.or IntKind.i64 (wrap64 (p * 16)) q % 256 = (c.toNat : Int) := by
          rw [code_bits (by omega) (by rw [HP.out]; exact hI) (by omega) (by rw [HQ.out]; exact hJ), hc]
          unfold codeN
          rw [← HP.out, ← HQ.out]
        have e : codeOk x y = codeC c := by
          unfold codeOk
          rw [← HP.out, ← HQ.out, ← hc, decide_eq_true (show 0 ≤ p by omega), decide_eq_true (show 0 ≤ q by omega)]
          rfl
        have HE : Hid (codeR (x :: y :: m) = if codeC c then .ok (c, m) else .error 11) := Lib.hid (by
          rw [codeR_two, e, ← hc])
        have HC := Lib.hid (isCode_any (w := w1.drewN nq) c)
        replace hc := Lib.hid hc
        clear hI hJ e
        go_wp2_with fail
        refine HC.out.mono ?_
        rintro e w2 ⟨rfl, rfl⟩
        cases hcc : codeC c
        · go_wp2
          refine ⟨rfl, ?_⟩
          rw [HE.out, hcc]
          exact ⟨rfl, grown_drewN HG.out _⟩
        · go_wp2
          go_ret
          rw [HE.out, hcc]
          exact ⟨rfl, HR.out, grown_drewN HG.out _⟩

/-- What stands for one byte of a text. -/
def plainR (marked : Bool) : List UInt8 → Except Int (UInt8 × List UInt8)
  | [] => .error 11
  | c :: m => if codeC c || (markC c != marked) then .error 11 else .ok (c, m)
def charR (l : List UInt8) : Except Int (UInt8 × List UInt8) :=
  if Lib.hasPrefix l [92, 120] then codeR (Lib.trimPrefix l [92, 120]) else plainR (Lib.hasPrefix l [92]) (Lib.trimPrefix l [92])
theorem plainR_cons (k : Bool) (c : UInt8) (m : List UInt8) : plainR k (c :: m) = if codeC c || (markC c != k) then .error 11 else .ok (c, m) := rfl

set_option maxHeartbeats 1000000 in
theorem char_any {w : World} {b : Nat} {l : List UInt8} (h : Rd w b l) (hl : l.length ≤ 9223372036854775807) :
    Calls Tryd.prog 54 #[.pointer (some ⟨b, 0, none⟩)] w fun e w' => RPost w b e w' ((charR l).map fun p => (.int .u8 (p.1.toNat : Int), p.2)) := by
  have T1 := Lib.hid (take_any h ⟨#[92, 120]⟩)
  have hE : (⟨#[92, 120]⟩ : ByteArray).data.toList = [92, 120] := rfl
  rw [hE] at T1
  clear h hE
  cases hp : Lib.hasPrefix l [92, 120]
  · have ht : Lib.trimPrefix l [92, 120] = l := by unfold Lib.trimPrefix; rw [hp]; rfl
    rw [hp, ht] at T1
    cases hq : Lib.hasPrefix l [92]
    all_goals
      obtain ⟨m, hm⟩ : ∃ m, m = Lib.trimPrefix l [92] := ⟨_, rfl⟩
      have hml : m.length ≤ l.length := by rw [hm]; exact Lib.trimPrefix_le _ _
      have HE : Hid (charR l = plainR (Lib.hasPrefix l [92]) m) := Lib.hid (by unfold charR; rw [hp, hm]; rfl)
      rw [hq] at HE
      have T2 := fun w1 (hr : Rd w1 b l) => Lib.hid (take_any hr ⟨#[92]⟩)
      have hE : (⟨#[92]⟩ : ByteArray).data.toList = [92] := rfl
      rw [hE, hq, ← hm] at T2
      have HH := Lib.hid hl
      clear hp ht hq hm hE hl
      go_enter Tryd.func54, Tryd.ntmps54
      go_wp2_with fail
      refine T1.out.mono ?_
      rintro e w1 ⟨rfl, hr1, hg1⟩
      have HR1 := Lib.hid hr1
      have HG1 := Lib.hid hg1
      clear hr1 hg1
      go_wp2_with fail
      refine (T2 _ HR1.out).out.mono ?_
      rintro e w2 ⟨rfl, hr2, hg2⟩
      have HR2 := Lib.hid hr2
      have HG2 := Lib.hid (grown_trans HG1.out hg2)
      clear hr2 hg2
      have T3 := Lib.hid (cut_any HR2.out 1 (by have := HH.out; omega))
      rcases m with _ | ⟨c, m⟩
      · have hc : (⟨(([] : List UInt8).take 1).toArray⟩ : ByteArray) = ⟨#[]⟩ := rfl
        rw [hc] at T3
        clear hc
        go_wp2_with fail
        refine T3.out.mono ?_
        rintro e w3 ⟨rfl, hr3, hg3⟩
        have HG3 := Lib.hid (grown_trans HG2.out hg3)
        clear hr3 hg3
        go_wp2
        refine ⟨rfl, ?_⟩
        rw [HE.out]
        exact ⟨rfl, HG3.out⟩
      · obtain ⟨s, hs⟩ : ∃ s, s = (⟨#[c]⟩ : ByteArray) := ⟨_, rfl⟩
        have hz : s.size = 1 := by rw [hs]; rfl
        have h0 : s[0]'(by omega) = c := by subst hs; rfl
        have hc : (⟨((c :: m).take 1).toArray⟩ : ByteArray) = s := by rw [hs]; rfl
        rw [hc] at T3
        have hne : ¬ s.toList = [] := by rw [ByteArray.toList_eq, hs]; simp
        have hnf : s.toList.isEmpty = false := by rw [ByteArray.toList_eq, hs]; rfl
        have C := fun w => Lib.hid (isCode_any (w := w) c)
        have M := fun w => Lib.hid (isMark_any (w := w) c)
        clear hc hs
        go_wp2_with fail
        refine T3.out.mono ?_
        rintro e w3 ⟨rfl, hr3, hg3⟩
        have HR3 : Hid (Rd w3 b m) := Lib.hid hr3
        have HG3 := Lib.hid (grown_trans HG2.out hg3)
        clear hr3 hg3
        replace HE : Hid (charR l = _) := HE
        rw [plainR_cons] at HE
        go_wp2_with fail
        refine (C _).out.mono ?_
        rintro e w4 ⟨rfl, rfl⟩
        cases hcc : codeC c
        · go_wp2_with fail
          refine (M _).out.mono ?_
          rintro e w4 ⟨rfl, rfl⟩
          cases hmc : markC c
          all_goals
            rw [hcc, hmc] at HE
            go_wp2
            all_goals first
              | (refine ⟨rfl, ?_⟩; rw [HE.out]; exact ⟨rfl, HG3.out⟩)
              | (go_ret; rw [HE.out]; exact ⟨rfl, HR3.out, HG3.out⟩)
        · rw [hcc] at HE
          go_wp2
          refine ⟨rfl, ?_⟩
          rw [HE.out]
          exact ⟨rfl, HG3.out⟩
  · have T2 := fun w1 (hr : Rd w1 b (Lib.trimPrefix l [92, 120])) => Lib.hid (code_any hr (Nat.le_trans (Lib.trimPrefix_le _ _) hl))
    have HE : Hid (charR l = codeR (Lib.trimPrefix l [92, 120])) := Lib.hid (by unfold charR; rw [hp]; rfl)
    rw [hp] at T1
    obtain ⟨m, hm⟩ : ∃ m, m = Lib.trimPrefix l [92, 120] := ⟨_, rfl⟩
    rw [← hm] at T1 T2 HE
    clear hp hl hm
    rcases hr : codeR m with x | ⟨c, k⟩
    all_goals
      rw [hr] at T2 HE
      clear hr
      go_enter Tryd.func54, Tryd.ntmps54
      go_wp2_with fail
      refine T1.out.mono ?_
      rintro e w1 ⟨rfl, hr1, hg1⟩
      have HR1 := Lib.hid hr1
      have HG1 := Lib.hid hg1
      clear hr1 hg1
      go_wp2_with fail
      refine (T2 _ HR1.out).out.mono ?_
    · rintro e w2 ⟨rfl, hg2⟩
      go_wp2
      refine ⟨rfl, ?_⟩
      rw [HE.out]
      exact ⟨rfl, grown_trans HG1.out hg2⟩
    · rintro e w2 ⟨rfl, hr2, hg2⟩
      have HR2 := Lib.hid hr2
      clear hr2
      go_wp2
      go_ret
      rw [HE.out]
      exact ⟨rfl, HR2.out, grown_trans HG1.out hg2⟩

end Go.Proofs.YtckmajcophpddaaDoor
