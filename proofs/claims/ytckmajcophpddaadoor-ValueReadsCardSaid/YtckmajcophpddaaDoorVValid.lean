/-
  value.Valid and what it calls: contracts for the walks.
-/
import Derived.Test.YtckmajcophpddaaDoorVAt
set_option linter.unusedVariables false
set_option maxRecDepth 100000
namespace Go.Proofs.YtckmajcophpddaaDoor
open Go.RowKit

set_option maxHeartbeats 400000 in
theorem isCanon_any {w : World} (f : Nat) (hf : f < 18446744073709551616) :
    Calls Tryd.prog 35 #[.float .f64 f] w fun e w' => e = .returned (.bool (canonT f)) ∧ w = w' := by
  have hx := run_bits f w
  have hy := run_bits (canonB f) w
  have HC := Lib.hid (canon_any (w := w) f hf)
  clear hf
  unfold canonT
  generalize canonB f = g at *
  go_enter Tryd.func35, Tryd.ntmps35
  go_wp2_with fail
  refine HC.out.mono ?_; rintro e w' ⟨rfl, rfl⟩
  go_wp2
  go_ret
  exact ⟨rfl, rfl⟩

theorem validA0 (n : Int) (f : Nat) (s : ByteArray) : validA 0 n f s = (n == 0 && (f : Int) == 0 && s.toList.isEmpty) := rfl
theorem validA1 (n : Int) (f : Nat) (s : ByteArray) : validA 1 n f s = ((n == 0 || n == 1) && (f : Int) == 0 && s.toList.isEmpty) := rfl
theorem validA2 (n : Int) (f : Nat) (s : ByteArray) : validA 2 n f s = ((f : Int) == 0 && s.toList.isEmpty) := rfl
theorem validA3 (n : Int) (f : Nat) (s : ByteArray) : validA 3 n f s = (n == 0 && canonT f && s.toList.isEmpty) := rfl
theorem validA4 (n : Int) (f : Nat) (s : ByteArray) : validA 4 n f s = (n == 0 && (f : Int) == 0 && decide (s.size ≤ 256)) := rfl
theorem validA5 (n : Int) (f : Nat) (s : ByteArray) : validA 5 n f s = (n == 0 && (f : Int) == 0 && decide (s.size ≤ 256)) := rfl
theorem validA_no {k : Int} (n : Int) (f : Nat) (s : ByteArray) (h0 : k ≠ 0) (h1 : k ≠ 1) (h2 : k ≠ 2) (h3 : k ≠ 3) (h4 : k ≠ 4) (h5 : k ≠ 5) : validA k n f s = false := by
  unfold validA
  rw [if_neg h0, if_neg h1, if_neg h2, if_neg h3, if_neg (by omega)]

set_option maxHeartbeats 1600000 in
theorem validAtom_lit {w : World} (k n : Int) (f : Nat) (s : ByteArray) (hf : f < 18446744073709551616) (hk : k = 0 ∨ k = 1 ∨ k = 2 ∨ k = 3 ∨ k = 4 ∨ k = 5) :
    Calls Tryd.prog 17 #[.agg #[.int .i64 k, .int .i64 n, .float .f64 f, .string s]] w fun e w' => e = .returned (.bool (validA k n f s)) ∧ Below w.heap.size w w' := by
  have hx := fun w => run_bits f w
  have HC := Lib.hid (fun w => isCanon_any (w := w) f hf)
  clear hf
  rcases hk with rfl | rfl | rfl | rfl | rfl | rfl
  all_goals
    first | rw [validA0] | rw [validA1] | rw [validA2] | rw [validA3] | rw [validA4] | rw [validA5]
    go_enter Tryd.func17, Tryd.ntmps17
    go_wp2
    go_quiet (fail)
    go_wp2_with (go_at_call 35; refine (HC.out _).mono ?_; rintro e w' ⟨rfl, rfl⟩)
    all_goals
      go_ret
      refine ⟨ret_bool ?_, belowN ((Below.refl _ _).alloc (Nat.le_refl _) _) _⟩
      first | (simp_all; done) | (simp_all; omega)

set_option maxHeartbeats 1600000 in
theorem validAtom_no {w : World} (k n : Int) (f : Nat) (s : ByteArray) (h0 : k ≠ 0) (h1 : k ≠ 1) (h2 : k ≠ 2) (h3 : k ≠ 3) (h4 : k ≠ 4) (h5 : k ≠ 5) :
    Calls Tryd.prog 17 #[.agg #[.int .i64 k, .int .i64 n, .float .f64 f, .string s]] w fun e w' => e = .returned (.bool (validA k n f s)) ∧ Below w.heap.size w w' := by
  have hx := fun w => run_bits f w
  rw [validA_no n f s h0 h1 h2 h3 h4 h5]
  have g0 : (k == 0) = false := beq_eq_false_iff_ne.2 h0
  have g1 : (k == 1) = false := beq_eq_false_iff_ne.2 h1
  have g2 : (k == 2) = false := beq_eq_false_iff_ne.2 h2
  have g3 : (k == 3) = false := beq_eq_false_iff_ne.2 h3
  have g4 : (k == 4) = false := beq_eq_false_iff_ne.2 h4
  have g5 : (k == 5) = false := beq_eq_false_iff_ne.2 h5
  clear h0 h1 h2 h3 h4 h5
  go_enter Tryd.func17, Tryd.ntmps17
  go_wp2
  go_quiet (fail)
  go_wp2
  go_ret
  exact ⟨rfl, belowN ((Below.refl _ _).alloc (Nat.le_refl _) _) _⟩

theorem validAtom_any {w : World} (k n : Int) (f : Nat) (s : ByteArray) (hf : f < 18446744073709551616) :
    Calls Tryd.prog 17 #[.agg #[.int .i64 k, .int .i64 n, .float .f64 f, .string s]] w fun e w' => e = .returned (.bool (validA k n f s)) ∧ Below w.heap.size w w' := by
  by_cases h0 : k = 0
  · exact validAtom_lit k n f s hf (.inl h0)
  by_cases h1 : k = 1
  · exact validAtom_lit k n f s hf (.inr (.inl h1))
  by_cases h2 : k = 2
  · exact validAtom_lit k n f s hf (.inr (.inr (.inl h2)))
  by_cases h3 : k = 3
  · exact validAtom_lit k n f s hf (.inr (.inr (.inr (.inl h3))))
  by_cases h4 : k = 4
  · exact validAtom_lit k n f s hf (.inr (.inr (.inr (.inr (.inl h4)))))
  by_cases h5 : k = 5
  · exact validAtom_lit k n f s hf (.inr (.inr (.inr (.inr (.inr h5)))))
  · exact validAtom_no k n f s h0 h1 h2 h3 h4 h5

/-- Valid's own predicate: it is none. -/
theorem wrong_any {w : World} (k n : Int) (f : Nat) (s : ByteArray) (hf : f < 18446744073709551616) :
    Calls Tryd.prog 18 #[.agg #[.int .i64 k, .int .i64 n, .float .f64 f, .string s]] w fun e w' => e = .returned (.bool (!validA k n f s)) ∧ Below w.heap.size w w' := by
  have HC := Lib.hid (fun w => validAtom_any (w := w) k n f s hf)
  have hnot : ∀ (x : Bool) (w : World), (Op.unary .not (.bool x)).run Tryd.prog w = .ok (.bool (!x)) w := fun _ _ => rfl
  clear hf
  generalize validA k n f s = r at *
  go_enter Tryd.func18, Tryd.ntmps18
  go_wp2_with fail
  refine (HC.out _).mono ?_; rintro e w' ⟨rfl, hb⟩
  go_wp2
  go_ret
  exact ⟨rfl, ((Below.refl _ _).alloc (Nat.le_refl _) _).trans (hb.mono (by simp))⟩

set_option maxHeartbeats 400000 in
/-- slices.IndexFunc, at whatever predicate on atoms. -/
theorem indexFunc_any {g : Nat} {p : At → Bool} (eg : ∀ args (w : World), (callFunc g args).run Tryd.prog w = .ok (.enter g args) w)
    (hp : ∀ (w : World) (a : At), a.Ok → Calls Tryd.prog g #[a.cell] w fun e w' => e = .returned (.bool (p a)) ∧ Below w.heap.size w w')
    {w : World} {q : Option Addr} {n c : Nat} {l : List At} (hn : n = l.length) (h1 : n ≤ c) (h2 : c ≤ 9223372036854775807) (hl : As w q l) (hok : ∀ a ∈ l, a.Ok) :
    Calls Tryd.prog 36 #[.slice q n c, .func (.func g) #[] #[]] w fun e w' => ∃ r : Int, e = .returned (.int .i64 r) ∧ decide (0 ≤ r) = l.any p ∧ Below w.heap.size w w' := by
  have HN := Lib.hid hn
  have HL := Lib.hid hl
  have HOK := Lib.hid hok
  have HP := Lib.hid hp
  clear hn hl hok hp
  go_enter Tryd.func36, Tryd.ntmps36
  go_wp2
  go_loopw [8] (fun i wr => ∃ j : Nat, i = .int .i64 j ∧ j ≤ n ∧ Below w.heap.size w wr ∧ (l.take j).any p = false) (fun i _ => n - (intOf i).toNat)
  case atStart => exact ⟨0, rfl, by omega, Below.refl _ _, rfl⟩
  case round =>
    obtain ⟨j, rfl, hj, hb, hany⟩ := hrel
    have HB := Lib.hid hb
    have HA := Lib.hid hany
    clear hb hany
    by_cases hlt : j < n
    · have hjl : j < l.length := by have := HN.out; omega
      obtain ⟨a, ha⟩ : ∃ a, l[j]? = some a := ⟨_, List.getElem?_eq_getElem hjl⟩
      obtain ⟨b, o, rfl, hc⟩ := HL.out.at ha
      obtain ⟨c1, c2, c3, c4⟩ := hc.below HB.out
      have hk := List.mem_of_getElem? ha
      have HT : Hid ((l.take (j + 1)).any p = ((l.take j).any p || p a)) := Lib.hid (by
        rw [List.take_add_one, ha]
        simp)
      have HS : Hid (p a = true → l.any p = true) := Lib.hid (fun h => List.any_eq_true.2 ⟨a, hk, h⟩)
      have HM := Lib.hid (HOK.out a hk)
      clear hc hk ha hjl
      go_wp2_with fail
      refine (HP.out _ a HM.out).mono ?_; rintro e w1 ⟨rfl, hb1⟩
      have HB1 := Lib.hid (HB.out.trans (hb1.mono HB.out.size))
      clear hb1
      by_cases hpa : p a = true
      · have HPA := Lib.hid hpa
        go_wp2
        go_ret
        refine ⟨_, rfl, ?_, HB1.out⟩
        rw [HS.out HPA.out]
        simp
      · have hpa' : p a = false := by simpa using hpa
        clear hpa
        have HPA := Lib.hid hpa'
        go_wp2
        go_roundw
        case rel => exact ⟨j + 1, by go_num, by omega, HB1.out, by rw [HT.out, HA.out, HPA.out]; rfl⟩
        case measure => simp [intOf]; omega
    · go_wp2
      go_ret
      refine ⟨-1, rfl, ?_, HB.out⟩
      have h3 := HA.out
      rw [List.take_of_length_le (by have := HN.out; omega)] at h3
      rw [h3]
      rfl

/-- slices.ContainsFunc. -/
theorem contains_any {g : Nat} {p : At → Bool} (eg : ∀ args (w : World), (callFunc g args).run Tryd.prog w = .ok (.enter g args) w)
    (hp : ∀ (w : World) (a : At), a.Ok → Calls Tryd.prog g #[a.cell] w fun e w' => e = .returned (.bool (p a)) ∧ Below w.heap.size w w')
    {w : World} {q : Option Addr} {n c : Nat} {l : List At} (hn : n = l.length) (h1 : n ≤ c) (h2 : c ≤ 9223372036854775807) (hl : As w q l) (hok : ∀ a ∈ l, a.Ok) :
    Calls Tryd.prog 19 #[.slice q n c, .func (.func g) #[] #[]] w fun e w' => e = .returned (.bool (l.any p)) ∧ Below w.heap.size w w' := by
  have HC := Lib.hid (indexFunc_any (w := w) eg hp hn h1 h2 hl hok)
  clear hn hl hok hp eg
  generalize l.any p = x at *
  go_enter Tryd.func19, Tryd.ntmps19
  go_wp2_with fail
  refine HC.out.mono ?_; rintro e w1 ⟨r, rfl, hr, hb⟩
  have HR := Lib.hid hr
  clear hr
  go_wp2
  go_ret
  exact ⟨ret_bool HR.out, hb⟩

set_option maxHeartbeats 1600000 in
theorem valid_list {w : World} (n : Int) (f : Nat) (s : ByteArray) (hf : f < 18446744073709551616) {q : Option Addr} {m c : Nat} {l : List At} (hn : m = l.length) (h1 : m ≤ c) (h2 : c ≤ 9223372036854775807) (hl : As w q l) (hok : ∀ a ∈ l, a.Ok) :
    Calls Tryd.prog 9 #[.agg #[.int .i64 6, .int .i64 n, .float .f64 f, .string s, .slice q m c]] w fun e w' => e = .returned (.bool (validV ⟨6, n, f, s⟩ l)) ∧ Below w.heap.size w w' := by
  have e : validV ⟨6, n, f, s⟩ l = (validA 0 n f s && (decide ((m : Int) ≤ 16) && !l.any fun a => !a.valid)) := by rw [hn]; rfl
  have eg : ∀ args (w : World), (callFunc 18 args).run Tryd.prog w = .ok (.enter 18 args) w := fun _ _ => rfl
  have HV := Lib.hid (fun w => validAtom_any (w := w) 0 n f s hf)
  have HC : ∀ w1, Below w.heap.size w w1 → Calls Tryd.prog 19 #[.slice q m c, .func (.func 18) #[] #[]] w1 fun e w' => e = .returned (.bool (l.any fun a => !a.valid)) ∧ Below w1.heap.size w1 w' :=
    fun w1 hb => contains_any eg (fun w a ha => wrong_any a.k a.n a.f a.s ha.f1) hn h1 h2 (hl.below hb) hok
  replace HC := Lib.hid HC
  have hst := store_flt
  rw [e]
  clear hf hl hok hn e
  generalize validA 0 n f s = r at *
  generalize (l.any fun a => !a.valid) = x at *
  go_enter Tryd.func9, Tryd.ntmps9
  go_wp2_with fail
  refine (HV.out _).mono ?_; rintro e w1 ⟨rfl, hb1⟩
  have c4 : w1.cell? ⟨w.heap.size, 4, none⟩ = some (.slice q m c) := by
    rw [hb1.cell (by simp; omega)]
    simp [go_sem]
  replace hb1 := Lib.hid ((((Below.refl _ _).alloc (Nat.le_refl _) _).alloc (by simp) _).trans (hb1.mono (by simp; omega)))
  cases r
  · go_wp2
    go_ret
    exact ⟨rfl, hb1.out⟩
  by_cases h16 : (m : Int) ≤ 16
  · go_wp2_with fail
    refine (HC.out _ hb1.out).mono ?_; rintro e w2 ⟨rfl, hb2⟩
    go_wp2
    go_ret
    exact ⟨ret_bool (by simp [h16]), hb1.out.trans (hb2.mono hb1.out.size)⟩
  · go_wp2
    go_ret
    exact ⟨ret_bool (by simp; omega), hb1.out⟩

set_option maxHeartbeats 1600000 in
theorem valid_one {w : World} (a : At) (ha : a.Ok) (hk : a.k ≠ 6) {q : Option Addr} {m c : Nat} {l : List At} (hn : m = l.length) :
    Calls Tryd.prog 9 #[.agg #[.int .i64 a.k, .int .i64 a.n, .float .f64 a.f, .string a.s, .slice q m c]] w fun e w' => e = .returned (.bool (validV a l)) ∧ Below w.heap.size w w' := by
  have e : validV a l = (((m : Int) == 0) && a.valid) := by rw [hn]; unfold validV; rw [if_neg hk]
  have HV := Lib.hid (fun w => validAtom_any (w := w) a.k a.n a.f a.s ha.f1)
  have g6 : (a.k != 6) = true := by simpa using hk
  rw [e]
  clear hn hk e ha
  change Hid (∀ w, Calls Tryd.prog _ #[.agg #[.int .i64 a.k, .int .i64 a.n, .float .f64 a.f, .string a.s]] w fun e w' => e = .returned (.bool a.valid) ∧ Below w.heap.size w w') at HV
  generalize a.valid = r at *
  generalize a.k = k at *
  by_cases h0 : m = 0
  · have h0' : ((m : Int) == 0) = true := by rw [h0]; rfl
    have H0 := Lib.hid h0'
    go_enter Tryd.func9, Tryd.ntmps9
    go_wp2_with fail
    refine (HV.out _).mono ?_; rintro e w1 ⟨rfl, hb1⟩
    go_wp2
    go_ret
    exact ⟨ret_bool (by rw [H0.out]; rfl), ((Below.refl _ _).alloc (Nat.le_refl _) _).trans (hb1.mono (by simp))⟩
  · have h0' : ((m : Int) == 0) = false := by simpa using h0
    have H0 := Lib.hid h0'
    go_enter Tryd.func9, Tryd.ntmps9
    go_wp2
    go_ret
    exact ⟨ret_bool (by rw [H0.out]; rfl), ((Below.refl _ _).alloc (Nat.le_refl _) _)⟩

theorem valid_any {w : World} {k n : Int} {f : Nat} {s : ByteArray} {q : Option Addr} {m c : Nat} {l : List At} (h : VaOk w ⟨k, n, f, s⟩ q m c l) :
    Calls Tryd.prog 9 #[.agg #[.int .i64 k, .int .i64 n, .float .f64 f, .string s, .slice q m c]] w fun e w' => e = .returned (.bool (validV ⟨k, n, f, s⟩ l)) ∧ Below w.heap.size w w' := by
  by_cases h6 : k = 6
  · subst h6
    exact valid_list n f s h.ok.f1 h.hn h.h1 h.h2 h.hl h.hok
  · exact valid_one ⟨k, n, f, s⟩ h.ok h6 h.hn

end Go.Proofs.YtckmajcophpddaaDoor
