/-
  bytes.Equal, bytes.Clone: contracts for the walks.
-/
import Derived.Test.YtigmibmebockhaaBytes
set_option linter.unusedVariables false
set_option maxRecDepth 100000
namespace Go.Proofs.Ytigmibmebockhaa
open Go.RowKit

set_option maxHeartbeats 400000 in
theorem bEqual_any {w : World} {p q : Option Addr} {l m : List UInt8} (hl : Bs w p l) (hm : Bs w q m) {n k c d : Nat} (hn : n = l.length) (hk : k = m.length) :
    Calls Try.prog 26 #[.slice p n c, .slice q k d] w fun e w' => e = .returned (.bool (decide (l = m))) ∧ w' = w := by
  have h1 := str_of hl (c := c) hn
  have h2 := str_of hm (c := d) hk
  clear hl hm hn hk
  go_enter Try.func26, Try.ntmps26
  go_wp2
  go_ret
  refine ⟨ret_bool ?_, rfl⟩
  by_cases h : l = m <;> simp [h]

/-- The same bytes, in a block of their own, or nil. -/
def BClonePost (w : World) (l : List UInt8) (e : Ending) (w' : World) : Prop := ∃ p c, e = .returned (.slice p l.length c) ∧ Bs w' p l ∧ l.length ≤ c ∧ c ≤ 9223372036854775807 ∧ (p = none → c = 0) ∧ (∀ a, p = some a → a.block < w'.heap.size) ∧ Below w.heap.size w w'

set_option maxHeartbeats 400000 in
theorem bClone_any {w : World} {p : Option Addr} {l : List UInt8} (hl : Bs w p l) {n c : Nat} (hn : n = l.length) (hb : n ≤ 1000000) (hz : p = none → c = 0) (hnc : n ≤ c) :
    Calls Try.prog 37 #[.slice p n c] w (BClonePost w l) := by
  cases p with
  | none =>
    obtain rfl := hz rfl
    obtain rfl : n = 0 := by omega
    obtain rfl := List.eq_nil_of_length_eq_zero hn.symm
    have hnil : ∀ w : World, (binOp .eql 22 (.slice none 0 0) (.slice none 0 0)).run Try.prog w = .ok (.bool true) w := fun w => by kernel_rfl
    clear hz hl hn
    go_enter Try.func37, Try.ntmps37
    go_wp2
    go_ret
    exact ⟨none, 0, rfl, Bs.nil _ _, Nat.le_refl _, by omega, fun _ => rfl, fun a h => (by cases h), Below.refl _ _⟩
  | some a =>
    have HL := Lib.hid hl
    have HN := Lib.hid hn
    have HO : Hid (Own (w.alloc (.cells #[] 5)) w.heap.size (.slice (.some ⟨w.heap.size, 0, none⟩) 0 0) []) := Lib.hid (Own.empty w _ (Nat.le_refl _))
    clear hl hn hz
    have hnil : ∀ w : World, (binOp .eql 22 (.slice (some a) n c) (.slice none 0 0)).run Try.prog w = .ok (.bool false) w := fun w => by kernel_rfl
    go_enter Try.func37, Try.ntmps37
    go_wp2_with (at_builtin; refine app_own rfl (.tmp 5) (.tmp 6) rfl rfl HO.out HN.out rfl (HL.out.alloc _) (fun h => by cases h) (by have := HN.out; simp; omega) (by simp) ?_; intro v2 w2 ho2 hb2; have HO2 := Lib.hid ho2; have HB2 := Lib.hid (((Below.refl w.heap.size w).alloc (Nat.le_refl _) _).trans hb2); clear ho2 hb2)
    go_ret
    obtain ⟨q, d, rfl, h1, h2, h3, h4⟩ := HO2.out.form rfl
    refine ⟨q, d, rfl, h3, h1, h2, h4, fun b hb => ?_, HB2.out⟩
    rcases HO2.out.2 with ⟨e, _⟩ | ⟨g, cap, cur, e, _, hg, _⟩
    · injection e with e1 e2 e3
      rw [e1] at hb
      cases hb
    · injection e with e1 e2 e3
      rw [e1] at hb
      cases hb
      exact (Array.getElem?_eq_some_iff.1 hg).1

theorem results_cell_tmp {fn : Func} {p t : Tmp} {ty : TypeId} (h : fn.results = #[.cell p ty, .tmp t]) (tmps : Array Value) (w : World) (g : Nat) (tt : TypeId) (cs : Array Value) (fr : Nat × Nat) {fs : Array Field}
    (hp : tmps.getD p undef = .pointer (some ⟨g, 0, none⟩)) (hg : w.heap[g]? = some (.cells cs tt fr))
    (hu : Try.prog.underlying ty = some (.struct fs)) (hi : (Try.prog.info? ty).map (·.size) = some cs.size) :
    (results fn tmps).run Try.prog w = .ok (.tuple #[.agg cs, tmps.getD t undef]) w := by
  have hp' : tmps[p]?.getD undef = .pointer (some ⟨g, 0, none⟩) := by simpa using hp
  simp [results, h, hp', asAddr, run_loadVar_row w g tt ty cs fr _ hg hu rfl hi, Result.andThen]

end Go.Proofs.Ytigmibmebockhaa
