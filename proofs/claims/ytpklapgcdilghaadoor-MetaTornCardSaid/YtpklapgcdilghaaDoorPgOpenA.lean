/-
  bytes.Equal, bytes.Clone; page.Sum, page.get and the reference's at slices of any capacity, as calls that change nothing: contracts for the walks.
-/
import Derived.Test.YtpklapgcdilghaaDoorPgSealR
import Derived.BigQuiet
set_option linter.unusedVariables false
set_option maxRecDepth 100000
namespace Go.Proofs.YtpklapgcdilghaaDoor
open Go.RowKit

set_option maxHeartbeats 400000 in
theorem bequal_any {w : World} {p q : Option Addr} {l m : List UInt8} (hl : Bs w p l) (hm : Bs w q m) {n k c d : Nat} (hn : n = l.length) (hk : k = m.length) :
    Calls Tryd.prog 21 #[.slice p n c, .slice q k d] w fun e w' => e = .returned (.bool (decide (l = m))) ∧ w' = w := by
  have h1 := str_of hl (c := c) hn
  have h2 := str_of hm (c := d) hk
  clear hl hm hn hk
  go_enter Tryd.func21, Tryd.ntmps21
  go_wp2
  go_ret
  refine ⟨ret_bool ?_, rfl⟩
  by_cases h : l = m <;> simp [h]

def ClonePost (w : World) (l : List UInt8) (e : Ending) (w' : World) : Prop := ∃ v, e = .returned v ∧ Own w' w.heap.size v l ∧ Below w.heap.size w w'

set_option maxHeartbeats 400000 in
theorem clone_any {w : World} {a : Addr} {l : List UInt8} (hl : Bs w (some a) l) {n c : Nat} (hn : n = l.length) (hb : n ≤ 1000000) :
    Calls Tryd.prog 34 #[.slice (some a) n c] w (ClonePost w l) := by
  have HL := Lib.hid hl
  have HN := Lib.hid hn
  have HO : Hid (Own (w.alloc (.cells #[] 5)) w.heap.size (.slice (.some ⟨w.heap.size, 0, none⟩) 0 0) []) := Lib.hid (Own.empty w _ (Nat.le_refl _))
  clear hl hn
  have hnil : ∀ w : World, (binOp .eql 24 (.slice (some a) n c) (.slice none 0 0)).run Tryd.prog w = .ok (.bool false) w := fun w => by kernel_rfl
  go_enter Tryd.func34, Tryd.ntmps34
  go_wp2_with (at_builtin; refine app_own rfl (.tmp 5) (.tmp 6) rfl rfl HO.out HN.out rfl (HL.out.alloc _) (fun h => by cases h) (by have := HN.out; simp; omega) (by simp) ?_; intro v2 w2 ho2 hb2; have HO2 := Lib.hid ho2; have HB2 := Lib.hid (((Below.refl w.heap.size w).alloc (Nat.le_refl _) _).trans hb2); clear ho2 hb2)
  go_ret
  exact ⟨_, rfl, HO2.out, HB2.out⟩

end Go.Proofs.YtpklapgcdilghaaDoor
