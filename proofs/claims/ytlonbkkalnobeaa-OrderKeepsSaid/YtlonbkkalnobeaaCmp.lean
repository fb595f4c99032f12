/-
  order.Compare, bytes.Compare and the reference's Compare tell the order of two byte slices: contracts for the walks.
-/
import Derived.Test.YtlonbkkalnobeaaBytes
import Derived.Deep.QuietTactic
import Derived.BigQuiet
set_option linter.unusedVariables false
namespace Go.Proofs.Ytlonbkkalnobeaa
open Go.RowKit

set_option maxHeartbeats 400000 in
theorem bytesCompare_any {w : World} {p q : Option Addr} {l m : List UInt8} (hl : Bs w p l) (hm : Bs w q m) (n c k d : Nat) (hn : n = l.length) (hk : k = m.length) (hp : p = none → c = 0) (hq : q = none → d = 0) :
    Calls Try.prog 28 #[.slice p n c, .slice q k d] w fun e w' => e = .returned (.int .i64 (Lib.compareBytes l m)) ∧ w = w' := by
  have hr := run_cmp hl hm hn hk hp hq
  have hx : (callFunc 32 #[.slice p n c, .slice q k d]).run Try.prog w = .ok (.value (.int .i64 (Lib.compareBytes l m))) w := by
    rw [run_callFunc_extern Try.func32 (by kernel_rfl) (by kernel_rfl) (by kernel_rfl) (e := Extern.BytealgCompare.compare) (by kernel_rfl), hr]
    rfl
  clear hr hl hm hn hk hp hq
  generalize Lib.compareBytes l m = r at hx ⊢
  go_enter Try.func28, Try.ntmps28
  go_wp2
  go_ret
  exact ⟨rfl, rfl⟩

set_option maxHeartbeats 400000 in
theorem compare_any {w : World} {p q : Option Addr} {l m : List UInt8} (hl : Bs w p l) (hm : Bs w q m) (n c k d : Nat) (hn : n = l.length) (hk : k = m.length) (hp : p = none → c = 0) (hq : q = none → d = 0) :
    Calls Try.prog 21 #[.slice p n c, .slice q k d] w fun e w' => e = .returned (.int .i64 (Lib.compareBytes l m)) ∧ w = w' := by
  have H := bytesCompare_any hl hm n c k d hn hk hp hq
  have H := Lib.hid H
  clear hl hm hn hk hp hq
  generalize Lib.compareBytes l m = r at H ⊢
  go_enter Try.func21, Try.ntmps21
  go_wp2_with (go_at_call 28; refine H.out.mono ?_; rintro e w' ⟨rfl, rfl⟩)
  go_ret
  exact ⟨rfl, rfl⟩

end Go.Proofs.Ytlonbkkalnobeaa
