/-
  The laws' short: its contract.
-/
import Derived.Test.YtcgjefaebofikaaGreatDoorVAt
set_option linter.unusedVariables false
set_option maxRecDepth 100000
namespace Go.Proofs.YtcgjefaebofikaaGreatDoor
open Go.RowKit

/-- It tells something. -/
def SomeBool (w : World) (e : Ending) (w' : World) : Prop := ∃ b : Bool, e = .returned (.bool b) ∧ Below w.heap.size w w'

set_option maxHeartbeats 1600000 in
theorem short_any {w : World} {k n : Int} {f : Nat} {s : ByteArray} {q : Option Addr} {m c : Nat} {l : List At} (h : VaOk w ⟨k, n, f, s⟩ q m c l) :
    Calls Tryz.prog 4 #[.agg #[.int .i64 k, .int .i64 n, .float .f64 f, .string s, .slice q m c]] w (SomeBool w) := by
  obtain ⟨hok, hn, h1, h2, hl, _⟩ := h
  have HN := Lib.hid hn
  have HL := Lib.hid hl
  have hs := hok.s1
  simp only at hs
  clear hn hl hok
  go_enter Tryz.func4, Tryz.ntmps4
  go_wp2
  go_loopw [3, 4] (fun x i wr => ∃ (j : Nat) (y : Int), i = .int .i64 j ∧ x = .int .i64 y ∧ j ≤ m ∧ Below (w.alloc (.cells #[.int .i64 k, .int .i64 n, .float .f64 f, .string s, .slice q m c] 27)).heap.size (w.alloc (.cells #[.int .i64 k, .int .i64 n, .float .f64 f, .string s, .slice q m c] 27)) wr) (fun _ i _ => m - (intOf i).toNat)
  case atStart => exact ⟨0, _, rfl, rfl, by omega, Below.refl _ _⟩
  case round =>
    obtain ⟨j, y, rfl, rfl, hj, hb⟩ := hrel
    have c4 := box_cell hb 4
    have HB := Lib.hid hb
    clear hb
    by_cases hlt : j < m
    · have hjl : j < l.length := by have := HN.out; omega
      obtain ⟨a, ha⟩ : ∃ a, l[j]? = some a := ⟨_, List.getElem?_eq_getElem hjl⟩
      obtain ⟨b, o, rfl, hc⟩ := HL.out.at ha
      obtain ⟨c0, c1, c2, c3⟩ := hc.below (box_below HB.out)
      clear hc ha hjl
      by_cases hy : y < 6000
      · go_wp2
        go_roundw
        case rel => exact ⟨j + 1, _, by go_num, rfl, by omega, HB.out⟩
        case measure => simp [intOf]; omega
      · go_wp2
        go_ret
        exact ⟨_, rfl, box_below HB.out⟩
    · go_wp2
      go_ret
      exact ⟨_, rfl, box_below HB.out⟩

end Go.Proofs.YtcgjefaebofikaaGreatDoor
