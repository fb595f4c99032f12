/-
  Read's deferred closure: its two contracts.
-/
import Derived.Test.YtckmajcophpddaaDoorVRdV
import Derived.Defers
import Derived.Recover
set_option linter.unusedVariables false
set_option linter.unusedSimpArgs false
set_option maxRecDepth 100000
namespace Go.Proofs.YtckmajcophpddaaDoor
open Go.RowKit

set_option maxHeartbeats 1000000 in
theorem catch_idle (a b c : Addr) (w : World) :
    CallsD Tryd.prog 10 #[.pointer (some a), .pointer (some b), .pointer (some c)] .returning w fun e u' w' => e = .returned (.tuple #[]) ∧ u' = .returning ∧ w' = w := by
  refine callsD_of_wpS Tryd.func10 rfl fun c₀ cs hu => ?_
  apply wpS_seq
  apply wpS_region
  simp [wpOpsS, go_sem, recoverD, hu, Tryd.ntmps10, Exit.thenS]
  refine wpS_of_wp ?_
  go_wp2
  cases c₀
  simp_all [bodyPostS, results, Tryd.results10]

set_option maxHeartbeats 2000000 in
theorem catch_panicking {A B C : Nat} (x : Int) (older : List PanicEntry) (w : World) {a0 a1 a2 a3 a4 b0 c0 : Value} (hAB : A ≠ B) (hAC : A ≠ C) (hBC : B ≠ C)
    (g0 : w.cell? ⟨A, 0, none⟩ = some a0) (g1 : w.cell? ⟨A, 1, none⟩ = some a1) (g2 : w.cell? ⟨A, 2, none⟩ = some a2) (g3 : w.cell? ⟨A, 3, none⟩ = some a3) (g4 : w.cell? ⟨A, 4, none⟩ = some a4)
    (f0 : w.frozen? ⟨A, 0, none⟩ = false) (f1 : w.frozen? ⟨A, 1, none⟩ = false) (f2 : w.frozen? ⟨A, 2, none⟩ = false) (f3 : w.frozen? ⟨A, 3, none⟩ = false) (f4 : w.frozen? ⟨A, 4, none⟩ = false)
    (gb : w.cell? ⟨B, 0, none⟩ = some b0) (fb : w.frozen? ⟨B, 0, none⟩ = false) (gc : w.cell? ⟨C, 0, none⟩ = some c0) (fc : w.frozen? ⟨C, 0, none⟩ = false) :
    CallsD Tryd.prog 10 #[.pointer (some ⟨A, 0, none⟩), .pointer (some ⟨B, 0, none⟩), .pointer (some ⟨C, 0, none⟩)] (.panicking ({ v := .iface 28 (.int .i64 x), recovered := false } :: older)) w fun e u' w' =>
      e = .returned (.tuple #[]) ∧ u' = .panicking ({ v := .iface 28 (.int .i64 x), recovered := true } :: older) ∧
      w' = (((((((w.setCell ⟨A, 0, none⟩ (.int .i64 0)).setCell ⟨A, 1, none⟩ (.int .i64 0)).setCell ⟨A, 2, none⟩ (.float .f64 0)).setCell ⟨A, 3, none⟩ (.string ⟨#[]⟩)).setCell ⟨A, 4, none⟩ (.slice none 0 0)).setCell ⟨B, 0, none⟩ (.int .i64 0)).setCell ⟨C, 0, none⟩ (.int .i64 x)).drew := by
  have hst := store_flt
  have hrep : Array.replicate 7 undef = #[undef, undef, undef, undef, undef, undef, undef] := rfl
  refine callsD_of_wpS Tryd.func10 rfl fun c₀ cs hu => ?_
  apply wpS_seq
  apply wpS_region
  simp [wpOpsS, go_sem, recoverD, hu, Tryd.ntmps10, Exit.thenS, hrep]
  clear hrep
  replace hu := Lib.hid hu
  have hta : ∀ w, (Instr.typeAssert (.iface 28 (.int .i64 x)) 20 28 false).run Tryd.prog w = .ok (.int .i64 x) w := fun _ => by kernel_rfl
  refine wpS_of_wp ?_
  go_wp2_with fail
  go_region
  go_wp2
  have hu2 := hu.out
  cases c₀
  simp only at hu2
  simp [bodyPostS, results, Tryd.results10]

end Go.Proofs.YtckmajcophpddaaDoor
