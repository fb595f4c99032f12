/-
  ValueLists: lists are in order atom by atom: what begins a list is below it, and what stands ahead decides. Conditions: none.
-/
import Derived.Test.YtekaedafhiddeaaVOwn
import Derived.Test.YtekaedafhiddeaaVCmpV
import Derived.Test.YtekaedafhiddeaaVOrd
import Derived.Test.YtekaedafhiddeaaVOfI
import Derived.Outline
set_option linter.unusedVariables false
set_option maxRecDepth 100000
namespace Go.Proofs.Ytekaedafhiddeaa
open Go.RowKit

/-- What the law's own function makes of the atoms ahead and its own. -/
def ListPost (l : List At) (w : World) (e : Ending) (w' : World) : Prop := ∃ v, e = .returned (.agg #[.int .i64 6, .int .i64 0, .float .f64 0, .string ⟨#[]⟩, v]) ∧ AOwn w' w.heap.size v l ∧ Below w.heap.size w w'

set_option maxHeartbeats 800000 in
theorem list_any {w : World} {B : Nat} {q p : Option Addr} {m c n d : Nat} {a l : List At} (hc : w.cell? ⟨B, 0, none⟩ = some (.slice q m c)) (hm : m = a.length) (hq : q = none → c = 0) (ha : As w q a) (hn : n = l.length) (hp : p = none → d = 0) (hl : As w p l) (hlen : a.length + l.length ≤ 1000) :
    Calls Try.prog 20 #[.slice p n d, .pointer (some ⟨B, 0, none⟩)] w (ListPost (a ++ l) w) := by
  have hst := store_flt
  have hB := World.block_lt_of_cell? _ _ hc
  simp only at hB
  have HA := Lib.hid ha
  have HL := Lib.hid hl
  have HM := Lib.hid hm
  have HN := Lib.hid hn
  have HQ := Lib.hid hq
  have HP := Lib.hid hp
  have HLEN := Lib.hid hlen
  clear ha hl hm hn hq hp hlen
  go_enter Try.func20, Try.ntmps20
  obtain ⟨W, hW⟩ : ∃ W, W = (w.alloc (.cells #[.int .i64 0, .int .i64 0, .float .f64 0, .string ⟨#[]⟩, .slice none 0 0] 46)).alloc (.cells #[] 43) := ⟨_, rfl⟩
  have hsz : W.heap.size = w.heap.size + 2 := by rw [hW]; simp
  have HWB : Hid (Below w.heap.size w W) := Lib.hid (by rw [hW]; exact box2_below (Below.refl _ _))
  have HW1 : Hid (W.heap[w.heap.size]? = some (.cells #[.int .i64 0, .int .i64 0, .float .f64 0, .string ⟨#[]⟩, .slice none 0 0] 46 (0, 0))) := Lib.hid (by
    rw [hW, Below.heap_alloc _ _ _ (by simp)]
    exact heap_alloc_new w _)
  have HO0 : Hid (AOwn W (w.heap.size + 1) (.slice (some ⟨w.heap.size + 1, 0, none⟩) 0 0) []) := Lib.hid (by
    rw [hW]
    exact AOwn.fresh (by simp) (Nat.le_refl _))
  obtain ⟨n2, hn2⟩ : ∃ x, x = (a ++ l).length := ⟨_, rfl⟩
  have HN2 := Lib.hid hn2
  clear hn2
  have HSZ := Lib.hid hsz
  clear hsz
  go_wp2_with (first
    | (at_builtin
       rw [← hW]
       refine app_atoms rfl (.tmp 5) (.tmp 6) rfl (B := w.heap.size + 1) rfl HO0.out HM.out rfl (HA.out.below HWB.out) HQ.out (by have := HLEN.out; simp; omega) (by have := HSZ.out; omega) ?_
       intro v1 w1 ho1 hb1
       rw [List.nil_append] at ho1
       have HO1 := Lib.hid ho1
       have HB1 := Lib.hid hb1
       have HS1 : Hid (w.heap.size + 2 ≤ w1.heap.size) := Lib.hid (by have := hb1.size; have := HSZ.out; omega)
       clear ho1 hb1)
    | (at_builtin
       refine app_atoms rfl (.tmp 7) (.tmp 8) rfl (B := w.heap.size + 1) rfl HO1.out HN.out rfl (HL.out.below (HWB.out.trans (HB1.out.mono (by have := HWB.out.size; omega)))) HP.out (by have := HLEN.out; omega) (by have := HS1.out; omega) ?_
       intro v2 w2 ho2 hb2
       have HB2 := Lib.hid (HB1.out.trans hb2)
       obtain ⟨p2, c2, rfl, _, _, _⟩ := ho2.form HN2.out
       have HO2 := Lib.hid ho2
       obtain ⟨g0, f0⟩ := own_cell HW1.out HB2.out 0
       obtain ⟨g1, f1⟩ := own_cell HW1.out HB2.out 1
       obtain ⟨g2, f2⟩ := own_cell HW1.out HB2.out 2
       obtain ⟨g3, f3⟩ := own_cell HW1.out HB2.out 3
       obtain ⟨g4, f4⟩ := own_cell HW1.out HB2.out 4
       have hsz2 : w.heap.size < w2.heap.size := by have := HB2.out.size; have := HSZ.out; omega
       clear ho2 hb2))
  have ho : AOwn _ _ _ _ := (((((HO2.out.far (p := ⟨w.heap.size, 0, none⟩) (by simp) (.int .i64 6)).far (p := ⟨w.heap.size, 1, none⟩) (by simp) (.int .i64 0)).far (p := ⟨w.heap.size, 2, none⟩) (by simp) (.float .f64 0)).far (p := ⟨w.heap.size, 3, none⟩) (by simp) (.string ⟨#[]⟩)).far (p := ⟨w.heap.size, 4, none⟩) (by simp) (.slice p2 n2 c2))
  have hbw : Below w.heap.size w w2 := HWB.out.trans (HB2.out.mono (by omega))
  exact bodyPost_ret (v := .agg #[.int .i64 6, .int .i64 0, .float .f64 0, .string ⟨#[]⟩, .slice p2 n2 c2]) (by simp [results, Try.results20, go_sem, g0, g1, g2, g3, g4]) rfl ⟨_, rfl, ho.le (by omega), ((((hbw.setCell (by simp) _).setCell (by simp) _).setCell (by simp) _).setCell (by simp) _).setCell (by simp) _⟩

end Go.Proofs.Ytekaedafhiddeaa
