/-
  page.lay and page.Seal: contracts for the walks.
-/
import Derived.Test.YtpmiakcngjihnaaDoorPgSum
import Derived.Test.YtpmiakcngjihnaaDoorPgNum
import Derived.BigQuiet
set_option linter.unusedVariables false
set_option maxRecDepth 100000
namespace Go.Proofs.YtpmiakcngjihnaaDoor
open Go.RowKit

theorem PSec.set {w : World} {g : Nat} {l : List UInt8} (h : PSec w g l) (i : Nat) (u : UInt8) {x : Int} (hx : x = (u.toNat : Int)) : PSec (w.setCell ⟨g, i, none⟩ (.int .u8 x)) g (l.set i u) := by
  subst hx
  unfold PSec
  rw [heap_setCell_same w g i _ _ _ h]
  simp [u8s, List.map_set]
theorem PSec.cell {w : World} {g : Nat} {l : List UInt8} (h : PSec w g l) {i : Nat} (hi : i < l.length) : w.cell? ⟨g, i, none⟩ = some (.int .u8 (l[i].toNat : Int)) := by
  have := h.bs.cell hi
  rwa [Nat.zero_add] at this
theorem PSec.soft {w : World} {g : Nat} {l : List UInt8} (h : PSec w g l) (i : Nat) : w.frozen? ⟨g, i, none⟩ = false := Joins.unfrozen_of_block h i

theorem splL_zeros {a m : List UInt8} {o k r : Nat} (ha : a.length = o) (hm : m.length = k) : splL (a ++ List.replicate (k + r) 0) o m = (a ++ m) ++ List.replicate r 0 := by
  subst ha hm
  unfold splL
  rw [List.take_left' rfl, List.drop_append, List.drop_eq_nil_of_le (by omega), List.drop_replicate]
  simp

/-- A page that has no sum yet. -/
def layB (kind : UInt8) (no gen : Nat) (l : List UInt8) : List UInt8 := headB kind no gen l ++ List.replicate 4 0
theorem lay_steps {kind : UInt8} {no gen : Nat} {l : List UInt8} (h : l.length ≤ 493) :
    splL (splL (splL (splL ((List.replicate 512 0).set 0 kind) 1 (leB 4 no)) 5 (leB 8 gen)) 13 (leB 2 l.length)) 15 l = layB kind no gen l := by
  have e0 : (List.replicate 512 (0 : UInt8)).set 0 kind = [kind] ++ List.replicate (4 + 507) 0 := rfl
  have e1 : (507 : Nat) = 8 + 499 := rfl
  have e2 : (499 : Nat) = 2 + 497 := rfl
  have e3 : (497 : Nat) = l.length + (497 - l.length) := by omega
  rw [e0, splL_zeros (o := 1) rfl (leB_length 4 no), e1, splL_zeros (by simp [leB_length]) (leB_length 8 gen), e2, splL_zeros (by simp [leB_length]) (leB_length 2 _), e3, splL_zeros (by simp [leB_length]) rfl]
  unfold layB headB
  have e4 : 497 - l.length = (493 - l.length) + 4 := by omega
  rw [e4, ← List.replicate_append_replicate]
  simp only [List.append_assoc, List.cons_append, List.nil_append]
theorem layB_length {kind : UInt8} {no gen : Nat} {l : List UInt8} (h : l.length ≤ 493) : (layB kind no gen l).length = 512 := by
  rw [layB, List.length_append, headB_length h, List.length_replicate]

def BadPost (w : World) (x : Nat) (e : Ending) (w' : World) : Prop := e = .returned (.tuple #[.slice none 0 0, .int .i64 (x : Int)]) ∧ w = w'
def LayPost (w : World) (l : List UInt8) (e : Ending) (w' : World) : Prop := e = .returned (.tuple #[.slice (some ⟨w.heap.size, 0, none⟩) 512 512, .int .i64 0]) ∧ PSec w' w.heap.size l ∧ Below w.heap.size w w'

set_option maxHeartbeats 800000 in
theorem lay_bad {w : World} (k : Int) {no gen : Int} {p : Option Addr} {n c : Nat} {z : Nat} (hz : z = sealE no gen n) (hb : z ≠ 0) (hn : n ≤ 9223372036854775807) :
    Calls Tryd.prog 78 #[.int .u8 k, .int .i64 no, .int .i64 gen, .slice p n c] w (BadPost w z) := by
  by_cases h1 : no < 0
  · replace hz : z = 2 := by rw [hz]; unfold sealE; rw [if_pos (by omega)]
    subst hz
    clear hb
    go_enter Tryd.func78, Tryd.ntmps78
    go_wp2
    exact bodyPost_ret (v := .tuple #[.slice none 0 0, .int .i64 2]) (by simp [results, Tryd.results78, go_sem]) rfl ⟨rfl, rfl⟩
  by_cases h2 : 4096 ≤ no
  · replace hz : z = 2 := by rw [hz]; unfold sealE; rw [if_pos (by omega)]
    subst hz
    clear hb
    go_enter Tryd.func78, Tryd.ntmps78
    go_wp2
    exact bodyPost_ret (v := .tuple #[.slice none 0 0, .int .i64 2]) (by simp [results, Tryd.results78, go_sem]) rfl ⟨rfl, rfl⟩
  by_cases h3 : gen < 0
  · replace hz : z = 2 := by rw [hz]; unfold sealE; rw [if_pos (by omega)]
    subst hz
    clear hb
    go_enter Tryd.func78, Tryd.ntmps78
    go_wp2
    exact bodyPost_ret (v := .tuple #[.slice none 0 0, .int .i64 2]) (by simp [results, Tryd.results78, go_sem]) rfl ⟨rfl, rfl⟩
  by_cases h4 : 1152921504606846976 < gen
  · replace hz : z = 2 := by rw [hz]; unfold sealE; rw [if_pos (by omega)]
    subst hz
    clear hb
    go_enter Tryd.func78, Tryd.ntmps78
    go_wp2
    exact bodyPost_ret (v := .tuple #[.slice none 0 0, .int .i64 2]) (by simp [results, Tryd.results78, go_sem]) rfl ⟨rfl, rfl⟩
  by_cases h5 : 493 < n
  · replace hz : z = 3 := by rw [hz]; unfold sealE; rw [if_neg (by omega), if_pos h5]
    subst hz
    clear hb
    go_enter Tryd.func78, Tryd.ntmps78
    go_wp2
    exact bodyPost_ret (v := .tuple #[.slice none 0 0, .int .i64 3]) (by simp [results, Tryd.results78, go_sem]) rfl ⟨rfl, rfl⟩
  · exact absurd (by rw [hz]; unfold sealE; rw [if_neg (by omega), if_neg h5]) hb

set_option maxHeartbeats 1600000 in
theorem lay_ok {w : World} (kind : UInt8) {no gen : Nat} (hno : no < 4096) (hg : gen ≤ 1152921504606846976) {p : Option Addr} {l : List UInt8} (hl : Bs w p l) {n c : Nat} (hn : n = l.length) (hnc : n ≤ c) (hc : c ≤ 9223372036854775807) (h493 : n ≤ 493) :
    Calls Tryd.prog 78 #[.int .u8 (kind.toNat : Int), .int .i64 (no : Int), .int .i64 (gen : Int), .slice p n c] w (LayPost w (layB kind no gen l)) := by
  have HL := Lib.hid hl
  have HN := Lib.hid hn
  have HS := Lib.hid (lay_steps (kind := kind) (no := no) (gen := gen) (l := l) (by omega))
  rw [← hn] at HS
  have g2 : ¬ (4096 : Int) ≤ (no : Int) := by omega
  have g3 : ¬ (1152921504606846976 : Int) < (gen : Int) := by omega
  have HM : Hid (l.length = min n 493) := Lib.hid (by omega)
  have n1 : ((List.replicate 512 (0 : UInt8)).set 0 kind).length = 512 := by simp
  have n2 : (splL ((List.replicate 512 (0 : UInt8)).set 0 kind) 1 (leB 4 no)).length = 512 := by rw [splL_length (by rw [n1, leB_length]; omega), n1]
  have n3 : (splL (splL ((List.replicate 512 (0 : UInt8)).set 0 kind) 1 (leB 4 no)) 5 (leB 8 gen)).length = 512 := by rw [splL_length (by rw [n2, leB_length]; omega), n2]
  have n4 : (splL (splL (splL ((List.replicate 512 (0 : UInt8)).set 0 kind) 1 (leB 4 no)) 5 (leB 8 gen)) 13 (leB 2 n)).length = 512 := by rw [splL_length (by rw [n3, leB_length]; omega), n3]
  have N1 := Lib.hid n1
  have N2 := Lib.hid n2
  have N3 := Lib.hid n3
  have N4 := Lib.hid n4
  have HG : Hid (gen < 18446744073709551616) := Lib.hid (by omega)
  clear hl hn n1 n2 n3 n4 hg
  go_enter Tryd.func78, Tryd.ntmps78
  go_wp2_with (at_make; go_loud (refine pmake_u8 rfl _ _ rfl rfl rfl ?_; intro w1 h1 hb1 hs1; have H1 := Lib.hid h1; have HB1 := Lib.hid hb1; have hg1 : w.heap.size < w1.heap.size := (by omega); have c1 := h1.cell (i := 0) (by simp); have f1 := h1.soft 0; clear h1 hb1 hs1))
  have HB2 := Lib.hid (HB1.out.setCell (p := ⟨w.heap.size, 0, none⟩) (Nat.le_refl _) (.int .u8 (kind.toNat : Int)))
  have HC := Lib.hid (put_any (n := 4) (c := 511) (o := 1) (B := w.heap.size) (H1.out.set 0 kind rfl) (Nat.le_refl _) (by rw [N1.out]; omega) (by omega) (by omega) (by omega) (x := no) (by omega))
  generalize w1.setCell ⟨w.heap.size, 0, none⟩ (.int .u8 (kind.toNat : Int)) = w2 at *
  clear H1 HB1 c1 f1
  with_reducible refine HC.out.mono ?_
  rintro e w3 ⟨rfl, h3, hb3⟩
  have H3 := Lib.hid h3
  have HB3 := Lib.hid (HB2.out.trans hb3)
  clear h3 hb3 HC
  go_wp2_with fail
  have HC := Lib.hid (put_any (n := 8) (c := 507) (o := 5) (B := w.heap.size) H3.out (Nat.le_refl _) (by rw [N2.out]; omega) (by omega) (by omega) (by omega) (x := gen) HG.out)
  with_reducible refine HC.out.mono ?_
  rintro e w4 ⟨rfl, h4, hb4⟩
  have H4 := Lib.hid h4
  have HB4 := Lib.hid (HB3.out.trans hb4)
  clear h4 hb4 HC H3 HB3 HB2
  go_wp2_with fail
  have HC := Lib.hid (put_any (n := 2) (c := 499) (o := 13) (B := w.heap.size) H4.out (Nat.le_refl _) (by rw [N3.out]; omega) (by omega) (by omega) (by omega) (x := n) (by omega))
  with_reducible refine HC.out.mono ?_
  rintro e w5 ⟨rfl, h5, hb5⟩
  have H5 := Lib.hid h5
  have HB5 := Lib.hid (HB4.out.trans hb5)
  clear h5 hb5 HC H4 HB4
  have hl5 : Bs w5 p l := HL.out.below HB5.out
  have HL5 := Lib.hid hl5
  clear hl5
  go_wp2_with (refine pcopy_u8 rfl (.tmp 49) (.tmp 50) rfl rfl H5.out (by rw [N4.out]; omega) rfl HL5.out HM.out HB5.out (Nat.le_refl _) ?_; intro w6 h6 hb6; have H6 := Lib.hid h6; have HB6 := Lib.hid hb6; clear h6 hb6)
  exact bodyPost_ret (v := .tuple #[.slice (some ⟨w.heap.size, 0, none⟩) 512 512, .int .i64 0]) (by simp [results, Tryd.results78, go_sem]) rfl ⟨rfl, by rw [← HS.out]; exact H6.out, HB6.out⟩

end Go.Proofs.YtpmiakcngjihnaaDoor
