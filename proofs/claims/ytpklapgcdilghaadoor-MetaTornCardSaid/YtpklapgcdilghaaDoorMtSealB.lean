/-
  meta.Seal: contracts for the walks.
-/
import Derived.Test.YtpklapgcdilghaaDoorMtSeal
set_option linter.unusedVariables false
set_option maxRecDepth 100000
namespace Go.Proofs.YtpklapgcdilghaaDoor
open Go.RowKit

def MSealPost (w : World) (l : List UInt8) (no : Nat) (e : Ending) (w' : World) : Prop := ∃ v, e = .returned (.tuple #[v, .int .i64 (no : Int), .int .i64 0]) ∧ Own w' w.heap.size v l ∧ Below w.heap.size w w'
def MSealBad (w : World) (e : Ending) (w' : World) : Prop := e = .returned (.tuple #[.slice none 0 0, .int .i64 0, .int .i64 2]) ∧ Below w.heap.size w w'

set_option maxHeartbeats 800000 in
theorem mseal_bad {w : World} (g r n d : Int) (h : ¬ MRight g r n d) :
    Calls Tryd.prog 7 #[.agg #[.int .i64 g, .int .i64 r, .int .i64 n, .int .i64 d]] w (MSealBad w) := by
  have HC := Lib.hid fun w : World => right_any (w := w) g r n d false (decide_eq_false h).symm
  clear h
  have hz : Hid (Below w.heap.size w (w.alloc (.cells #[.int .i64 g, .int .i64 r, .int .i64 n, .int .i64 d] 23))) := Lib.hid ((Below.refl _ _).alloc (Nat.le_refl _) _)
  go_enter Tryd.func7, Tryd.ntmps7
  go_wp2_with fail
  with_reducible refine (HC.out _).mono ?_
  rintro e w1 ⟨rfl, hb⟩
  have HB := Lib.hid (hz.out.trans (hb.mono (by simp)))
  clear hb
  go_wp2
  exact bodyPost_ret (v := .tuple #[.slice none 0 0, .int .i64 0, .int .i64 2]) (by simp [results, Tryd.results7, go_sem]) rfl ⟨rfl, HB.out⟩

theorem Is.new (w : World) (t : TypeId) (a b c d : Nat) {g : Nat} (hg : g = w.heap.size) : Is (w.alloc (.cells #[.int .i64 a, .int .i64 b, .int .i64 c, .int .i64 d] t)) g [a, b, c, d] := by
  subst hg
  intro i hi
  rw [Joins.cell_of_block (heap_alloc_new w _)]
  rcases i with _ | _ | _ | _ | i
  · rfl
  · rfl
  · rfl
  · rfl
  · simp at hi; omega

set_option maxHeartbeats 3200000 in
theorem mseal_ok {w : World} (hT : Tab w) {g r n d : Nat} (h : MRight g r n d) :
    Calls Tryd.prog 7 #[.agg #[.int .i64 g, .int .i64 r, .int .i64 n, .int .i64 d]] w (MSealPost w (mPage g r n d) (g % 2)) := by
  have HC := Lib.hid fun w : World => right_any (w := w) g r n d true (decide_eq_true h).symm
  have hb := h.b
  have HF : Hid (flatB [r, n, d, g] = metaB g r n d) := Lib.hid (by simp [flatB, metaB])
  have HL : Hid (32 = (metaB g r n d).length) := Lib.hid (metaB_length g r n d).symm
  have HPG : Hid (pageB 1 (g % 2) g (metaB g r n d) = mPage g r n d) := Lib.hid rfl
  have HPL : Hid ((mPage g r n d).length = 512) := Lib.hid (mPage_length g r n d)
  obtain ⟨m, hm⟩ : ∃ m, m = g % 2 := ⟨_, rfl⟩
  have hmi : (g : Int) % 2 = (m : Int) := by omega
  have HM : Hid (m < 4096) := Lib.hid (by omega)
  have HG : Hid (g ≤ 1152921504606846976) := Lib.hid (by omega)
  have HXS : Hid (∀ x ∈ [r, n, d, g], x < 9223372036854775808) := Lib.hid (by
    intro x hx
    simp only [List.mem_cons, List.not_mem_nil, or_false] at hx
    omega)
  rw [← hm] at HPG ⊢
  clear h hm hb
  generalize mPage g r n d = z at *
  generalize metaB g r n d = y at *
  obtain ⟨W0, hW0⟩ : ∃ W0, W0 = w.alloc (.cells #[.int .i64 g, .int .i64 r, .int .i64 n, .int .i64 d] 23) := ⟨_, rfl⟩
  have HZ : Hid (Below w.heap.size w W0) := Lib.hid (by rw [hW0]; exact (Below.refl _ _).alloc (Nat.le_refl _) _)
  have HK : Hid (∀ w', Below W0.heap.size W0 w' → w'.cell? ⟨w.heap.size, 0, none⟩ = some (.int .i64 (g : Int)) ∧ w'.cell? ⟨w.heap.size, 1, none⟩ = some (.int .i64 (r : Int)) ∧ w'.cell? ⟨w.heap.size, 2, none⟩ = some (.int .i64 (n : Int)) ∧ w'.cell? ⟨w.heap.size, 3, none⟩ = some (.int .i64 (d : Int))) := Lib.hid fun w' hb => by
    have h1 : w'.heap[w.heap.size]? = some (.cells #[.int .i64 g, .int .i64 r, .int .i64 n, .int .i64 d] 23 (0, 0)) := by
      rw [hb.block w.heap.size (by rw [hW0]; simp), hW0]
      exact heap_alloc_new w _
    exact ⟨Joins.cell_of_block h1 0, Joins.cell_of_block h1 1, Joins.cell_of_block h1 2, Joins.cell_of_block h1 3⟩
  have HT : Hid (Tab W0) := Lib.hid (hT.below hT.lt HZ.out)
  clear hT
  go_enter Tryd.func7, Tryd.ntmps7
  go_wp2_with fail
  rw [← hW0]
  clear hW0
  with_reducible refine (HC.out _).mono ?_
  rintro e w1 ⟨rfl, hb1⟩
  have HB1 := Lib.hid hb1
  have HT1 : Hid (∀ w', Below w1.heap.size w1 w' → Tab w') := Lib.hid fun w' hb => by
    have h1 := HT.out.below HT.out.lt HB1.out
    exact h1.below h1.lt hb
  have HK1 : Hid (∀ w', Below w1.heap.size w1 w' → w'.cell? ⟨w.heap.size, 0, none⟩ = some (.int .i64 (g : Int)) ∧ w'.cell? ⟨w.heap.size, 1, none⟩ = some (.int .i64 (r : Int)) ∧ w'.cell? ⟨w.heap.size, 2, none⟩ = some (.int .i64 (n : Int)) ∧ w'.cell? ⟨w.heap.size, 3, none⟩ = some (.int .i64 (d : Int))) := Lib.hid fun w' hb => HK.out w' (HB1.out.trans (hb.mono HB1.out.size))
  have HZ1 : Hid (Below w.heap.size w w1) := Lib.hid (HZ.out.trans (HB1.out.mono HZ.out.size))
  obtain ⟨k0, k1, k2, k3⟩ := HK1.out w1 (Below.refl _ _)
  have HP : Hid (Calls Tryd.prog 15 #[.slice (some ⟨w1.heap.size, 0, none⟩) 4 4] (w1.alloc (.cells #[.int .i64 r, .int .i64 n, .int .i64 d, .int .i64 g] 3)).drew (PutPostM (w1.alloc (.cells #[.int .i64 r, .int .i64 n, .int .i64 d, .int .i64 g] 3)).drew y)) := Lib.hid (by
    have h1 := mput_any ((Is.new w1 3 r n d g rfl).below (Below.refl _ _).drew) rfl HXS.out
    rw [HF.out] at h1
    exact h1)
  have HS : Hid (∀ w' p c, Below w1.heap.size w1 w' → Bs w' p y → 32 ≤ c → c ≤ 9223372036854775807 → Calls Tryd.prog 14 #[.int .u8 1, .int .i64 (m : Int), .int .i64 (g : Int), .slice p 32 c] w' (LayPost w' z)) := Lib.hid fun w' p c hb hp h32 hc => by
    have h1 := seal_ok (HT1.out w' hb) 1 (no := m) (gen := g) HM.out HG.out hp HL.out h32 hc (by omega)
    rw [HPG.out] at h1
    exact h1
  clear hb1 HC HK HB1 HT HZ
  go_wp2_with fail
  clear k0 k1 k2 k3
  go_region_held3 (fun w' => w'.cell? ⟨w.heap.size, 0, none⟩ = some (.int .i64 (g : Int)) ∧ w'.cell? ⟨w.heap.size, 1, none⟩ = some (.int .i64 (r : Int)) ∧ w'.cell? ⟨w.heap.size, 2, none⟩ = some (.int .i64 (n : Int)) ∧ w'.cell? ⟨w.heap.size, 3, none⟩ = some (.int .i64 (d : Int)))
    (first | exact HK1.out _ (Below.refl _ _).drew | exact HK1.out _ (Below.refl _ _).drew | exact HK1.out _ ((Below.refl _ _).alloc (Nat.le_refl _) _).drew | exact HK1.out _ HB2.out | exact HK1.out _ HB3.out)
    (first
      | (go_at_call 15; (with_reducible refine HP.out.mono ?_); rintro e w2 ⟨v2, rfl, h2, hb2⟩; obtain ⟨p2, c2, rfl, j1, j2, j3, j4⟩ := h2.form HL.out; have HB2 : Hid (Below w1.heap.size w1 w2) := Lib.hid (((Below.refl w1.heap.size w1).alloc (Nat.le_refl _) _).drew.trans (hb2.mono (by simp))); have H2 := Lib.hid j3; have J1 := Lib.hid j1; have J2 := Lib.hid j2; clear h2 hb2 j1 j2 j3 j4)
      | (go_at_call 14; (with_reducible refine (HS.out _ _ _ HB2.out H2.out J1.out J2.out).mono ?_); rintro e w3 ⟨rfl, h3, hb3⟩; have HB3 : Hid (Below w1.heap.size w1 w3) := Lib.hid (HB2.out.trans (hb3.mono HB2.out.size)); have H3 := Lib.hid h3; clear h3 hb3))
  go_wp2
  refine bodyPost_ret (v := .tuple #[.slice (some ⟨w2.heap.size, 0, none⟩) 512 512, .int .i64 (m : Int), .int .i64 0]) (by simp [results, Tryd.results7, go_sem]) rfl ⟨_, rfl, ?_, HZ1.out.trans (HB3.out.mono HZ1.out.size)⟩
  exact H3.out.own (by have h1 := HB2.out.size; have h2 := HZ1.out.size; omega) HPL.out.symm (by rw [HPL.out]; omega)

end Go.Proofs.YtpklapgcdilghaaDoor
