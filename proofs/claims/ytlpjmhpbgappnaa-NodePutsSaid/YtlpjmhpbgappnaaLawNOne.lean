/-
  NodeOne: the walk of the law.
-/
import Derived.Test.YtlpjmhpbgappnaaNdRead
set_option linter.unusedVariables false
set_option linter.unusedSimpArgs false
set_option maxRecDepth 100000
namespace Go.Proofs.Ytlpjmhpbgappnaa
open Go.RowKit

/-- The leaf without entries. -/
def Nd.bare : Nd := ⟨true, none, 0, [], none, 0, [], none, 0, []⟩
theorem Nd.bare_ok (w : World) : Nd.bare.Ok w := ⟨Nat.le_refl _, (by show 0 ≤ _; omega), fun _ => rfl, (fun h => absurd rfl h), (fun x hx => by cases hx), Nat.le_refl _, (by show 0 ≤ _; omega), fun _ => rfl, (fun h => absurd rfl h), (fun x hx => by cases hx), Nat.le_refl _, (by show 0 ≤ _; omega), fun _ => rfl, (fun h => absurd rfl h), (fun x hx => by cases hx)⟩
theorem bare_right : Nd.bare.s.Right :=
  ⟨Nat.zero_le _, fun i k h => by simp [Nd.bare, Nd.s] at h, fun _ => ⟨rfl, rfl, fun v hv => by simp [Nd.bare, Nd.s] at hv⟩, fun h => (by cases h), by decide⟩
theorem bare_put : Nd.bare.s.put = [0] := rfl
/-- Put of it. -/
theorem putBare_any (w : World) : Calls Try.prog 9 #[.agg #[.bool true, .slice none 0 0, .slice none 0 0, .slice none 0 0]] w fun e w' => ∃ g c, e = .returned (.tuple #[.slice (some ⟨g, 0, none⟩) 1 c, .int .i64 0]) ∧ 1 ≤ c ∧ Below w.heap.size w w' := by
  refine (put_any (Nd.bare_ok w) (by decide)).mono ?_
  rintro e w' (⟨h, _⟩ | ⟨_, g, k, c, rfl, hk, ho, hb⟩)
  · exact absurd bare_right h
  · rw [bare_put] at hk ho
    obtain rfl : k = 1 := hk
    obtain ⟨_, _, hv, h1, _⟩ := ho.form rfl
    cases hv
    exact ⟨g, c, rfl, h1, hb⟩
/-- Put of a node that was read. -/
theorem putRead_any {w : World} {n : Nd} (h : n.Ok w) (hc : n.s.count ≤ 100000) (hr : n.s.Right) : Calls Try.prog 9 #[n.cell] w fun e w' => ∃ g k c, e = .returned (.tuple #[.slice (some ⟨g, 0, none⟩) k c, .int .i64 0]) ∧ k = n.s.put.length ∧ Own w' w.heap.size (.slice (some ⟨g, 0, none⟩) k c) n.s.put ∧ Below w.heap.size w w' := by
  refine (put_any h hc).mono ?_
  rintro e w' (⟨h, _⟩ | ⟨_, h⟩)
  · exact absurd hr h
  · exact h
theorem readS_count {k : Nat} {b : List UInt8} {s : NdS} (h : readS k b s) : s.count ≤ 100000 := by
  have hs := h.1
  unfold preS at hs
  split at hs
  · cases hs
  · split at hs
    · cases hs
      exact leafS_count b (by omega)
    · split at hs
      · cases hs
        exact branchS_count b (by omega)
      · cases hs

def LawPost (w : World) (e : Ending) (w' : World) : Prop := e = .returned (.bool true) ∧ Below w.heap.size w w'

set_option maxHeartbeats 3200000 in
theorem nodeOne_law {w : World} (k : Nat) {q : Option Addr} {m c : Nat} {l : List UInt8} (hm : m = l.length) (hmc : m ≤ c) (hc : c ≤ 9223372036854775807) (hz : q = none → c = 0) (hbs : Bs w q l) :
    Calls Try.prog 6 #[.int .u8 (k : Int), .slice q m c] w (LawPost w) := by
  by_cases hlen : 600 < m
  · have HBS := Lib.hid (hbs.take 600)
    have HM : Hid (600 = (l.take 600).length) := Lib.hid (by rw [List.length_take]; omega)
    have HRD := Lib.hid (read_any k HBS.out HM.out (by omega) hc hz)
    have h6 : 600 ≤ c := by omega
    generalize l.take 600 = l' at *
    clear hbs hm hz
    go_enter Try.func6, Try.ntmps6
    go_wp2_with fail
    refine HRD.out.mono ?_
    rintro e w1 (⟨n, rfl, hrs, hok, hb⟩ | ⟨rfl, _, hb⟩)
    · obtain ⟨W, hW⟩ : ∃ W, W = w1.alloc (.cells #[.bool n.leaf, .slice n.kq n.ks.length n.kc, .slice n.vq n.vs.length n.vc, .slice n.iq n.is.length n.ic] 26) := ⟨_, rfl⟩
      have hbox : W.heap[w1.heap.size]? = some (.cells #[.bool n.leaf, .slice n.kq n.ks.length n.kc, .slice n.vq n.vs.length n.vc, .slice n.iq n.is.length n.ic] 26 (0, 0)) := by rw [hW]; exact heap_alloc_new w1 _
      have HBW : Hid (Below w.heap.size w W) := Lib.hid (by rw [hW]; exact hb.alloc hb.size _)
      have HPT := Lib.hid (putRead_any (hok.below (w' := W) (by rw [hW]; exact (Below.refl _ _).alloc (Nat.le_refl _) _)) (readS_count hrs) hrs.2.1)
      have HRS := Lib.hid hrs
      have c0 := (Joins.cell_of_block hbox 0).trans rfl
      have c1 := (Joins.cell_of_block hbox 1).trans rfl
      have c2 := (Joins.cell_of_block hbox 2).trans rfl
      have c3 := (Joins.cell_of_block hbox 3).trans rfl
      have hlt := (Array.getElem?_eq_some_iff.1 hbox).1
      unfold Nd.cell at HPT
      dsimp only [Nd.cell]
      clear hrs hok hb hbox HRD
      go_wp2_with fail
      rw [← hW]
      replace hW := Lib.hid hW
      go_wp2_with fail
      with_reducible refine HPT.out.mono ?_
      rintro e w2 ⟨g, kk, cc, rfl, hkk, ho, hb⟩
      obtain ⟨_, _, hv, _, _, hbs, _⟩ := ho.form hkk
      cases hv
      have HB2 := Lib.hid (HBW.out.trans (hb.mono HBW.out.size))
      rw [HRS.out.2.2] at hbs hkk
      have h1 := str_of hbs (c := cc) hkk
      have h2 := str_of (HBS.out.below HB2.out) (c := c) HM.out
      clear hbs hkk ho hb HPT c0 c1 c2 c3 hlt
      go_wp2
      go_ret
      exact ⟨rfl, HB2.out⟩
    · have HB1 := Lib.hid hb
      clear hb HRD
      rw [show Nd.zero.cell = .agg #[.bool false, .slice none 0 0, .slice none 0 0, .slice none 0 0] from rfl]
      obtain ⟨W, hW⟩ : ∃ W, W = w1.alloc (.cells #[.bool false, .slice none 0 0, .slice none 0 0, .slice none 0 0] 26) := ⟨_, rfl⟩
      have hbox : W.heap[w1.heap.size]? = some (.cells #[.bool false, .slice none 0 0, .slice none 0 0, .slice none 0 0] 26 (0, 0)) := by rw [hW]; exact heap_alloc_new w1 _
      have HBX := Lib.hid hbox
      have HBW : Hid (Below w.heap.size w W) := Lib.hid (by rw [hW]; exact HB1.out.alloc HB1.out.size _)
      have HPT := Lib.hid (putBare_any W)
      clear hbox
      go_wp2_with fail
      rw [← hW]
      replace hW := Lib.hid hW
      refine HPT.out.mono ?_
      rintro e w2 ⟨g, cc, rfl, hcc, hb⟩
      have hbx := (hb.block _ (Array.getElem?_eq_some_iff.1 HBX.out).1).trans HBX.out
      have c1 := (Joins.cell_of_block hbx 1).trans rfl
      have hlt := (Array.getElem?_eq_some_iff.1 hbx).1
      have HB2 := Lib.hid (HBW.out.trans (hb.mono HBW.out.size))
      clear hb hbx HPT
      go_wp2
      go_ret
      exact ⟨rfl, HB2.out⟩
  · have HBS := Lib.hid hbs
    have HM := Lib.hid hm
    have HRD := Lib.hid (read_any k HBS.out HM.out hmc hc hz)
    clear hbs hm hz
    go_enter Try.func6, Try.ntmps6
    go_wp2_with fail
    refine HRD.out.mono ?_
    rintro e w1 (⟨n, rfl, hrs, hok, hb⟩ | ⟨rfl, _, hb⟩)
    · obtain ⟨W, hW⟩ : ∃ W, W = w1.alloc (.cells #[.bool n.leaf, .slice n.kq n.ks.length n.kc, .slice n.vq n.vs.length n.vc, .slice n.iq n.is.length n.ic] 26) := ⟨_, rfl⟩
      have hbox : W.heap[w1.heap.size]? = some (.cells #[.bool n.leaf, .slice n.kq n.ks.length n.kc, .slice n.vq n.vs.length n.vc, .slice n.iq n.is.length n.ic] 26 (0, 0)) := by rw [hW]; exact heap_alloc_new w1 _
      have HBW : Hid (Below w.heap.size w W) := Lib.hid (by rw [hW]; exact hb.alloc hb.size _)
      have HPT := Lib.hid (putRead_any (hok.below (w' := W) (by rw [hW]; exact (Below.refl _ _).alloc (Nat.le_refl _) _)) (readS_count hrs) hrs.2.1)
      have HRS := Lib.hid hrs
      have c0 := (Joins.cell_of_block hbox 0).trans rfl
      have c1 := (Joins.cell_of_block hbox 1).trans rfl
      have c2 := (Joins.cell_of_block hbox 2).trans rfl
      have c3 := (Joins.cell_of_block hbox 3).trans rfl
      have hlt := (Array.getElem?_eq_some_iff.1 hbox).1
      unfold Nd.cell at HPT
      dsimp only [Nd.cell]
      clear hrs hok hb hbox HRD
      go_wp2_with fail
      rw [← hW]
      replace hW := Lib.hid hW
      go_wp2_with fail
      with_reducible refine HPT.out.mono ?_
      rintro e w2 ⟨g, kk, cc, rfl, hkk, ho, hb⟩
      obtain ⟨_, _, hv, _, _, hbs, _⟩ := ho.form hkk
      cases hv
      have HB2 := Lib.hid (HBW.out.trans (hb.mono HBW.out.size))
      rw [HRS.out.2.2] at hbs hkk
      have h1 := str_of hbs (c := cc) hkk
      have h2 := str_of (HBS.out.below HB2.out) (c := c) HM.out
      clear hbs hkk ho hb HPT c0 c1 c2 c3 hlt
      go_wp2
      go_ret
      exact ⟨rfl, HB2.out⟩
    · have HB1 := Lib.hid hb
      clear hb HRD
      rw [show Nd.zero.cell = .agg #[.bool false, .slice none 0 0, .slice none 0 0, .slice none 0 0] from rfl]
      obtain ⟨W, hW⟩ : ∃ W, W = w1.alloc (.cells #[.bool false, .slice none 0 0, .slice none 0 0, .slice none 0 0] 26) := ⟨_, rfl⟩
      have hbox : W.heap[w1.heap.size]? = some (.cells #[.bool false, .slice none 0 0, .slice none 0 0, .slice none 0 0] 26 (0, 0)) := by rw [hW]; exact heap_alloc_new w1 _
      have HBX := Lib.hid hbox
      have HBW : Hid (Below w.heap.size w W) := Lib.hid (by rw [hW]; exact HB1.out.alloc HB1.out.size _)
      have HPT := Lib.hid (putBare_any W)
      clear hbox
      go_wp2_with fail
      rw [← hW]
      replace hW := Lib.hid hW
      refine HPT.out.mono ?_
      rintro e w2 ⟨g, cc, rfl, hcc, hb⟩
      have hbx := (hb.block _ (Array.getElem?_eq_some_iff.1 HBX.out).1).trans HBX.out
      have c1 := (Joins.cell_of_block hbx 1).trans rfl
      have hlt := (Array.getElem?_eq_some_iff.1 hbx).1
      have HB2 := Lib.hid (HBW.out.trans (hb.mono HBW.out.size))
      clear hb hbx HPT
      go_wp2
      go_ret
      exact ⟨rfl, HB2.out⟩

end Go.Proofs.Ytlpjmhpbgappnaa
