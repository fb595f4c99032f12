/-
  strings.Builder's copyCheck, WriteByte, WriteString at a builder of the call's own: contracts for the walks.
-/
import Derived.Test.YtckmajcophpddaaDoorBytes
import Derived.Lib.Builder
import Derived.Lib.AppendStr
set_option linter.unusedVariables false
set_option maxRecDepth 100000
namespace Go.Proofs.YtckmajcophpddaaDoor
open Go.RowKit

/-- A builder of the call's own, in block b, that holds the bytes l. -/
def Bld (B b : Nat) (l : List UInt8) (w : World) : Prop := Lib.IsBuilder 67 5 B b (u8s l) w

theorem size_bld : (Tryd.prog.info? 67).map (·.size) = some 2 := by kernel_rfl

set_option maxHeartbeats 1000000 in
theorem bldCheck_any {w : World} (B b : Nat) (l : List UInt8) (h : Bld B b l w) :
    Calls Tryd.prog 48 #[.pointer (some ⟨b, 0, none⟩)] w fun e w' => e = .returned (.tuple #[]) ∧ Lib.BuilderAt 67 5 B b (.pointer (some ⟨b, 0, none⟩)) (u8s l) w' ∧ Below B w w' := by
  obtain ⟨j, hj, hjs⟩ := Option.map_eq_some_iff.1 size_bld
  rcases h with h | h
  · have h0 := h.cell0
    have hfz := h.frozen0
    have r1 := Lib.run_to_unsafe (P := Tryd.prog) w ⟨b, 0, none⟩ Tryd.underlying64 Tryd.underlying94 hj (by rw [hjs]; decide) h.shape (Nat.zero_lt_succ 1)
    have r3 := Lib.run_from_unsafe (P := Tryd.prog) w ⟨b, 0, none⟩ Tryd.underlying94 Tryd.underlying64 hj h.shape (by kernel_rfl)
    have r2 : (callFunc 60 #[.pointer (some ⟨b, 0, none⟩)]).run Tryd.prog w = .ok (.value (.pointer (some ⟨b, 0, none⟩))) w := by
      rw [run_callFunc_extern Tryd.func60 (by kernel_rfl) (by kernel_rfl) (by kernel_rfl) (e := Extern.AbiNoEscape.same) (by kernel_rfl), Lib.run_noEscape]
      rfl
    have H := Lib.hid h
    clear h
    go_enter Tryd.func48, Tryd.ntmps48
    go_wp2
    go_end0
    exact ⟨rfl, H.out.used _, (Below.refl B w).setCell (p := ⟨b, 0, none⟩) H.out.1 _⟩
  · have h0 := h.cell0
    have rn := fun w => Lib.run_neq_ptr_same (P := Tryd.prog) (w := w) ⟨b, 0, none⟩ Tryd.underlying64 hj
    have H := Lib.hid h
    clear h
    go_enter Tryd.func48, Tryd.ntmps48
    go_wp2
    go_end0
    exact ⟨rfl, H.out, Below.refl B _⟩

/-- The cells of bytes that lie there, as append asks them. -/
theorem Bs.src {w : World} {ad : Addr} {m : List UInt8} (h : Bs w (some ad) m) : ∀ j u, (u8s m)[j]? = some u → w.cell? (ad.add j) = some u := by
  intro j u hj
  obtain ⟨y, hy, rfl⟩ := u8s_get hj
  obtain ⟨b, o, hp, hc⟩ := h (by intro e; subst e; simp at hy)
  obtain rfl := Option.some.inj hp
  rw [Addr.add_lit]
  exact hc j y hy
theorem info_slice8 : Tryd.prog.underlying 65 = some (.slice 5) := Tryd.underlying65

set_option maxHeartbeats 1000000 in
theorem bldByte_any {w : World} (B b : Nat) (l : List UInt8) (c : UInt8) {x : Int} (hx : x = (c.toNat : Int)) (h : Bld B b l w) (hlen : l.length ≤ 100000) (hBw : B ≤ w.heap.size) :
    Calls Tryd.prog 46 #[.pointer (some ⟨b, 0, none⟩), .int .u8 x] w fun e w' => e = .returned .nilIface ∧ Bld B b (l ++ [c]) w' ∧ Below B w w' := by
  subst hx
  have HC := Lib.hid (bldCheck_any B b l h)
  have HB := Lib.hid hBw
  clear h hBw
  go_enter Tryd.func46, Tryd.ntmps46
  go_wp2_with fail
  refine HC.out.mono ?_
  rintro e w1 ⟨rfl, ⟨hB, v, hbk, hown, hne⟩, hb1⟩
  have c1 : w1.cell? ⟨b, 1, none⟩ = some v := by rw [Lib.cell_of_heap hbk]; rfl
  have hlt : b < w1.heap.size := (Array.getElem?_eq_some_iff.1 hbk).1
  have HO : Hid (Own w1 B v l) := Lib.hid (by unfold Own; have e : (u8s l).length = l.length := u8s_length l; rw [e] at hown; exact hown)
  have HK := Lib.hid hbk
  have HN := Lib.hid hne
  have HB1 := Lib.hid hb1
  have HBS : Hid (B ≤ w1.heap.size) := Lib.hid (Nat.le_trans HB.out hb1.size)
  clear hbk hne hb1 hown
  obtain ⟨i, hi, hz0, hz1, hz2⟩ := info_parts info_u8
  go_wp2_with (at_builtin; refine wpList_append_own _ rfl (.tmp 11) (.tmp 13) _ rfl B 5 i (.int .u8 0) 1 1 Tryd.underlying65 hi hz0 hz1 hz2 rfl (by decide) v l.length (u8s l) rfl (HO.out.alloc _) ⟨w1.heap.size, 0, none⟩ 1 1 (u8s [c]) rfl rfl ?c1 (u8s_oneCell _) ?c3 ?c4 ?c5 ?_)
  case c1 => exact Bs.src (Bs.one _ _ _ rfl rfl)
  case c3 => simp only [maxLen]; omega
  case c4 => omega
  case c5 => have := HBS.out; simp; omega
  intro v2 w2 ho2 hg2 _
  have hb2 : w2.heap[b]? = some (.cells #[.pointer (some ⟨b, 0, none⟩), v] 67 (0, 0)) := by
    rw [hg2.block b (by simp; omega) (fun e => HN.out e.symm), Lib.alloc_old w1 _ b hlt]
    exact HK.out
  have d1 : w2.cell? ⟨b, 1, none⟩ = some v := by rw [Lib.cell_of_heap hb2]; rfl
  have f1 : w2.frozen? ⟨b, 1, none⟩ = false := Lib.frozen_of_heap hb2 1
  have HG := Lib.hid hg2
  have HO2 : Hid (Own w2 B v2 (l ++ [c])) := Lib.hid (by unfold Own; rw [← u8s_append, List.length_append]; exact ho2)
  have HK2 := Lib.hid hb2
  clear ho2 hg2 hb2
  obtain ⟨n2, hn2⟩ : ∃ x, x = (l ++ [c]).length := ⟨_, rfl⟩
  obtain ⟨p2, k2, rfl, _, _, _, _⟩ := HO2.out.form hn2
  clear hn2
  go_wp2
  go_ret
  refine ⟨rfl, .inr ?_, ?_⟩
  · have := Lib.BuilderAt.put (T := 67) (e := 5) (bs' := u8s (l ++ [c])) hB HK2.out (by have h := HO2.out; unfold Own at h; rw [u8s_length]; exact h) (by decide)
    exact this
  · exact ((HB1.out.alloc (by have := HBS.out; omega) _).grown HG.out (by have := HBS.out; simp; omega) (fun k hk => (World.ownsRow.lt HO.out k hk).1)).setCell (p := ⟨b, 1, none⟩) hB _

set_option maxHeartbeats 1000000 in
theorem bldString_any {w : World} (B b : Nat) (l : List UInt8) (s : ByteArray) (h : Bld B b l w) (hlen : l.length + s.size ≤ 100000) (hBw : B ≤ w.heap.size) :
    Calls Tryd.prog 32 #[.pointer (some ⟨b, 0, none⟩), .string s] w fun e w' => e = .returned (.tuple #[.int .i64 (s.size : Nat), .nilIface]) ∧ Bld B b (l ++ s.data.toList) w' ∧ Below B w w' := by
  have HC := Lib.hid (bldCheck_any B b l h)
  have HB := Lib.hid hBw
  clear h hBw
  have hsl : s.data.toList.length = s.size := rfl
  have HSL := Lib.hid hsl
  clear hsl
  go_enter Tryd.func32, Tryd.ntmps32
  go_wp2_with fail
  refine HC.out.mono ?_
  rintro e w1 ⟨rfl, ⟨hB, v, hbk, hown, hne⟩, hb1⟩
  have c1 : w1.cell? ⟨b, 1, none⟩ = some v := by rw [Lib.cell_of_heap hbk]; rfl
  have hlt : b < w1.heap.size := (Array.getElem?_eq_some_iff.1 hbk).1
  have HO : Hid (Own w1 B v l) := Lib.hid (by unfold Own; have e : (u8s l).length = l.length := u8s_length l; rw [e] at hown; exact hown)
  have HK := Lib.hid hbk
  have HN := Lib.hid hne
  have HB1 := Lib.hid hb1
  have HBS : Hid (B ≤ w1.heap.size) := Lib.hid (Nat.le_trans HB.out hb1.size)
  clear hbk hne hb1 hown
  obtain ⟨i, hi, hz0, hz1, hz2⟩ := info_parts info_u8
  go_wp2_with (at_builtin; refine Lib.wpList_append_own_string _ rfl (.tmp 12) (.tmp 13) _ _ rfl B 5 i Tryd.underlying65 Tryd.underlying9 hi hz0 hz1 hz2 v l.length (u8s l) rfl HO.out s rfl ?c3 ?c4 HBS.out ?_)
  case c3 => simp only [maxLen]; omega
  case c4 => omega
  intro v2 w2 ho2 hg2 _
  have hb2 : w2.heap[b]? = some (.cells #[.pointer (some ⟨b, 0, none⟩), v] 67 (0, 0)) := by
    rw [hg2.block b hlt (fun e => HN.out e.symm)]
    exact HK.out
  have d1 : w2.cell? ⟨b, 1, none⟩ = some v := by rw [Lib.cell_of_heap hb2]; rfl
  have f1 : w2.frozen? ⟨b, 1, none⟩ = false := Lib.frozen_of_heap hb2 1
  have HG := Lib.hid hg2
  have HO2 : Hid (Own w2 B v2 (l ++ s.data.toList)) := Lib.hid (by unfold Own; rw [← u8s_append, List.length_append, HSL.out]; exact ho2)
  have HK2 := Lib.hid hb2
  clear ho2 hg2 hb2
  obtain ⟨n2, hn2⟩ : ∃ x, x = (l ++ s.data.toList).length := ⟨_, rfl⟩
  obtain ⟨p2, k2, rfl, _, _, _, _⟩ := HO2.out.form hn2
  clear hn2
  go_wp2
  go_ret2
  refine ⟨rfl, .inr ?_, ?_⟩
  · have := Lib.BuilderAt.put (T := 67) (e := 5) (bs' := u8s (l ++ s.data.toList)) hB HK2.out (by have h := HO2.out; unfold Own at h; rw [u8s_length]; exact h) (by decide)
    exact this
  · exact (HB1.out.grown HG.out HBS.out (fun k hk => (World.ownsRow.lt HO.out k hk).1)).setCell (p := ⟨b, 1, none⟩) hB _

end Go.Proofs.YtckmajcophpddaaDoor
