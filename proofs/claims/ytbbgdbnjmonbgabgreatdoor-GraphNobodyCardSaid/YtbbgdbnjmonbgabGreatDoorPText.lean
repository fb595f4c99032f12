/-
  order.PutText and the reference's PutText put a text as the document says: contracts for the walks; with strings.Count at one byte and slices.Grow.
-/
import Derived.Test.YtbbgdbnjmonbgabGreatDoorBytes
import Derived.Test.YtbbgdbnjmonbgabGreatDoorOrd
import Derived.Test.YtbbgdbnjmonbgabGreatDoorPInt
import Derived.Lib.AppendZerosOnto
set_option linter.unusedVariables false
set_option maxRecDepth 100000
namespace Go.Proofs.YtbbgdbnjmonbgabGreatDoor
open Go.RowKit

set_option maxHeartbeats 400000 in
theorem count_any (s : ByteArray) (w : World) :
    Calls Tryz.prog 146 #[.string s, .string ⟨#[0]⟩] w fun e w' => e = .returned (.int .i64 (Lib.countByte s.data.toList 0 : Nat)) ∧ w = w' := by
  have hx : (callFunc 193 #[.string s, .int .u8 0]).run Tryz.prog w = .ok (.value (.int .i64 (Lib.countByte s.data.toList 0 : Nat))) w := by
    rw [run_callFunc_extern Tryz.func193 (by kernel_rfl) (by kernel_rfl) (by kernel_rfl) (e := Extern.BytealgCount.count) (by kernel_rfl), Lib.run_countString]
    rfl
  generalize Lib.countByte s.data.toList 0 = r at hx ⊢
  have hz : ((({ data := #[0] } : ByteArray)[0]'(by decide)).toNat : Int) = 0 := rfl
  go_enter Tryz.func146, Tryz.ntmps146
  go_wp2
  go_ret
  exact ⟨rfl, rfl⟩

theorem count_le (l : List UInt8) : Lib.countByte l 0 ≤ l.length := List.count_le_length

set_option maxHeartbeats 400000 in
/-- slices.Grow of a slice without room. -/
theorem grow_any {w : World} {p : Option Addr} {l : List UInt8} (hl : Bs w p l) (n k : Nat) (hn : n = l.length) (hk : 0 < k) (hlen : l.length + k ≤ 1000000) :
    Calls Tryz.prog 147 #[.slice p n n, .int .i64 k] w (PutPost w l) := by
  obtain ⟨i, hi, hz0, hz1, hz2⟩ := info_parts info_u8
  have hold : (Builtin.firstCells i.size n (.slice p n n)).run Tryz.prog w.drew = .ok (u8s l).toArray w.drew := by
    cases p with
    | none =>
      have h0 : l = [] := by
        rcases l with _ | ⟨u, m⟩
        · rfl
        · obtain ⟨b, o, hp, _⟩ := hl (by simp)
          cases hp
      subst h0
      exact run_firstCells_none w.drew i.size n n n
    | some a =>
      refine run_firstCells_some w.drew i.size n a n n (u8s l) (by rw [hz1, u8s_length]; omega) (fun j v hj => ?_)
      obtain ⟨y, hy, rfl⟩ := u8s_get hj
      obtain ⟨b, o, hp, hc⟩ := hl (by intro e; subst e; simp at hy)
      obtain rfl := Option.some.inj hp
      rw [Addr.add_lit]
      exact hc j y hy
  have hrz := fun ty => Lib.run_append_grow_zeros (P := Tryz.prog) w 97 3 ty 5 i (.int .u8 0) .i64 .i64 Tryz.underlying97 Tryz.underlying3 hi hz0 p n n (u8s l) hold k hk (by rw [hz1]; decide) (by omega) (by omega) (by rw [hz2]; omega) (by rw [hz2]; exact growslice_fits (by omega) (by omega))
  have hge := grownCap_ge w (n + k) n 5
  have hcm := grownCap_le_maxLen w (n + k) n 5 (by unfold maxLen; omega)
  generalize grownCap w (n + k) n 5 = G at hrz hge hcm
  have hG : G ≤ 9223372036854775807 := by unfold maxLen at hcm; omega
  have hown : Own (w.drew.alloc (.cells ((u8s l).toArray ++ Builtin.zeroCells (Value.int .u8 0).cells k ++ Builtin.zeroCells (Value.int .u8 0).cells (G - (n + k))) 5)) w.heap.size (.slice (some ⟨w.heap.size, 0, none⟩) n G) l := by
    refine ⟨by simp [u8s], .inr ⟨w.heap.size, G, _, by rw [hn], Nat.le_refl _, heap_alloc_new w.drew _, by omega, hcm, ?_, ?_⟩⟩
    · simp only [Array.size_append, List.size_toArray, size_zeroCells, u8s_length]
      have : (Value.int .u8 0).cells.size = 1 := rfl
      rw [this]
      omega
    · simp only [Array.toList_append, List.append_assoc, Nat.mul_one]
      rw [← u8s_length l]
      exact List.take_left
  have hbel : Below w.heap.size w (w.drew.alloc (.cells ((u8s l).toArray ++ Builtin.zeroCells (Value.int .u8 0).cells k ++ Builtin.zeroCells (Value.int .u8 0).cells (G - (n + k))) 5)) := (Below.refl w.heap.size w).drew.alloc (Nat.le_refl _) _
  generalize w.drew.alloc (.cells ((u8s l).toArray ++ Builtin.zeroCells (Value.int .u8 0).cells k ++ Builtin.zeroCells (Value.int .u8 0).cells (G - (n + k))) 5) = w1 at hrz hown hbel
  have HRZ := Lib.hid hrz
  have HO := Lib.hid hown
  have HB := Lib.hid hbel
  have q1 : n ≤ G := by omega
  have q2 : n ≤ 1000000 := by omega
  have q3 : k ≤ 1000000 := by omega
  clear hl hn hold hrz hown hbel hi hz0 hz1 hz2 hcm hlen
  go_enter Tryz.func147, Tryz.ntmps147
  go_wp2_with (at_builtin; refine Lib.wpList_append_run _ rfl _ _ _ _ rfl _ _ rfl rfl _ _ (HRZ.out _) ?_)
  go_ret
  exact ⟨_, rfl, HO.out, HB.out⟩

set_option maxHeartbeats 800000 in
theorem putText_any {w : World} {p : Option Addr} {l : List UInt8} (hl : Bs w p l) (n c : Nat) (hn : n = l.length) (hnc : n ≤ c) (hc : c ≤ 9223372036854775807) (hlen : l.length ≤ 100000) (s : ByteArray) (t : List UInt8) (ht : s.data.toList = t) (hs : s.size ≤ 100000) :
    Calls Tryz.prog 96 #[.slice p n c, .string s] w (PutPost w (l ++ txt t)) := by
  have hst : s.size = t.length := by rw [← ht]; rfl
  have HN := Lib.hid hn
  have HL := Lib.hid hl
  have HT := Lib.hid ht
  have HST := Lib.hid hst
  have hcl := count_le s.data.toList
  have hcs : s.data.toList.length = s.size := rfl
  rw [hcs] at hcl
  have hcnt := count_any s w
  generalize Lib.countByte s.data.toList 0 = z at hcnt hcl
  have HCNT := Lib.hid hcnt
  clear hn hl ht hst hcs hcnt
  go_enter Tryz.func96, Tryz.ntmps96
  go_wp2_with fail
  refine HCNT.out.mono ?_
  rintro e w' ⟨rfl, rfl⟩
  go_wp2_with fail
  refine (apart_any p n c hnc hc w).mono ?_
  rintro e w' ⟨rfl, rfl⟩
  go_wp2_with fail
  have hg := grow_any HL.out n (s.size + z + 2) HN.out (by omega) (by omega)
  have hcast : ((s.size : Int) + (z : Int) + 2) = ((s.size + z + 2 : Nat) : Int) := by omega
  rw [hcast]
  refine hg.mono ?_
  rintro e w1 ⟨v1, rfl, ho1, hb1⟩
  have HO1 := Lib.hid ho1
  have HB1 := Lib.hid hb1
  clear ho1 hb1 hg hcast
  go_wp2_with fail
  go_loopw [6, 20] (fun v i wr => ∃ j : Nat, i = .int .i64 j ∧ j ≤ s.size ∧ Own wr w.heap.size v (l ++ esc (t.take j)) ∧ Below w.heap.size w wr) (fun _ i _ => s.size - (intOf i).toNat)
  case atStart => exact ⟨0, rfl, by omega, by have := HO1.out; rw [List.take_zero]; simpa [esc] using this, HB1.out⟩
  case round =>
    obtain ⟨j, rfl, hj, hown, hb⟩ := hrel
    have hle : (l ++ esc (t.take j)).length ≤ 400000 := by
      have h1 := esc_length (t.take j)
      have h2 : (t.take j).length ≤ t.length := by rw [List.length_take]; omega
      have := HST.out
      rw [List.length_append]
      omega
    have HLE := Lib.hid hle
    have HO := Lib.hid hown
    have HB := Lib.hid hb
    clear hown hb hle
    by_cases hjs : j < s.size
    · have hjt : j < t.length := by have := HST.out; omega
      have hget : s[j] = t[j] := by
        have := HT.out
        subst this
        rfl
      have hesc := esc_take hjt
      rw [← hget] at hesc
      have h255 := s[j].toNat_lt
      by_cases hz : s[j] = 0
      · rw [if_pos hz] at hesc
        have HE := Lib.hid hesc
        have hz' : ((s[j].toNat : Int) == 0) = true := by rw [hz]; rfl
        have HZ := Lib.hid hz
        clear hz hesc hget hjt
        go_wp2_with (first
          | (at_builtin; refine app_own rfl (.tmp 23) (.tmp 27) rfl rfl (HO.out.alloc _) (m := [s[j]]) rfl rfl (Bs.one _ _ _ rfl rfl) (fun h => by cases h) (by have := HLE.out; simp only [List.length_cons, List.length_nil]; omega) (by have := HB.out.size; simp; omega) ?_; intro v2 w2 ho2 hb2; have HO2 := Lib.hid ho2; have HB2 := Lib.hid ((HB.out.alloc HB.out.size _).trans hb2); clear ho2 hb2)
          | (at_builtin; refine app_own rfl (.tmp 33) (.tmp 34) rfl rfl (HO2.out.alloc _) (m := [255]) rfl rfl (Bs.one _ _ _ rfl rfl) (fun h => by cases h) (by have := HLE.out; rw [List.length_append]; simp only [List.length_cons, List.length_nil]; omega) (by have := HB2.out.size; simp; omega) ?_; intro v3 w3 ho3 hb3; have HO3 := Lib.hid ho3; have HB3 := Lib.hid ((HB2.out.alloc HB2.out.size _).trans hb3); clear ho3 hb3))
        go_roundw
        case rel => exact ⟨j + 1, by go_num, by omega, by have h := HO3.out; rw [HZ.out, List.append_assoc, List.append_assoc] at h; rw [HE.out]; exact h, HB3.out⟩
        case measure => simp [intOf]; omega
      · rw [if_neg hz] at hesc
        have HE := Lib.hid hesc
        have hz' : ((s[j].toNat : Int) == 0) = false := by
          rw [beq_eq_false_iff_ne]
          intro h
          exact hz (by rw [← UInt8.toNat_inj]; show _ = 0; omega)
        clear hz hesc hget hjt
        go_wp2_with (at_builtin; refine app_own rfl (.tmp 23) (.tmp 27) rfl rfl (HO.out.alloc _) (m := [s[j]]) rfl rfl (Bs.one _ _ _ rfl rfl) (fun h => by cases h) (by have := HLE.out; simp only [List.length_cons, List.length_nil]; omega) (by have := HB.out.size; simp; omega) ?_; intro v2 w2 ho2 hb2; have HO2 := Lib.hid ho2; have HB2 := Lib.hid ((HB.out.alloc HB.out.size _).trans hb2); clear ho2 hb2)
        go_roundw
        case rel => exact ⟨j + 1, by go_num, by omega, by have h := HO2.out; rw [List.append_assoc] at h; rw [HE.out]; exact h, HB2.out⟩
        case measure => simp [intOf]; omega
    · have hjt : t.take j = t := List.take_of_length_le (by have := HST.out; omega)
      have HJ := Lib.hid hjt
      clear hjt
      go_wp2_with (at_builtin; refine app_own rfl (.tmp 37) (.tmp 38) rfl rfl (HO.out.alloc _) (m := [0, 1]) rfl rfl (Bs.new _ _ _ _ rfl rfl) (fun h => by cases h) (by have := HLE.out; simp only [List.length_cons, List.length_nil]; omega) (by have := HB.out.size; simp; omega) ?_; intro v2 w2 ho2 hb2; have HO2 := Lib.hid ho2; have HB2 := Lib.hid ((HB.out.alloc HB.out.size _).trans hb2); clear ho2 hb2)
      go_ret
      exact ⟨_, rfl, by have h := HO2.out; rw [HJ.out, List.append_assoc] at h; exact h, HB2.out⟩

end Go.Proofs.YtbbgdbnjmonbgabGreatDoor
