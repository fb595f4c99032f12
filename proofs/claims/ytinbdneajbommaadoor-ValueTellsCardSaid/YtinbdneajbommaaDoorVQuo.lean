/-
  The reference's quoted: a text between its marks.
-/
import Derived.Test.YtinbdneajbommaaDoorVEscL
import Derived.Deep.RegionHeld3
set_option linter.unusedVariables false
set_option maxRecDepth 100000
namespace Go.Proofs.YtinbdneajbommaaDoor
open Go.RowKit

theorem own_lit (w : World) (l : List UInt8) {cs : Array Value} (hc : cs = (u8s l).toArray) (hm : l.length ≤ 1000) {n : Nat} (hn : n = l.length) : Own (w.alloc (.cells cs 5)) w.heap.size (.slice (some ⟨w.heap.size, 0, none⟩) n n) l := by
  subst hc hn
  exact ⟨by simp [u8s], .inr ⟨w.heap.size, l.length, (u8s l).toArray, rfl, Nat.le_refl _, heap_alloc_new w _, Nat.le_refl _, by simp only [maxLen]; omega, by simp [u8s], by rw [List.take_of_length_le (by simp [u8s])]⟩⟩

theorem esc_mark {c : UInt8} (h : (c.toNat : Int) = 34 ∨ (c.toNat : Int) = 92) : escC c = [92, c] := by
  have h1 : codeC c = false := by
    unfold codeC
    rw [Bool.or_eq_false_iff]
    exact ⟨decide_eq_false (by omega), decide_eq_false (by omega)⟩
  have h2 : markC c = true := by
    unfold markC
    rw [Bool.or_eq_true]
    rcases h with h | h
    · exact .inl (decide_eq_true h)
    · exact .inr (decide_eq_true h)
  unfold escC
  rw [h1, h2]
  rfl
theorem esc_code {c : UInt8} (h : (c.toNat : Int) < 32 ∨ 126 < (c.toNat : Int)) : escC c = [92, 120, hexE[c.toNat / 16]!, hexE[c.toNat % 16]!] := by
  have h1 : codeC c = true := by
    unfold codeC
    rw [Bool.or_eq_true]
    rcases h with h | h
    · exact .inl (decide_eq_true h)
    · exact .inr (decide_eq_true h)
  unfold escC
  rw [h1]
  rfl
theorem esc_plain {c : UInt8} (h1 : ¬ (c.toNat : Int) = 34) (h2 : ¬ (c.toNat : Int) = 92) (h3 : ¬ (c.toNat : Int) < 32) (h4 : ¬ 126 < (c.toNat : Int)) : escC c = [c] := by
  unfold escC codeC markC
  rw [decide_eq_false h1, decide_eq_false h2, decide_eq_false h3, decide_eq_false h4]
  rfl

def QuoPost (w : World) (l : List UInt8) (e : Ending) (w' : World) : Prop := (∃ t : ByteArray, e = .returned (.string t) ∧ t.data.toList = [34] ++ escS l ++ [34]) ∧ Below w.heap.size w w'

set_option maxHeartbeats 4000000 in
theorem quoted_any {w : World} (s : ByteArray) (hlen : s.size ≤ 300) :
    Calls Tryd.prog 71 #[.string s] w (QuoPost w s.data.toList) := by
  go_enter Tryd.func71, Tryd.ntmps71
  go_wp2_with fail
  obtain ⟨W, hW⟩ : ∃ W, W = w.alloc (.cells #[.int .u8 34] 5) := ⟨_, rfl⟩
  have HB0 : Hid (Own W w.heap.size (.slice (some ⟨w.heap.size, 0, none⟩) 1 1) [34]) := Lib.hid (by
    rw [hW]
    exact own_lit w [34] rfl (by simp) rfl)
  have HW0 : Hid (Below w.heap.size w W) := Lib.hid (by rw [hW]; exact (Below.refl _ _).alloc (Nat.le_refl _) _)
  rw [← hW]
  clear hW
  go_loopw [3, 4, 5] (fun o i _ wr => ∃ (j : Nat), i = .int .i64 j ∧ j ≤ s.size ∧ Own wr w.heap.size o ([34] ++ escS (s.data.toList.take j)) ∧ Below w.heap.size w wr) (fun _ i _ _ => s.size - (intOf i).toNat)
  case atStart => exact ⟨0, rfl, by omega, HB0.out, HW0.out⟩
  case round =>
    obtain ⟨j, rfl, hj, hbl, hb⟩ := hrel
    have HB := Lib.hid hb
    have hl := escS_len (s.data.toList.take j)
    have hl2 : (s.data.toList.take j).length ≤ 300 := by have : s.data.toList.length = s.size := rfl; rw [List.length_take]; omega
    by_cases hlt : j < s.size
    · obtain ⟨c, hc⟩ : ∃ c, c = s[j] := ⟨_, rfl⟩
      have hcd : s.data.toList[j]? = some c := by
        rw [hc, Array.getElem?_toList]
        exact Array.getElem?_eq_getElem hlt
      have hsn : escS (s.data.toList.take (j + 1)) = escS (s.data.toList.take j) ++ escC c := by
        rw [List.take_add_one, hcd]
        exact escS_snoc _ _
      obtain ⟨l, hle⟩ : ∃ x, x = [34] ++ escS (s.data.toList.take j) := ⟨_, rfl⟩
      have HSN : Hid ([34] ++ escS (s.data.toList.take (j + 1)) = l ++ escC c) := Lib.hid (by rw [hsn, hle, List.append_assoc])
      have HL : Hid (l.length ≤ 1210) := Lib.hid (by rw [hle, List.length_append]; simp; omega)
      rw [← hle] at hbl
      have HO := Lib.hid hbl
      have HBS : Hid (w.heap.size ≤ wr.heap.size) := Lib.hid hb.size
      have hcl := c.toNat_lt
      have HC := Lib.hid hc
      clear hle hl hl2 hcd hbl hb hsn
      by_cases h34 : (s[j].toNat : Int) = 34
      · have HE : Hid (escC c = [92, 34]) := Lib.hid (by
          have h1 := esc_mark (c := c) (by rw [hc]; exact .inl h34)
          have h2 : c = 34 := UInt8.toNat_inj.1 (by rw [hc]; have : (34 : UInt8).toNat = 34 := rfl; omega)
          rw [h1, h2])
        clear hc
        go_wp2_with (at_builtin; refine app_own rfl (.tmp 22) (.tmp 24) rfl rfl (HO.out.alloc _) (m := [92, 34]) rfl rfl (Bs.new _ _ _ _ rfl rfl) (fun h => by cases h) (by have := HL.out; simp; omega) (by have := HBS.out; simp; omega) ?_; intro v1 w1 ho1 hb1; have HO1 := Lib.hid ho1; have HB1 := Lib.hid ((HB.out.alloc HB.out.size _).trans hb1); clear ho1 hb1)
        go_roundw
        case rel => exact ⟨j + 1, by go_num, by omega, by rw [HSN.out, HE.out]; exact HO1.out, HB1.out⟩
        case measure => simp [intOf]; omega
      have g34 : ((s[j].toNat : Int) == 34) = false := by rw [beq_eq_false_iff_ne]; exact h34
      by_cases h92 : (s[j].toNat : Int) = 92
      · have HE : Hid (escC c = [92, 92]) := Lib.hid (by
          have h1 := esc_mark (c := c) (by rw [hc]; exact .inr h92)
          have h2 : c = 92 := UInt8.toNat_inj.1 (by rw [hc]; have : (92 : UInt8).toNat = 92 := rfl; omega)
          rw [h1, h2])
        clear hc
        go_wp2_with (at_builtin; refine app_own rfl (.tmp 22) (.tmp 24) rfl rfl (HO.out.alloc _) (m := [92, 92]) rfl rfl (Bs.new _ _ _ _ rfl rfl) (fun h => by cases h) (by have := HL.out; simp; omega) (by have := HBS.out; simp; omega) ?_; intro v1 w1 ho1 hb1; have HO1 := Lib.hid ho1; have HB1 := Lib.hid ((HB.out.alloc HB.out.size _).trans hb1); clear ho1 hb1)
        go_roundw
        case rel => exact ⟨j + 1, by go_num, by omega, by rw [HSN.out, HE.out]; exact HO1.out, HB1.out⟩
        case measure => simp [intOf]; omega
      have g92 : ((s[j].toNat : Int) == 92) = false := by rw [beq_eq_false_iff_ne]; exact h92
      by_cases hcode : (s[j].toNat : Int) < 32 ∨ 126 < (s[j].toNat : Int)
      · obtain ⟨d, hdd⟩ : ∃ d, d = s[j].toNat / 16 := ⟨_, rfl⟩
        obtain ⟨m, hmm⟩ : ∃ m, m = s[j].toNat % 16 := ⟨_, rfl⟩
        have hcs := s[j].toNat_lt
        have hd : d < 16 := by omega
        have hm : m < 16 := by omega
        obtain ⟨x, hx⟩ : ∃ x, x = hexE[d]! := ⟨_, rfl⟩
        obtain ⟨y, hy⟩ : ∃ y, y = hexE[m]! := ⟨_, rfl⟩
        have HE : Hid (escC c = [92, 120, x, y]) := Lib.hid (by rw [esc_code (by rw [hc]; exact hcode), hx, hy, hdd, hmm, hc])
        have hxa := hexE_at d hd
        have hya := hexE_at m hm
        rw [← hx] at hxa
        rw [← hy] at hya
        have q1 : (s[j].toNat : Int).tdiv 16 = (d : Int) := by rw [Int.tdiv_eq_ediv_of_nonneg (by omega)]; omega
        have q2 : (s[j].toNat : Int) / 16 = (d : Int) := by omega
        have q3 : (s[j].toNat : Int).tmod 16 = (m : Int) := by rw [Int.tmod_eq_emod_of_nonneg (by omega)]; omega
        have q4 : (s[j].toNat : Int) % 16 = (m : Int) := by omega
        have q5 : IntKind.u8.wrap (d : Int) = (d : Int) := by rw [IntKind.wrap_u8]; omega
        have q6 : IntKind.u8.wrap (m : Int) = (m : Int) := by rw [IntKind.wrap_u8]; omega
        have HCS : Hid (#[Value.int .u8 92, .int .u8 120, .int .u8 (x.toNat : Int), .int .u8 (y.toNat : Int)] = (u8s [92, 120, x, y]).toArray) := Lib.hid rfl
        clear hc hx hy hdd hmm hcs
        rcases hcode with h32 | h126
        · go_wp2_with fail
          go_region_held3 (fun _ => True) (exact trivial)
            (first
              | (refine step_app (l := l) (m := [92, 120, x, y]) rfl (.tmp 32) (.tmp 39) rfl rfl (HO.out.alloc _).drew rfl rfl (Bs.new _ _ _ _ rfl HCS.out).drew (fun h => by cases h) (by have := HL.out; simp; omega) (by have := HBS.out; simp; omega) ?_; intro v1 w1 ho1 hb1; have HO1 := Lib.hid ho1; have HB1 := Lib.hid ((HB.out.alloc HB.out.size _).drew.trans hb1); clear ho1 hb1))
          all_goals
            go_wp2
            go_roundw
            case rel => exact ⟨j + 1, by go_num, by omega, by rw [HSN.out, HE.out]; exact HO1.out, HB1.out⟩
            case measure => simp [intOf]; omega
        · have h32 : ¬ (s[j].toNat : Int) < 32 := by omega
          go_wp2_with fail
          go_region_held3 (fun _ => True) (exact trivial)
            (first
              | (refine step_app (l := l) (m := [92, 120, x, y]) rfl (.tmp 32) (.tmp 39) rfl rfl (HO.out.alloc _).drew rfl rfl (Bs.new _ _ _ _ rfl HCS.out).drew (fun h => by cases h) (by have := HL.out; simp; omega) (by have := HBS.out; simp; omega) ?_; intro v1 w1 ho1 hb1; have HO1 := Lib.hid ho1; have HB1 := Lib.hid ((HB.out.alloc HB.out.size _).drew.trans hb1); clear ho1 hb1))
          all_goals
            go_wp2
            go_roundw
            case rel => exact ⟨j + 1, by go_num, by omega, by rw [HSN.out, HE.out]; exact HO1.out, HB1.out⟩
            case measure => simp [intOf]; omega
      · have hn32 : ¬ (s[j].toNat : Int) < 32 := fun h => hcode (.inl h)
        have hn126 : ¬ 126 < (s[j].toNat : Int) := fun h => hcode (.inr h)
        have HE : Hid (escC c = [s[j]]) := Lib.hid (by rw [esc_plain (by rw [hc]; exact h34) (by rw [hc]; exact h92) (by rw [hc]; exact hn32) (by rw [hc]; exact hn126), hc])
        clear hc hcode
        go_wp2_with (at_builtin; refine app_own rfl (.tmp 41) (.tmp 43) rfl rfl (HO.out.alloc _) (m := [s[j]]) rfl rfl (Bs.one _ _ _ rfl rfl) (fun h => by cases h) (by have := HL.out; simp; omega) (by have := HBS.out; simp; omega) ?_; intro v1 w1 ho1 hb1; have HO1 := Lib.hid ho1; have HB1 := Lib.hid ((HB.out.alloc HB.out.size _).trans hb1); clear ho1 hb1)
        go_roundw
        case rel => exact ⟨j + 1, by go_num, by omega, by rw [HSN.out, HE.out]; exact HO1.out, HB1.out⟩
        case measure => simp [intOf]; omega
    · obtain rfl : j = s.size := by omega
      have HT : Hid (s.data.toList.take s.size = s.data.toList) := Lib.hid (List.take_of_length_le (show s.data.toList.length ≤ s.size from Nat.le_refl _))
      rw [HT.out] at hbl hl hl2
      have HO := Lib.hid hbl
      have HL : Hid (([34] ++ escS s.data.toList).length ≤ 1210) := Lib.hid (by rw [List.length_append]; simp; omega)
      have HBS : Hid (w.heap.size ≤ wr.heap.size) := Lib.hid hb.size
      clear hbl hl hl2 hb
      obtain ⟨l, hle⟩ : ∃ l, l = [34] ++ escS s.data.toList := ⟨_, rfl⟩
      rw [← hle] at HO HL
      have HLE := Lib.hid hle
      clear hle
      go_wp2_with (at_builtin; refine app_own rfl (.tmp 45) (.tmp 46) rfl rfl (HO.out.alloc _) (m := [34]) rfl rfl (Bs.new _ _ _ _ rfl rfl) (fun h => by cases h) (by have := HL.out; simp; omega) (by have := HBS.out; simp; omega) ?_; intro v1 w1 ho1 hb1; obtain ⟨k, hk⟩ : ∃ k, k = (l ++ [34]).length := ⟨_, rfl⟩; obtain ⟨q, cq, rfl, _, _, hbs, _⟩ := ho1.form hk; have hstr := str_of hbs (c := cq) hk; have HB1 := Lib.hid ((HB.out.alloc HB.out.size _).trans hb1); clear ho1 hb1 hbs hk)
      go_ret
      exact ⟨⟨_, rfl, by show l ++ [34] = _; rw [HLE.out]⟩, HB1.out⟩

end Go.Proofs.YtinbdneajbommaaDoor
