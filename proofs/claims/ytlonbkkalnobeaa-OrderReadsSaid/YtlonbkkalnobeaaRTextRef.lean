/-
  The reference's ReadText reads a text: its contract.
-/
import Derived.Test.YtlonbkkalnobeaaBytes
import Derived.Test.YtlonbkkalnobeaaText
import Derived.Test.YtlonbkkalnobeaaRText
set_option linter.unusedVariables false
namespace Go.Proofs.Ytlonbkkalnobeaa
open Go.RowKit

set_option maxHeartbeats 800000 in
theorem refReadText_any {w : World} {p : Option Addr} {l : List UInt8} (hl : Bs w p l) (n c : Nat) (hn : n = l.length) (hnc : n ≤ c) (hc : c ≤ 9223372036854775807) (hlen : l.length ≤ 100000) :
    Calls Try.prog 18 #[.slice p n c] w (RPost w l) := by
  have HN := Lib.hid hn
  have HL := Lib.hid hl
  clear hn hl
  go_enter Try.func18, Try.ntmps18
  go_wp2
  go_loopw [5, 6] (fun v i wr => ∃ (u : Nat) (acc : List UInt8), i = .int .i64 u ∧ u ≤ n ∧ acc.length ≤ u ∧ rdT l = rdA acc u (l.drop u) ∧ Own wr w.heap.size v acc ∧ Below w.heap.size w wr) (fun _ i _ => n - (intOf i).toNat)
  case atStart => exact ⟨0, [], rfl, by omega, by simp, rfl, Own.nil _ _, Below.refl _ _⟩
  case round =>
    obtain ⟨u, acc, rfl, hu, hacc, hrd, hown, hb⟩ := hrel
    have HO := Lib.hid hown
    have HB := Lib.hid hb
    clear hown hb
    have hu3 : n ≤ 100000 := by have := HN.out; omega
    by_cases hun : u < n
    · have hul : u < l.length := by have := HN.out; omega
      have hdr := List.drop_eq_getElem_cons hul
      obtain ⟨b, o, rfl, _, hcells⟩ := (HL.out.below HB.out).at (by omega)
      have hx := hcells u hul
      by_cases hz : l[u] = 0
      · have hz' : ((l[u].toNat : Int) == 0) = true := by rw [hz]; rfl
        have hz2 : ((l[u].toNat : Int) != 0) = false := by rw [bne_eq_false_iff_eq]; rw [hz]; rfl
        rw [hdr, hz] at hrd
        by_cases hend : u + 1 = n
        · have h0 : l.drop (u + 1) = [] := List.drop_eq_nil_of_le (by have := HN.out; omega)
          rw [h0] at hrd
          have HR := Lib.hid (hrd.trans (rdA_one _ _ _))
          have he : ((u : Int) + 1 == (n : Int)) = true := by rw [beq_iff_eq]; omega
          clear hrd hdr hz hend hcells h0
          go_wp2
          go_ret3
          exact rpost_mk HR.out HB.out
        · have he : ((u : Int) + 1 == (n : Int)) = false := by rw [beq_eq_false_iff_ne]; omega
          have hul2 : u + 1 < l.length := by have := HN.out; omega
          have hdr2 := List.drop_eq_getElem_cons hul2
          have hy := hcells (u + 1) hul2
          rw [hdr2] at hrd
          generalize l[u + 1] = d at hrd hy hdr2
          have HR := Lib.hid hrd
          have hle : u + 2 ≤ n := by omega
          have HUL2 := Lib.hid hul2
          clear hrd hdr hdr2 hz hend hcells hul2
          by_cases h1 : d = 1
          · subst h1
            obtain ⟨p1, c1, rfl, _, _, hbs1, _⟩ := HO.out.form rfl
            have e1 := str_of hbs1 (c := c1) rfl
            clear hbs1
            go_wp2
            go_ret3
            exact rpost_mk (k := u + 2) (HR.out.trans (rdA_end _ _ _)) HB.out (by omega)
          · by_cases h2 : d = 255
            · subst h2
              have HU2 := Lib.hid (HR.out.trans (rdA_zero _ _ _))
              go_wp2_with (at_builtin; refine app_own rfl (.tmp 46) (.tmp 47) rfl rfl (HO.out.alloc _) (m := [0]) rfl rfl (Bs.new _ _ _ _ rfl rfl) (fun h => by cases h) (by simp; omega) (by have := HB.out.size; simp; omega) ?_; intro v2 w2 ho2 hb2; have HO2 := Lib.hid ho2; have HB2 := Lib.hid (((HB.out.alloc HB.out.size _)).trans hb2); clear ho2 hb2)
              go_roundw
              case rel => exact ⟨u + 2, acc ++ [0], by go_num, by omega, by simp; omega, HU2.out, HO2.out, HB2.out⟩
              case measure => simp [intOf]; omega
            · have hd1 : ((d.toNat : Int) == 1) = false := by
                rw [beq_eq_false_iff_ne]
                intro h
                exact h1 (by rw [← UInt8.toNat_inj]; show _ = 1; omega)
              have hd2 : ((d.toNat : Int) != 255) = true := by
                rw [bne_iff_ne]
                intro h
                exact h2 (by rw [← UInt8.toNat_inj]; show _ = 255; omega)
              have HU2 := Lib.hid (HR.out.trans (rdA_form _ _ _ h1 h2))
              clear h1 h2
              go_wp2
              go_ret3
              exact rpost_mk HU2.out HB.out
      · have hz2 : ((l[u].toNat : Int) != 0) = true := by
          rw [bne_iff_ne]
          intro h
          exact hz (by rw [← UInt8.toNat_inj]; show _ = 0; omega)
        rw [hdr] at hrd
        have HR := Lib.hid (hrd.trans (rdA_cons _ _ _ hz))
        have h255 := l[u].toNat_lt
        clear hrd hdr hz hcells
        go_wp2_with (at_builtin; refine app_own rfl (.tmp 16) (.tmp 21) rfl rfl (HO.out.alloc _) (m := [l[u]]) rfl rfl (Bs.new _ _ _ _ rfl rfl) (fun h => by cases h) (by simp; omega) (by have := HB.out.size; simp; omega) ?_; intro v2 w2 ho2 hb2; have HO2 := Lib.hid ho2; have HB2 := Lib.hid (((HB.out.alloc HB.out.size _)).trans hb2); clear ho2 hb2)
        go_roundw
        case rel => exact ⟨u + 1, acc ++ [l[u]], by go_num, by omega, by simp; omega, HR.out, HO2.out, HB2.out⟩
        case measure => simp [intOf]; omega
    · have h0 : l.drop u = [] := List.drop_eq_nil_of_le (by have := HN.out; omega)
      rw [h0] at hrd
      have HR := Lib.hid (hrd.trans (rdA_nil _ _))
      clear hrd h0
      go_wp2
      go_ret3
      exact rpost_mk HR.out HB.out

end Go.Proofs.Ytlonbkkalnobeaa
