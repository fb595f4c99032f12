/-
  order.ReadText reads a text as the document says: its contract.
-/
import Derived.Test.YtekaedafhiddeaaO2
import Derived.Test.YtekaedafhiddeaaOrd
import Derived.Test.YtekaedafhiddeaaIdx
set_option linter.unusedVariables false
set_option maxRecDepth 100000
namespace Go.Proofs.Ytekaedafhiddeaa
open Go.RowKit

/-- b[u:] -/
theorem from_run {p : Option Addr} {l : List UInt8} {n c u : Nat} (hn : n = l.length) (hnc : n ≤ c) (hu : u ≤ n) (hp : p = none → c = 0) :
    ∃ q, (if c = u then p else p.map (·.add u)) = q ∧ (q = none → c - u = 0) ∧ ∀ W, Bs W p l → Bs W q (l.drop u) := by
  refine ⟨_, rfl, ?_, ?_⟩
  · intro h
    split at h
    · omega
    · cases p with
      | none => have := hp rfl; omega
      | some a => cases h
  · intro W hb
    split
    · rw [List.drop_eq_nil_of_le (by omega)]
      exact Bs.nil _ _
    · rcases Nat.lt_or_ge u l.length with h1 | h1
      · obtain ⟨b, o, rfl, hc⟩ := hb (by intro h; subst h; simp at h1)
        simp only [Option.map_some, Addr.add_lit]
        exact Bs.drop hc u
      · rw [List.drop_eq_nil_of_le h1]
        exact Bs.nil _ _

def RPost (w : World) (l : List UInt8) (e : Ending) (w' : World) : Prop :=
  e = .returned (.tuple #[.string ⟨(rdT l).2.1.toArray⟩, .int .i64 (rdT l).2.2, .int .i64 (rdT l).1]) ∧ Below w.heap.size w w'

theorem rpost_mk {w w' : World} {l s : List UInt8} {k : Nat} {x y : Int} (h : rdT l = (x, s, k)) (hb : Below w.heap.size w w') (hy : y = (k : Int) := by rfl) :
    RPost w l (.returned (.tuple #[.string ⟨s.toArray⟩, .int .i64 y, .int .i64 x])) w' := by
  unfold RPost
  subst hy
  rw [h]
  exact ⟨rfl, hb⟩

theorem rpost_out {w w' : World} {l s : List UInt8} {k : Nat} {x : Int} {e : Ending} (h : rdT l = (x, s, k)) (hp : RPost w l e w') :
    e = .returned (.tuple #[.string ⟨s.toArray⟩, .int .i64 k, .int .i64 x]) ∧ Below w.heap.size w w' := by
  unfold RPost at hp
  rw [h] at hp
  exact hp

set_option maxHeartbeats 800000 in
theorem readText_any {w : World} {p : Option Addr} {l : List UInt8} (hl : Bs w p l) (n c : Nat) (hn : n = l.length) (hnc : n ≤ c) (hc : c ≤ 9223372036854775807) (hp : p = none → c = 0) (hlen : l.length ≤ 100000) :
    Calls Try.prog 59 #[.slice p n c] w (RPost w l) := by
  have HN := Lib.hid hn
  have HL := Lib.hid hl
  have HP := Lib.hid hp
  clear hn hl hp
  go_enter Try.func59, Try.ntmps59
  go_wp2
  go_loopw [3, 6] (fun i v wr => ∃ (u : Nat) (acc : List UInt8), i = .int .i64 u ∧ u ≤ n ∧ acc.length ≤ u ∧ rdT l = rdA acc u (l.drop u) ∧ Own wr w.heap.size v acc ∧ Below w.heap.size w wr) (fun i _ _ => n - (intOf i).toNat)
  case atStart => exact ⟨0, [], rfl, by omega, by simp, rfl, Own.nil _ _, Below.refl _ _⟩
  case round =>
    obtain ⟨u, acc, rfl, hu, hacc, hrd, hown, hb⟩ := hrel
    have HR := Lib.hid hrd
    have HO := Lib.hid hown
    have HB := Lib.hid hb
    clear hrd hown hb
    obtain ⟨q, hq, hqn, hqb⟩ := from_run HN.out hnc hu HP.out
    have HQ := Lib.hid hqn
    have HS := Lib.hid hqb
    clear hqn hqb
    have hfle := fz_le (l.drop u)
    have hdl : (l.drop u).length = n - u := by have := HN.out; simp; omega
    have HD := Lib.hid hdl
    have hI := idxZero_any (HS.out wr (HL.out.below HB.out)) (n - u) (c - u) hdl.symm (by omega) (by omega)
    by_cases hun : u < n
    · have hq2 : Option.map (fun x => x.add u) p = q := by rw [← hq, if_neg (by omega)]
      clear hq
      by_cases hend : n - u ≤ fz (l.drop u) + 1
      · have HE := Lib.hid (HR.out.trans (rdA_none acc u (l := l.drop u) (by omega)))
        by_cases hend2 : fz (l.drop u) < n - u
        · have hidx : idxOf (l.drop u) = (fz (l.drop u) : Int) := by unfold idxOf; rw [if_pos (by omega)]
          rw [hidx] at hI
          have hf : fz (l.drop u) + 1 = n - u := by omega
          generalize fz (l.drop u) = f at hI hf hend hend2 hfle
          have hx : ((f : Int) + 1 == ((n - u : Nat) : Int)) = true := by rw [beq_iff_eq]; omega
          have HI := Lib.hid hI
          have hfb : f ≤ 100000 := by have := HN.out; omega
          clear hI hf hidx hdl hend hfle hend2
          go_wp2_with (go_at_call 83; refine HI.out.mono ?_; rintro e w' ⟨rfl, rfl⟩)
          go_ret3
          exact rpost_mk HE.out HB.out
        · have hidx : idxOf (l.drop u) = -1 := by unfold idxOf; rw [if_neg (by omega)]
          rw [hidx] at hI
          have HI := Lib.hid hI
          clear hI hidx hdl hend hend2 hfle
          go_wp2_with (go_at_call 83; refine HI.out.mono ?_; rintro e w' ⟨rfl, rfl⟩)
          go_ret3
          exact rpost_mk HE.out HB.out
      · have hidx : idxOf (l.drop u) = (fz (l.drop u) : Int) := by unfold idxOf; rw [if_pos (by omega)]
        rw [hidx] at hI
        have hf1 : fz (l.drop u) + 1 < (l.drop u).length := by omega
        have hz0 := fz_eq (l := l.drop u) (by omega)
        have hup := rdA_upto (l.drop u) acc u
        rw [List.drop_eq_getElem_cons (by omega : fz (l.drop u) < (l.drop u).length), List.drop_eq_getElem_cons hf1, hz0] at hup
        have HSRC := Lib.hid ((HS.out wr (HL.out.below HB.out)).take (fz (l.drop u)))
        have htl : fz (l.drop u) = ((l.drop u).take (fz (l.drop u))).length := by rw [List.length_take]; omega
        obtain ⟨b, o, rfl, _, _⟩ := (HS.out wr (HL.out.below HB.out)).at (by omega)
        have hcell : ∀ W, Below w.heap.size w W → W.cell? ⟨b, o + (fz (l.drop u) + 1), none⟩ = some (.int .u8 ((l.drop u)[fz (l.drop u) + 1].toNat : Int)) := fun W hW => (HS.out W (HL.out.below hW)).cell hf1
        generalize (l.drop u)[fz (l.drop u) + 1] = d at hup hcell
        clear hz0
        generalize fz (l.drop u) = f at hI hup hf1 HSRC htl hend hfle hcell
        have hx : ((f : Int) + 1 == ((n - u : Nat) : Int)) = false := by rw [beq_eq_false_iff_ne]; omega
        have hf2 : f + 1 < n - u := by omega
        have hf3 : f + 1 < 100000 := by have := HN.out; omega
        have hu3 : u < 100000 := by have := HN.out; omega
        have HI := Lib.hid hI
        have HT := Lib.hid htl
        have HCL := Lib.hid hcell
        have hal : acc.length + ((l.drop u).take f).length ≤ 100000 := by have := HN.out; rw [← htl]; omega
        have HAL := Lib.hid hal
        obtain ⟨t, ht⟩ : ∃ t, t = acc ++ (l.drop u).take f := ⟨_, rfl⟩
        have htn : acc.length + f = t.length := by rw [ht, List.length_append, ← htl]
        rw [← ht] at hup
        have HU := Lib.hid (HR.out.trans hup)
        have HTT := Lib.hid ht
        have HTN := Lib.hid htn
        clear hI hup htl hcell hidx hdl hend hfle hf1 hal ht htn
        by_cases h1 : d = 1
        · subst h1
          go_wp2_with (first
            | (go_at_call 83; refine HI.out.mono ?_; rintro e w' ⟨rfl, rfl⟩)
            | (at_builtin; refine app_own rfl (.tmp 24) (.tmp 27) rfl rfl HO.out HT.out rfl HSRC.out (fun h => by cases h) (by have := HAL.out; omega) HB.out.size ?_; intro v1 w1 ho1 hb1; rw [← HTT.out] at ho1; have HO1 := Lib.hid ho1; have HB1 := Lib.hid (HB.out.trans hb1); have hcx := HCL.out w1 (HB.out.trans hb1); obtain ⟨p1, c1, rfl, _, _, hbs1, _⟩ := ho1.form HTN.out; have e1 := str_of hbs1 (c := c1) HTN.out; clear ho1 hb1 hbs1))
          go_ret3
          exact rpost_mk (k := u + f + 2) (HU.out.trans (rdA_end _ _ _)) HB1.out (by omega)
        · by_cases h2 : d = 255
          · subst h2
            have HU2 := Lib.hid (HU.out.trans (rdA_zero _ _ _))
            go_wp2_with (first
              | (go_at_call 83; refine HI.out.mono ?_; rintro e w' ⟨rfl, rfl⟩)
              | (at_builtin; refine app_own rfl (.tmp 24) (.tmp 27) rfl rfl HO.out HT.out rfl HSRC.out (fun h => by cases h) (by have := HAL.out; omega) HB.out.size ?_; intro v1 w1 ho1 hb1; rw [← HTT.out] at ho1; have HO1 := Lib.hid ho1; have HB1 := Lib.hid (HB.out.trans hb1); have hcx := HCL.out w1 (HB.out.trans hb1); clear ho1 hb1)
              | (at_builtin; refine app_own rfl (.tmp 45) (.tmp 46) rfl rfl (HO1.out.alloc _) (m := [0]) rfl rfl (Bs.new _ _ _ _ rfl rfl) (fun h => by cases h) (by have := HTN.out; simp; omega) (by have := HB1.out.size; simp; omega) ?_; intro v2 w2 ho2 hb2; have HO2 := Lib.hid ho2; have HB2 := Lib.hid (((HB1.out.alloc HB1.out.size _)).trans hb2); clear ho2 hb2))
            go_roundw
            case rel => exact ⟨u + f + 2, t ++ [0], by go_num, by omega, by have := HTN.out; simp; omega, HU2.out.trans (by rw [List.drop_drop]; rfl), HO2.out, HB2.out⟩
            case measure => simp [intOf]; omega
          · have hd1 : ((d.toNat : Int) == 1) = false := by
              rw [beq_eq_false_iff_ne]
              intro h
              exact h1 (by rw [← UInt8.toNat_inj]; show _ = 1; omega)
            have hd2 : ((d.toNat : Int) == 255) = false := by
              rw [beq_eq_false_iff_ne]
              intro h
              exact h2 (by rw [← UInt8.toNat_inj]; show _ = 255; omega)
            have HU2 := Lib.hid (HU.out.trans (rdA_form _ _ _ h1 h2))
            clear h1 h2
            go_wp2_with (first
              | (go_at_call 83; refine HI.out.mono ?_; rintro e w' ⟨rfl, rfl⟩)
              | (at_builtin; refine app_own rfl (.tmp 24) (.tmp 27) rfl rfl HO.out HT.out rfl HSRC.out (fun h => by cases h) (by have := HAL.out; omega) HB.out.size ?_; intro v1 w1 ho1 hb1; rw [← HTT.out] at ho1; have HO1 := Lib.hid ho1; have HB1 := Lib.hid (HB.out.trans hb1); have hcx := HCL.out w1 (HB.out.trans hb1); clear ho1 hb1))
            go_ret3
            exact rpost_mk HU2.out HB1.out
    · have HE := Lib.hid (HR.out.trans (rdA_none acc u (l := l.drop u) (by omega)))
      have hidx : idxOf (l.drop u) = -1 := by unfold idxOf; rw [if_neg (by omega)]
      rw [hidx] at hI
      have HI := Lib.hid hI
      clear hI hidx hdl hfle
      go_wp2_with (go_at_call 83; refine HI.out.mono ?_; rintro e w' ⟨rfl, rfl⟩)
      go_ret3
      exact rpost_mk HE.out HB.out

end Go.Proofs.Ytekaedafhiddeaa
