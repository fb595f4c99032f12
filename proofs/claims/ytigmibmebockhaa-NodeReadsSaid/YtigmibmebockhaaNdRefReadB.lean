/-
  The reference's Read of a branch.
-/
import Derived.Test.YtigmibmebockhaaNdRefStep
import Derived.Test.YtigmibmebockhaaNdRefP
set_option linter.unusedVariables false
set_option linter.unusedSimpArgs false
set_option maxRecDepth 100000
namespace Go.Proofs.Ytigmibmebockhaa
open Go.RowKit

set_option maxHeartbeats 6400000 in
theorem rread_branch {w : World} {p : Option Addr} {l : List UInt8} (hl : Bs w p l) {n c : Nat} (hn : n = l.length) (hnc : n ≤ c) (hc : c ≤ 9223372036854775807) (hz : p = none → c = 0) (h600 : n ≤ 600) :
    Calls Try.prog 10 #[.int .u8 3, .slice p n c] w (ReadPost w 3 l) := by
  have HST := Lib.hid (StR.first w p n c l false hl hn hnc hc hz)
  have HN := Lib.hid hn
  have HBS := Lib.hid hl
  have HTK := Lib.hid (take2_any HST.out.rs (by omega) 1 (by omega))
  clear hl hn hz
  go_enter Try.func10, Try.ntmps10
  go_wp2_with fail
  refine HTK.out.mono ?_
  rintro e w3 ⟨q3, c3, t3, l3, b3, rfl, hk, ho, hg, htk, hrs⟩
  obtain ⟨x, rfl⟩ : ∃ x, t3 = [x] := by
    match t3, hk with
    | [x], _ => exact ⟨x, rfl⟩
  obtain ⟨g1, c4, hv, a1, a2, a3, hg1, hcell, _⟩ := ho.some (n := 1) rfl (by omega)
  cases hv
  have d0 : w3.cell? ⟨g1, 0, none⟩ = some (.int .u8 (x.toNat : Int)) := hcell 0 (by simp)
  have HST3 := Lib.hid (HST.out.take hg hrs)
  have HTKA := Lib.hid htk
  have HL3 : Hid (l3.length ≤ 600) := Lib.hid (by have := htk.len; have := HN.out; omega)
  have hx := x.toNat_lt
  generalize hxm : x.toNat = m at *
  have HXM := Lib.hid hxm
  clear hk ho hg htk hrs hcell HTK HST hxm
  obtain ⟨⟨c0, c1, c2, c3'⟩, fz⟩ := HST3.out.cells
  have hA := HST3.out.lt
  have HT8 := Lib.hid (two2_any (w := w3.drew) (HST3.out.later (Below.refl _ _).drew).rs (by have := HL3.out; omega))
  have HVO0 : Hid (∀ w', Below w3.heap.size w3 w' → OwnI w' (w.heap.size + 1 + 1 + 1) (.slice none 0 0) []) := Lib.hid fun w' hb => OwnI.nil _ _
  go_wp2_with fail
  go_cut [] from 36 to 42 (fun wx => ∃ (n2 : Nd) (v : Nat) (l2 : List UInt8) (b2 : Bool), TW l3 b3 v l2 b2 ∧ n2.leaf = false ∧ n2.ks = [] ∧ n2.vs = [] ∧ n2.is = [(v : Int)] ∧ StR w wx w.heap.size (w.heap.size + 1) (w.heap.size + 1 + 1) (w.heap.size + 1 + 1 + 1) n2 l2 b2)
  case first =>
    go_region_law (first
      | (go_simp; go_at_call 28; go_loud ((with_reducible refine HT8.out.mono ?_); rintro e w8 ⟨v8, l8, b8, rfl, hv8, hg8, htw8, hrs8⟩; have HTW8 := Lib.hid htw8; have HST8 := Lib.hid ((HST3.out.later (Below.refl _ _).drew).take hg8 hrs8); have c3b := HST8.out.cells.1.2.2.2; have hA8 := HST8.out.lt; have HVO : Hid (OwnI w8 (w.heap.size + 1 + 1 + 1) (.slice none 0 0) []) := Lib.hid (OwnI.nil _ _); clear hg8 htw8 hrs8))
      | (go_loud (refine step_appI1 rfl (.tmp 37) (.tmp 40) rfl (v8 : Int) rfl (World.ownsRow.alloc HVO.out _) rfl ((Joins.cell_of_block (heap_alloc_new w8 _) 0).trans rfl) (by simp) (by have := HST8.out.ne.2.2.2.2; simp; omega) ?_; intro q9 n9 c9 w9 hn9 ho9 hg9; have HST9 := Lib.hid (HST8.out.setI (x := (v8 : Int)) ((Below.refl _ _).alloc (Nat.le_refl _) _) hn9 ho9 hg9 (by omega)); have hb9 := HST8.out.boxAt ((Below.refl _ _).alloc (Nat.le_refl _) _) HVO.out (by decide) (by decide) hg9; have z3 := (Joins.cell_of_block hb9 3).trans rfl; have y3 := Joins.unfrozen_of_block hb9 3; have hA9 := (Array.getElem?_eq_some_iff.1 hb9).1; clear hn9 ho9 hg9 hb9))
      | fail)
    all_goals
      go_wp2_with fail
      go_meet
      exact ⟨{ (⟨false, none, 0, [], none, 0, [], none, 0, []⟩ : Nd) with iq := q9, ic := c9, is := [] ++ [(v8 : Int)] }, _, _, _, HTW8.out, rfl, rfl, rfl, rfl, HST9.out⟩
  case rest =>
    obtain ⟨n2, v, l2, b2, htw, hn1, hn2, hn3, hn4, hst⟩ := hcut
    have HRIA := Lib.hid (RI.branch0 HTKA.out htw hn1 hn2 hn3 hn4)
    have HSTA := Lib.hid hst
    rw [HXM.out] at HRIA
    clear c0 c1 c2 c3' fz hA htw hn1 hn2 hn3 hn4 hst HST3 HT8 HTKA
    obtain ⟨⟨c0, c1, c2, c3'⟩, fz⟩ := HSTA.out.cells
    have hA := HSTA.out.lt
    go_wp2_with fail
    go_loopw [9] (fun i wr => ∃ (j : Nat) (n : Nd) (l' : List UInt8) (bad : Bool), i = .int .i64 (j : Int) ∧ StR w wr w.heap.size (w.heap.size + 1) (w.heap.size + 1 + 1) (w.heap.size + 1 + 1 + 1) n l' bad ∧ RI 3 l false m j n l' bad) (fun i _ => m - (intOf i).toNat)
    case atStart => exact ⟨0, _, _, _, rfl, HSTA.out, HRIA.out⟩
    case round =>
      clear c0 c1 c2 c3' fz hA d0 HSTA HRIA
      obtain ⟨j, n, l', bad, rfl, hst, hri⟩ := hrel
      have HST := Lib.hid hst
      have HRI := Lib.hid hri
      obtain ⟨⟨c0, c1, c2, c3'⟩, fz⟩ := hst.cells
      have hA := hst.lt
      obtain ⟨rp, rn, rc, rb, rbs, rhn, rh1, rh2, rhz, _⟩ := hst.rs
      have r0 : wr.cell? ⟨w.heap.size + 1, 0, none⟩ = some (.slice rp rn rc) := Joins.cell_of_block rb 0
      have r1 : wr.cell? ⟨w.heap.size + 1, 1, none⟩ = some (.bool bad) := Joins.cell_of_block rb 1
      have hgl := hst.rs.lt
      have hlf := hri.leaf
      rw [hlf] at c0
      have hjm := hri.jm
      have hkl := hri.kl
      have hvl := hri.vl
      have HLL : Hid (l'.length ≤ 600) := Lib.hid (by have := hri.len; have := HN.out; omega)
      obtain ⟨_, _, hke, hk1, hk2, _⟩ := row_form hst.ko
      cases hke
      obtain ⟨kn, hkn⟩ : ∃ y, y = n.ks.length := ⟨_, rfl⟩
      have HKN := Lib.hid hkn
      rw [← hkn] at c1 hkl hk1
      have HRN := Lib.hid rhn
      clear hst hri rb rbs rhn hlf hkn
      by_cases hlt : j < m
      · cases bad
        · have HT1 := Lib.hid (take1_any (w := wr.drew) (HST.out.later (Below.refl _ _).drew).rs (by have := HLL.out; omega))
          go_wp2_with fail
          go_cut [9] from 55 to 66 (fun x9 wx => x9 = .int .i64 (j : Int) ∧ ∃ (n2 : Nd) (t l2 l5 : List UInt8) (x : UInt8) (b4 b5 : Bool) (q : Option Addr) (cc : Nat), TK 1 l' false [x] l2 b4 ∧ TK x.toNat l2 b4 t l5 b5 ∧ n2.ks = n.ks ++ [⟨q, cc, t⟩] ∧ n2.vs = n.vs ∧ n2.is = n.is ∧ n2.leaf = n.leaf ∧ StR w wx w.heap.size (w.heap.size + 1) (w.heap.size + 1 + 1) (w.heap.size + 1 + 1 + 1) n2 l5 b5)
          case first =>
            go_region_law (first
              | (go_simp; go_at_call 27; (with_reducible refine HT2.out.mono ?_); rintro e w5 ⟨q5, c5, t5, l5, b5, rfl, hk5, ho5, hg5, htk5, hrs5⟩; have HTK5 := Lib.hid htk5; have HK5 := Lib.hid hk5; have HST5 := Lib.hid (HST4.out.take hg5 hrs5); have HO5 : Hid (Own w5 (w.heap.size + 1 + 1 + 1) (.slice q5 t5.length c5) t5) := Lib.hid (by rw [← hk5]; exact ho5.le HST4.out.ne.2.2.2.2); have c1b := HST5.out.cells.1.2.1; rw [← HKN.out] at c1b; have hA5 := HST5.out.lt; have HKO : Hid (KOwn w5 (w.heap.size + 1 + 1 + 1) (.slice n.kq kn n.kc) n.ks) := Lib.hid (by rw [HKN.out]; exact HST5.out.ko); clear hk5 ho5 hg5 htk5 hrs5)
              | (go_simp; go_at_call 27; go_loud ((with_reducible refine HT1.out.mono ?_); rintro e w4 ⟨q4, c4', t4, l4, b4, rfl, hk4, ho4, hg4, htk4, hrs4⟩; obtain ⟨x, rfl⟩ := one_of hk4; obtain ⟨g4, d4, hv4, hd1, hd2, _, hg4l, hcell4, _⟩ := ho4.some (n := 1) rfl (by omega); cases hv4; have d4c : w4.cell? ⟨g4, 0, none⟩ = some (.int .u8 (x.toNat : Int)) := (hcell4 0 (by simp)); have HTK4 := Lib.hid htk4; have HST4 := Lib.hid ((HST.out.later (Below.refl _ _).drew).take hg4 hrs4); have hx4 : x.toNat ≤ 255 := (by have := x.toNat_lt; omega); have hwk : IntKind.i64.wrap (x.toNat : Int) = (x.toNat : Int) := (by rw [IntKind.wrap_i64]; omega); have c1b := HST4.out.cells.1.2.1; rw [← HKN.out] at c1b; have hA4 := HST4.out.lt; have HT2 := Lib.hid (take2_any HST4.out.rs (by have := htk4.len; have := HLL.out; omega) x.toNat (by omega)); generalize hxk : x.toNat = xk at *; replace hxk := Lib.hid hxk; clear hk4 ho4 hg4 htk4 hrs4 hcell4))
              | (refine step_appK rfl (.tmp 56) (.tmp 64) rfl ⟨q5, c5, t5⟩ rfl (World.ownsRow.alloc HKO.out _) rfl ((Joins.cell_of_block (heap_alloc_new w5 _) 0).trans (by unfold Kb.v; rw [← HK5.out]; rfl)) (by rw [← HKN.out]; omega) (by have := HST5.out.ne.2.2.2.2; simp; omega) ?_; intro q6 n6 c6 w6 hn6 ho6 hg6; have HST6 := Lib.hid (HST5.out.setK (x := ⟨q5, c5, t5⟩) ((Below.refl _ _).alloc (Nat.le_refl _) _) hn6 ho6 (by rw [← HKN.out]; exact hg6) HO5.out); have hb6 := HST5.out.boxAt ((Below.refl _ _).alloc (Nat.le_refl _) _) HKO.out (by decide) (by decide) hg6; have z1 := (Joins.cell_of_block hb6 1).trans rfl; have y1 := Joins.unfrozen_of_block hb6 1; have hA6 := (Array.getElem?_eq_some_iff.1 hb6).1; clear hn6 ho6 hg6 hb6)
              | fail)
            all_goals
              go_wp2_with fail
              go_meet
              exact ⟨rfl, { n with kq := q6, kc := c6, ks := n.ks ++ [⟨q5, c5, t5⟩] }, _, _, _, _, _, _, _, _, HTK4.out, by rw [hxk.out]; exact HTK5.out, rfl, rfl, rfl, rfl, HST6.out⟩
          case rest =>
            obtain ⟨rfl, n2, t, l2, l5, x, b4, b5, q, cc, htk1, htk2, hks, hvs, his, hlf2, hst⟩ := hcut
            have HTK1 := Lib.hid htk1
            have HTK2 := Lib.hid htk2
            have HKS := Lib.hid hks
            have HVS := Lib.hid hvs
            have HIS := Lib.hid his
            have HLF2 := Lib.hid hlf2
            have HST2 := Lib.hid hst
            have HL5 : Hid (l5.length ≤ 600) := Lib.hid (by have := htk1.len; have := htk2.len; have := HLL.out; omega)
            clear c0 c1 c2 c3' r0 r1 fz hA hgl
            obtain ⟨⟨c0, c1, c2, c3'⟩, fz⟩ := hst.cells
            have hA := hst.lt
            rw [hlf2, HRI.out.leaf] at c0
            obtain ⟨vn, hvn⟩ : ∃ y, y = n2.is.length := ⟨_, rfl⟩
            have HVN := Lib.hid hvn
            have hvn2 : vn ≤ 256 := by rw [hvn, his]; have := HRI.out.il; omega
            rw [← hvn] at c3'
            have HT8 := Lib.hid (two2_any (w := wc.drew) (HST2.out.later (Below.refl _ _).drew).rs (by have := HL5.out; omega))
            clear htk1 htk2 hks hvs his hlf2 hst hvn HT1
            go_wp2_with fail
            go_region_law (first
              | (go_simp; go_at_call 28; go_loud ((with_reducible refine HT8.out.mono ?_); rintro e w8 ⟨v8, l8, b8, rfl, hv8, hg8, htw8, hrs8⟩; have HTW8 := Lib.hid htw8; have HST8 := Lib.hid ((HST2.out.later (Below.refl _ _).drew).take hg8 hrs8); have c3b := HST8.out.cells.1.2.2.2; rw [← HVN.out] at c3b; have hA8 := HST8.out.lt; have HVO : Hid (OwnI w8 (w.heap.size + 1 + 1 + 1) (.slice n2.iq vn n2.ic) n2.is) := Lib.hid (by rw [HVN.out]; exact HST8.out.io); clear hg8 htw8 hrs8))
              | (go_loud (refine step_appI1 rfl (.tmp 71) (.tmp 74) rfl (v8 : Int) rfl (World.ownsRow.alloc HVO.out _) rfl ((Joins.cell_of_block (heap_alloc_new w8 _) 0).trans rfl) (by rw [← HVN.out]; omega) (by have := HST8.out.ne.2.2.2.2; simp; omega) ?_; intro q9 n9 c9 w9 hn9 ho9 hg9; have HST9 := Lib.hid (HST8.out.setI (x := (v8 : Int)) ((Below.refl _ _).alloc (Nat.le_refl _) _) hn9 ho9 (by rw [← HVN.out]; exact hg9) (by omega)); have hb9 := HST8.out.boxAt ((Below.refl _ _).alloc (Nat.le_refl _) _) HVO.out (by decide) (by decide) hg9; have z3 := (Joins.cell_of_block hb9 3).trans rfl; have y3 := Joins.unfrozen_of_block hb9 3; have hA9 := (Array.getElem?_eq_some_iff.1 hb9).1; clear hn9 ho9 hg9 hb9))
              | fail)
            all_goals
              have HRI9 := Lib.hid (HRI.out.stepB (n3 := { n2 with iq := q9, ic := c9, is := n2.is ++ [(v8 : Int)] }) hlt HTK1.out HTK2.out HTW8.out HLF2.out HKS.out HVS.out (by rw [← HIS.out]))
              generalize (w9.setCell ⟨w.heap.size + 1 + 1, 3, none⟩ (.slice q9 n9 c9)) = w10 at *
              go_wp2_with fail
              go_roundw
              case rel =>
                (repeat apply Exists.intro)
                exact ⟨by go_num, HST9.out, HRI9.out⟩
              case measure => simp [intOf]; omega
        · obtain ⟨⟨q0, q1, q2, q3⟩, ⟨u0, u1, u2, u3⟩, hRl⟩ := HST.out.rc
          go_wp2
          refine bodyPost_ret (results_cell_tmp rfl _ _ w.heap.size 33 _ (0, 0) (by kernel_rfl) (set4 HST.out.res) Try.underlying33 (by kernel_rfl)) rfl ?_
          exact .inr ⟨rfl, HRI.out.bad, below4 HST.out.below (Nat.le_refl _) _ _ _ _⟩
      · cases bad
        · by_cases hr0 : 0 < rn
          · have HNO : Hid (∀ s, ¬ readS 3 l s) := Lib.hid fun s hs => by have h1 := (HRI.out.done hlt (.inr ⟨rfl, rfl⟩) s hs).2; have h2 := HRN.out; rw [h1] at h2; simp at h2; omega
            obtain ⟨⟨q0, q1, q2, q3⟩, ⟨u0, u1, u2, u3⟩, hRl⟩ := HST.out.rc
            go_wp2
            refine bodyPost_ret (results_cell_tmp rfl _ _ w.heap.size 33 _ (0, 0) (by kernel_rfl) (set4 HST.out.res) Try.underlying33 (by kernel_rfl)) rfl ?_
            exact .inr ⟨rfl, HNO.out, below4 HST.out.below (Nat.le_refl _) _ _ _ _⟩
          · obtain rfl : rn = 0 := by omega
            have hct : n.s.count ≤ 100000 := Nat.le_trans (HRI.out.count (by have := HN.out; omega) (by omega)) (by omega)
            have hcell : n.cell = .agg #[.bool false, .slice n.kq kn n.kc, .slice n.vq n.vs.length n.vc, .slice n.iq n.is.length n.ic] := by
              unfold Nd.cell
              rw [HRI.out.leaf, ← HKN.out]
            have HCELL := Lib.hid hcell
            have HRG := Lib.hid (rright_any HST.out.ok hct)
            have HPT : Hid (∀ w', Below wr.heap.size wr w' → Calls Try.prog 30 #[n.cell] w' (PutN w' n.s)) := Lib.hid fun w' hb => rput_any (HST.out.later hb).ok hct
            rw [hcell] at HRG HPT
            clear hcell hct
            obtain ⟨vn, hvn⟩ : ∃ y, y = n.vs.length := ⟨_, rfl⟩
            have HVN := Lib.hid hvn
            rw [← hvn] at c2 HRG HPT HCELL hvl
            clear hvn
            go_wp2_with fail
            with_reducible refine HRG.out.mono ?_
            rintro e w5 ⟨b5, rfl, hbr, hb5⟩
            have HST5 := Lib.hid (HST.out.later hb5)
            have HPT5 := Lib.hid (HPT.out w5 hb5)
            clear HPT HRG hb5 c0 c1 c2 c3' r0 r1 fz hA hgl
            cases b5
            · have HNO : Hid (∀ s, ¬ readS 3 l s) := Lib.hid fun s hs => by
                have h1 := (HRI.out.done hlt (.inr ⟨rfl, rfl⟩) s hs).1
                have h2 := hbr.2 (by rw [h1]; exact hs.2.1)
                cases h2
              clear hbr
              obtain ⟨⟨q0, q1, q2, q3⟩, ⟨u0, u1, u2, u3⟩, hRl⟩ := HST5.out.rc
              go_wp2
              refine bodyPost_ret (results_cell_tmp rfl _ _ w.heap.size 33 _ (0, 0) (by kernel_rfl) (set4 HST5.out.res) Try.underlying33 (by kernel_rfl)) rfl ?_
              exact .inr ⟨rfl, HNO.out, below4 HST5.out.below (Nat.le_refl _) _ _ _ _⟩
            · have HRT := Lib.hid (hbr.1 rfl)
              clear hbr
              obtain ⟨⟨c0, c1, c2, c3'⟩, fz⟩ := HST5.out.cells
              have hA := HST5.out.lt
              rw [HRI.out.leaf] at c0
              rw [← HKN.out] at c1
              rw [← HVN.out] at c2
              have HZ := Lib.hid (val_zero_of HRT.out)
              have HVL := Lib.hid (vownR_lie HST5.out.vo)
              go_wp2
              go_loopw [12] (fun i w' => ∃ ii : Nat, i = .int .i64 (ii : Int) ∧ ii ≤ vn ∧ w' = w5) (fun i _ => vn - (intOf i).toNat)
              case atStart => exact ⟨0, rfl, by omega, rfl⟩
              case round =>
                obtain ⟨ii, rfl, hii, hww⟩ := hrel
                subst hww
                by_cases hin : ii < vn
                · obtain ⟨y, hy⟩ : ∃ y, n.vs[ii]? = some y := ⟨_, List.getElem?_eq_getElem (by rw [← HVN.out]; exact hin)⟩
                  obtain ⟨yb, yo, yq, yl, y1, y2, y3⟩ := HVL.out.at hy
                  have hz := HZ.out y (List.mem_of_getElem? hy)
                  have HYQ := Lib.hid yq
                  rw [yq] at c2
                  by_cases hp : y.p = 0
                  · have hg := hz hp
                    rw [hp] at y3
                    rw [hg] at y2
                    clear hz hp hg hy yq
                    go_wp2
                    go_roundw
                    case rel => exact ⟨ii + 1, by go_num, by omega, trivial⟩
                    case measure => simp [intOf]; omega
                  · have e1 : (y.p == 0) = false := by simpa using hp
                    clear hz hy yq
                    go_wp2
                    go_roundw
                    case rel => exact ⟨ii + 1, by go_num, by omega, trivial⟩
                    case measure => simp [intOf]; omega
                · go_wp2_with fail
                  with_reducible refine HPT5.out.mono ?_
                  rintro e w6 (⟨hnr, _, _⟩ | ⟨_, g6, k6, cc6, rfl, hk6, ho6, hb6⟩)
                  · exact absurd HRT.out hnr
                  · have HST6 := Lib.hid (HST5.out.later hb6)
                    obtain ⟨_, _, hv6, _, _, hbp6, _⟩ := ho6.form hk6
                    cases hv6
                    have hcb := str_of (HBS.out.below HST6.out.below) HN.out (c := c)
                    have hcx := str_of hbp6 hk6 (c := cc6)
                    clear hb6 hk6 ho6 hbp6 c0 c1 c2 c3' fz hA HPT5
                    obtain ⟨⟨c0, c1, c2, c3'⟩, fz⟩ := HST6.out.cells
                    have hA := HST6.out.lt
                    rw [HRI.out.leaf] at c0
                    rw [← HKN.out] at c1
                    rw [← HVN.out] at c2
                    by_cases heq : n.s.put = l
                    · have HRD : Hid (readS 3 l n.s) := Lib.hid (by
                        have h1 := readS_put HRT.out
                        rw [kind_of HRI.out.leaf (.inr ⟨rfl, rfl⟩), heq] at h1
                        exact h1)
                      rw [heq] at hcx
                      clear heq
                      obtain ⟨⟨q0, q1, q2, q3⟩, ⟨u0, u1, u2, u3⟩, hRl⟩ := HST6.out.rc
                      go_wp2
                      refine bodyPost_ret (results_cell_tmp rfl _ _ w.heap.size 33 _ (0, 0) (by kernel_rfl) (set4 HST6.out.res) Try.underlying33 (by kernel_rfl)) rfl ?_
                      obtain ⟨h1, h2⟩ := HST6.out.okR (gb4 w6 w.heap.size (.bool false) (.slice n.kq kn n.kc) (.slice n.vq vn n.vc) (.slice n.iq n.is.length n.ic))
                      exact .inl ⟨n, by rw [HCELL.out]; rfl, HRD.out, h1, h2⟩
                    · have HNO : Hid (∀ s, ¬ readS 3 l s) := Lib.hid fun s hs => by
                        have h1 := (HRI.out.done hlt (.inr ⟨rfl, rfl⟩) s hs).1
                        rw [h1] at heq
                        exact heq hs.2.2
                      have hne : (n.s.put == l) = false := by simpa using heq
                      have hne2 : (⟨n.s.put.toArray⟩ : ByteArray) ≠ ⟨l.toArray⟩ := fun e => heq (by
                        have h1 := congrArg (fun b => b.data.toList) e
                        simpa using h1)
                      obtain ⟨⟨q0, q1, q2, q3⟩, ⟨u0, u1, u2, u3⟩, hRl⟩ := HST6.out.rc
                      go_wp2
                      refine bodyPost_ret (results_cell_tmp rfl _ _ w.heap.size 33 _ (0, 0) (by kernel_rfl) (set4 HST6.out.res) Try.underlying33 (by kernel_rfl)) rfl ?_
                      exact .inr ⟨rfl, HNO.out, below4 HST6.out.below (Nat.le_refl _) _ _ _ _⟩
        · obtain ⟨⟨q0, q1, q2, q3⟩, ⟨u0, u1, u2, u3⟩, hRl⟩ := HST.out.rc
          go_wp2
          refine bodyPost_ret (results_cell_tmp rfl _ _ w.heap.size 33 _ (0, 0) (by kernel_rfl) (set4 HST.out.res) Try.underlying33 (by kernel_rfl)) rfl ?_
          exact .inr ⟨rfl, HRI.out.bad, below4 HST.out.below (Nat.le_refl _) _ _ _ _⟩

end Go.Proofs.Ytigmibmebockhaa
