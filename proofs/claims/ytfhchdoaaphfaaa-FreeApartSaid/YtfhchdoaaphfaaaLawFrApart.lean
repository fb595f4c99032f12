/-
  FreeApart: no page is told by Alloc while it is in use, or waits; what waits is told again just behind Settle of its generation.
-/
import Derived.Test.YtfhchdoaaphfaaaFrApI
import Derived.Deep.RegionHeld3
import Derived.Deep.LoopGhost
import Derived.Deep.CutBlock
import Derived.Deep.CutRange
set_option linter.unusedVariables false
set_option maxRecDepth 100000
namespace Go.Proofs.Ytfhchdoaaphfaaa
open Go.RowKit

theorem natIf {α : Type} (x k : Nat) (a b : α) : (if (x : Int) = (k : Int) then a else b) = if x = k then a else b := by
  by_cases h : x = k
  · rw [if_pos h, if_pos (by omega)]
  · rw [if_neg h, if_neg (by omega)]

set_option maxHeartbeats 6400000 in
theorem lawFrApart_any {w : World} (n : Int) {q : Option Addr} {m c : Nat} {l : List Af} (hk : AfsOk w q m c l) :
    Calls Try.prog 4 #[.int .i64 n, .slice q m c] w fun e w' => e = .returned (.bool true) ∧ Below w.heap.size w w' := by
  obtain ⟨r, a31, hr⟩ : ∃ r : Nat, bits BinOp.and IntKind.i64 n 31 = (r : Int) ∧ r ≤ 31 := ⟨(n % 32).toNat, by rw [and31]; omega, by omega⟩
  obtain ⟨N, hN, hN1, hN2⟩ : ∃ N : Nat, r + 1 = N ∧ 1 ≤ N ∧ N ≤ 32 := ⟨_, rfl, by omega, by omega⟩
  obtain rfl := hk.hn
  have HK := Lib.hid fun w' (hb : Below w.heap.size w w') => hk.below hb
  have HN := Lib.hid (frNew_yes (w := w) (lo := 2) (hi := 2 + (N : Int)) (by omega) (by omega) (by omega))
  clear hk
  have wn : wrap64 (1 + (r : Int)) = (N : Int) := by rw [← hN, IntWalk.wrap64_in _ (by omega)]; omega
  have wn3 : wrap64 (2 + wrap64 (1 + (r : Int))) = 2 + (N : Int) := by rw [wn]; exact IntWalk.wrap64_in _ (by omega)
  clear hN hr
  go_enter Try.func4, Try.ntmps4
  go_wp2_with fail
  refine HN.out.mono ?_; rintro e w1 ⟨p, um, wm, rfl, hf, hb, hp, hu, hwm⟩
  have HF := Lib.hid hf
  have HB := Lib.hid hb
  have HP : Hid (w.heap.size ≤ p ∧ w.heap.size ≤ um ∧ w.heap.size ≤ wm) := Lib.hid ⟨hp, hu, hwm⟩
  clear hf hb hp hu hwm
  dsimp only
  rw [wn]
  clear wn wn3 a31
  go_wp2
  obtain ⟨w2, hw2⟩ : ∃ w2, w2 = ((w1.alloc (.cells (i64s (List.replicate 40 0)).toArray 39 (0, 0))).alloc (.cells (i64s (List.replicate 40 0)).toArray 39 (0, 0))) := ⟨_, rfl⟩
  have HI : Hid (ApI w w2 p um wm w1.heap.size (w1.heap.size + 1) N (FL.new 2 (2 + (N : Int))) (List.replicate 40 0) (List.replicate 40 0)) := Lib.hid (by rw [hw2]; exact ApI.start HF.out hN2 HB.out HP.out rfl rfl)
  rw [Arr.start] at hw2
  rw [← hw2]
  clear hw2
  generalize w1.heap.size + 1 = pg at *
  generalize w1.heap.size = ps at *
  clear HN HF HB HP
  go_loopg [9] 100 (fun gh u wr => ∃ (j : Nat) (F : FL) (S G : List Int), u = .int .i64 j ∧ j ≤ l.length ∧ j ≤ 100 ∧ gh = 100 - j ∧ ApI w wr p um wm ps pg N F S G)
  case atStart => exact ⟨0, _, _, _, rfl, by omega, by omega, rfl, HI.out⟩
  case round =>
    obtain ⟨j, F, S, G, rfl, hjl, hj1, rfl, hI⟩ := hrel
    have HI2 := Lib.hid hI
    clear HI hI
    by_cases hlt : j < l.length ∧ j < 100
    · obtain ⟨hlt1, hlt2⟩ := hlt
      obtain ⟨a, ha⟩ : ∃ a, l[j]? = some a := ⟨_, List.getElem?_eq_getElem hlt1⟩
      have hk := HK.out wr HI2.out.below
      obtain ⟨b, o, hq, hcell⟩ := hk.hl (by intro e; rw [e] at ha; simp at ha)
      have c0 : wr.cell? ⟨b, o + j * 3 + 0, none⟩ = some (.int .i64 a.kind) := hcell j a ha 0 _ rfl
      have c1 : wr.cell? ⟨b, o + j * 3 + 1, none⟩ = some (.int .i64 a.page) := hcell j a ha 1 _ rfl
      have c2 : wr.cell? ⟨b, o + j * 3 + 2, none⟩ = some (.int .i64 a.gen) := hcell j a ha 2 _ rfl
      rw [Nat.add_zero] at c0
      have hok := hk.ok a (List.mem_of_getElem? ha)
      obtain ⟨kd, hkd⟩ : ∃ kd, kd = a.kind := ⟨_, rfl⟩
      obtain ⟨pa, hpa⟩ : ∃ pa, pa = a.page := ⟨_, rfl⟩
      obtain ⟨ga, hga⟩ : ∃ ga, ga = a.gen := ⟨_, rfl⟩
      rw [← hkd] at c0
      rw [← hpa] at c1
      rw [← hga] at c2
      have k1 : -9223372036854775808 ≤ pa := by rw [hpa]; exact hok.k1
      have k2 : pa ≤ 9223372036854775807 := by rw [hpa]; exact hok.k2
      subst hq
      have hq1 := hk.h1
      have hq2 := hk.h2
      clear hkd hpa hga hk hcell hok ha
      have d1 : (j : Int) < l.length := by omega
      have d2 : (j : Int) < 100 := by omega
      obtain ⟨P, hP, hP1, hP2⟩ := page_of k1 k2 hN1 hN2
      obtain ⟨g, hg, hg7⟩ : ∃ g : Nat, bits BinOp.and IntKind.i64 ga 7 = (g : Int) ∧ g ≤ 7 := ⟨(ga % 8).toNat, by rw [and7]; omega, by omega⟩
      have HPP := Lib.hid hP
      have HGG := Lib.hid hg
      clear hP hg k1 k2
      go_upto_block 2 with fail
      rw [HPP.out, HGG.out]
      obtain ⟨w3, hw3⟩ : ∃ w3, w3 = wr.alloc (.cells #[.int .i64 kd, .int .i64 pa, .int .i64 ga] 41) := ⟨_, rfl⟩
      have HI3 : Hid (ApI w w3 p um wm ps pg N F S G) := Lib.hid (by rw [hw3]; exact HI2.out.on (sbox1 _ _))
      rw [← hw3]
      clear hw3 c0 c1 c2 HPP HGG HI2
      go_cut [13, 14, 15, 16] from 62 to 162 (fun _ _ _ _ wx => ∃ F S G, ApI w wx p um wm ps pg N F S G)
      case first =>
        have hcell := HI3.out.cell hP1 hP2
        have hP0 : (P : Int) < 40 := by omega
        have hP00 : P < 40 := by omega
        by_cases k0 : kd = 0
        · subst k0
          have HA := frAlloc_any HI3.out.fr
          cases hl : F.least with
          | none =>
            have q1 : F.alloc = F := by unfold FL.alloc; rw [hl]
            have q2 : F.allocV = .tuple #[.int .i64 0, .int .i64 15] := by unfold FL.allocV; rw [hl]
            rw [q1, q2] at HA
            replace HA := Lib.hid HA
            have HZ : Hid (∀ k : Nat, 2 ≤ k → k < 2 + N → stOf F k ≠ 0) := Lib.hid fun k h1 h2 => HI3.out.least_none hl h1 h2
            clear hl q1 q2 hcell
            go_wp2_with fail
            refine HA.out.mono ?_; rintro e w4 ⟨rfl, hf, ho⟩
            have HI4 := Lib.hid (HI3.out.same hf ho)
            clear hf ho HI3 HA
            go_wp2_with fail
            go_loopg [15] 98 (fun gh u wx => ∃ K : Nat, u = .int .i64 (K : Int) ∧ 2 ≤ K ∧ K ≤ 2 + N ∧ gh = 100 - K ∧ wx = w4)
            case atStart => exact ⟨2, rfl, by omega, by omega, rfl, rfl⟩
            case round =>
              obtain ⟨K, rfl, hK1, hK2, rfl, hwx⟩ := hrel
              rw [hwx]
              clear hwx
              have wN : wrap64 (2 + (N : Int)) = 2 + (N : Int) := IntWalk.wrap64_in _ (by omega)
              by_cases hKN : K = 2 + N
              · have hd : decide ((K : Int) < 2 + (N : Int)) = false := decide_eq_false (by omega)
                clear hK1 hK2 hKN
                go_wp2_with fail
                go_meet
                exact ⟨_, _, _, HI4.out⟩
              · have hd : decide ((K : Int) < 2 + (N : Int)) = true := decide_eq_true (by omega)
                have hx0 := HZ.out K hK1 (by omega)
                have hcell := HI4.out.cell hK1 (show K < 2 + N by omega)
                generalize stOf F K = x at hx0 hcell
                have hxb : (x != 0) = true := by simpa using hx0
                have h40 : (K : Int) < 40 := by omega
                have h40' : K < 40 := by omega
                go_wp2_with fail
                go_roundg (100 - (K + 1))
                case measure => omega
                case rel => exact ⟨K + 1, by go_num, by omega, by omega, rfl, rfl⟩
          | some x0 =>
            obtain ⟨K0, rfl, hA1, hA2, hA3, hA4⟩ := HI3.out.least_some hl
            have q1 : F.alloc = F.take K0 := by unfold FL.alloc; rw [hl]
            have q2 : F.allocV = .tuple #[.int .i64 K0, .int .i64 0] := by unfold FL.allocV; rw [hl]
            rw [q1, q2] at HA
            replace HA := Lib.hid HA
            have HZ : Hid (∀ k : Nat, 2 ≤ k → k < K0 → stOf F k ≠ 0) := Lib.hid hA4
            have HZ0 := Lib.hid hA3
            clear hl q1 q2 hcell hA3 hA4
            go_wp2_with fail
            refine HA.out.mono ?_; rintro e w4 ⟨rfl, hf, ho⟩
            have HF4 := Lib.hid hf
            have HO4 := Lib.hid ho
            have HS4 := Lib.hid (HI3.out.stay ho).1
            clear hf ho HA
            go_wp2_with fail
            go_loopg [15] 98 (fun gh u wx => ∃ K : Nat, u = .int .i64 (K : Int) ∧ 2 ≤ K ∧ K ≤ K0 ∧ gh = 100 - K ∧ wx = w4)
            case atStart => exact ⟨2, rfl, by omega, by omega, rfl, rfl⟩
            case round =>
              obtain ⟨K, rfl, hK1, hK2, rfl, hwx⟩ := hrel
              rw [hwx]
              clear hwx
              have wN : wrap64 (2 + (N : Int)) = 2 + (N : Int) := IntWalk.wrap64_in _ (by omega)
              have hd : decide ((K : Int) < 2 + (N : Int)) = true := decide_eq_true (by omega)
              have hcell := HS4.out.cell (HI3.out.sy K hK1 (by omega))
              have h40 : (K : Int) < 40 := by omega
              have h40' : K < 40 := by omega
              by_cases hKN : K = K0
              · subst hKN
                rw [HZ0.out] at hcell
                have huf := HS4.out.unfrozen
                have HP : Hid (ApI w (w4.setCell ⟨ps, K, none⟩ (.int .i64 1)) p um wm ps pg N (F.take K) (S.set K 1) G) := Lib.hid (HI3.out.put HF4.out HO4.out rfl rfl hA2 hN2 (fun x => by rw [stOf_take, natIf]) (fun k g h1 h2 h => HI3.out.gy k g h1 h2 h))
                go_wp2_with fail
                go_meet
                exact ⟨_, _, _, HP.out⟩
              · have hx0 := HZ.out K hK1 (by omega)
                generalize stOf F K = x at hx0 hcell
                have hxb : (x != 0) = true := by simpa using hx0
                go_wp2_with fail
                go_roundg (100 - (K + 1))
                case measure => omega
                case rel => exact ⟨K + 1, by go_num, by omega, by omega, rfl, rfl⟩
        by_cases k1 : kd = 1
        · subst k1
          have HI3d := Lib.hid (HI3.out.on (Below.refl _ _).drew)
          have hhas := HI3.out.has hP1 hP2
          have htwo := HI3.out.two hP1 hP2
          have HX3 : Hid (w3.drew.cell? ⟨ps, P, none⟩ = some (.int .i64 (stOf F P))) := Lib.hid (HI3d.out.cell hP1 hP2)
          clear hcell
          by_cases hx : stOf F P = 1
          · have HG := frGive_any HI3d.out.fr (k := (P : Int)) hhas
            rw [if_pos (htwo.2 hx), if_pos (htwo.2 hx)] at HG
            replace HG := Lib.hid HG
            have hus : F.used P = true := (FL.st_two.1 (htwo.2 hx)).2
            have HUS := Lib.hid hus
            rw [hx] at HX3
            clear hhas htwo hx hus HI3
            go_wp2_with fail
            go_region_held3 (fun w' => w'.cell? ⟨ps, P, none⟩ = some (.int .i64 1))
              (first | exact HX3.out | exact HX4.out)
              (first | (go_at_call 8; refine HG.out.mono ?_; rintro e w4 ⟨rfl, hf, ho⟩; have HF4 := Lib.hid hf; have HO4 := Lib.hid ho; have HX4 : Hid (w4.cell? ⟨ps, P, none⟩ = some (.int .i64 1)) := Lib.hid (by have h1 := HX3.out; have h2 := (HI3d.out.stay ho).1; rw [h2.cell (HI3d.out.sy P hP1 hP2)]; rw [HI3d.out.cell hP1 hP2] at h1; exact h1); clear hf ho))
            have hx4 := HX4.out
            have huf := (HI3d.out.stay HO4.out).1.unfrozen
            have HP : Hid (ApI w (w4.setCell ⟨ps, P, none⟩ (.int .i64 0)) p um wm ps pg N (F.drop P) (S.set P 0) G) := Lib.hid (HI3d.out.put HF4.out HO4.out rfl rfl hP2 hN2 (fun x => by rw [stOf_drop HI3d.out.fr.ok HUS.out, natIf]) (fun k g h1 h2 h => HI3d.out.gy k g h1 h2 h))
            go_wp2_with fail
            go_meet
            exact ⟨_, _, _, HP.out⟩
          · have HG := frGive_any HI3d.out.fr (k := (P : Int)) hhas
            have hn2 : ¬ F.st P = 2 := fun e => hx (htwo.1 e)
            rw [if_neg hn2, if_neg hn2] at HG
            replace HG := Lib.hid HG
            obtain ⟨x, hxe⟩ : ∃ x, x = stOf F P := ⟨_, rfl⟩
            rw [← hxe] at HX3 hx
            have HXE := Lib.hid hxe
            have hxb : (x == 1) = false := by simpa using hx
            clear hhas htwo hx hn2 HI3 hxe
            go_wp2_with fail
            go_region_held3 (fun w' => w'.cell? ⟨ps, P, none⟩ = some (.int .i64 x))
              (first | exact HX3.out | exact HX4.out)
              (first | (go_at_call 8; refine HG.out.mono ?_; rintro e w4 ⟨rfl, hf, ho⟩; have HF4 := Lib.hid hf; have HO4 := Lib.hid ho; have HX4 : Hid (w4.cell? ⟨ps, P, none⟩ = some (.int .i64 x)) := Lib.hid (by rw [HXE.out]; exact (HI3d.out.stay ho).1.cell (HI3d.out.sy P hP1 hP2)); clear hf ho))
            have hx4 := HX4.out
            have HP := Lib.hid (HI3d.out.same HF4.out HO4.out)
            go_wp2_with fail
            go_meet
            exact ⟨_, _, _, HP.out⟩
        by_cases k2 : kd = 2
        · subst k2
          have HI3d := Lib.hid (HI3.out.on (Below.refl _ _).drew)
          have hhas := HI3.out.has hP1 hP2
          have htwo := HI3.out.two hP1 hP2
          have HX3 : Hid (w3.drew.cell? ⟨ps, P, none⟩ = some (.int .i64 (stOf F P))) := Lib.hid (HI3d.out.cell hP1 hP2)
          clear hcell
          by_cases hx : stOf F P = 1
          · have HG := frLater_any HI3d.out.fr (k := (P : Int)) (g := (g : Int)) hhas (by omega)
            rw [if_pos (htwo.2 hx), if_pos (htwo.2 hx)] at HG
            replace HG := Lib.hid HG
            rw [hx] at HX3
            clear hhas htwo hx HI3
            go_wp2_with fail
            go_region_held3 (fun w' => w'.cell? ⟨ps, P, none⟩ = some (.int .i64 1))
              (first | exact HX3.out | exact HX4.out)
              (first | (go_at_call 9; refine HG.out.mono ?_; rintro e w4 ⟨rfl, hf, ho⟩; have HF4 := Lib.hid hf; have HO4 := Lib.hid ho; have HX4 : Hid (w4.cell? ⟨ps, P, none⟩ = some (.int .i64 1)) := Lib.hid (by have h1 := HX3.out; have h2 := (HI3d.out.stay ho).1; rw [h2.cell (HI3d.out.sy P hP1 hP2)]; rw [HI3d.out.cell hP1 hP2] at h1; exact h1); clear hf ho))
            have hx4 := HX4.out
            obtain ⟨hs1, hs2, _⟩ := HI3d.out.stay HO4.out
            have huf := hs1.unfrozen
            have hug := hs2.unfrozen
            have hgc : ∃ v, w4.cell? ⟨pg, P, none⟩ = some v := ⟨_, hs2.cell (List.getElem?_eq_getElem (by rw [hs2.2]; omega))⟩
            obtain ⟨vg, hgc⟩ := hgc
            have hne := HI3d.out.ne
            have HP : Hid (ApI w ((w4.setCell ⟨ps, P, none⟩ (.int .i64 2)).setCell ⟨pg, P, none⟩ (.int .i64 g)) p um wm ps pg N (F.late P g) (S.set P 2) (G.set P g)) := Lib.hid (HI3d.out.wait HF4.out HO4.out hP2 hN2)
            clear hs1 hs2
            go_wp2_with fail
            go_meet
            exact ⟨_, _, _, HP.out⟩
          · have HG := frLater_any HI3d.out.fr (k := (P : Int)) (g := (g : Int)) hhas (by omega)
            have hn2 : ¬ F.st P = 2 := fun e => hx (htwo.1 e)
            rw [if_neg hn2, if_neg hn2] at HG
            replace HG := Lib.hid HG
            obtain ⟨x, hxe⟩ : ∃ x, x = stOf F P := ⟨_, rfl⟩
            rw [← hxe] at HX3 hx
            have HXE := Lib.hid hxe
            have hxb : (x == 1) = false := by simpa using hx
            clear hhas htwo hx hn2 HI3 hxe
            go_wp2_with fail
            go_region_held3 (fun w' => w'.cell? ⟨ps, P, none⟩ = some (.int .i64 x))
              (first | exact HX3.out | exact HX4.out)
              (first | (go_at_call 9; refine HG.out.mono ?_; rintro e w4 ⟨rfl, hf, ho⟩; have HF4 := Lib.hid hf; have HO4 := Lib.hid ho; have HX4 : Hid (w4.cell? ⟨ps, P, none⟩ = some (.int .i64 x)) := Lib.hid (by rw [HXE.out]; exact (HI3d.out.stay ho).1.cell (HI3d.out.sy P hP1 hP2)); clear hf ho))
            have hx4 := HX4.out
            have HP := Lib.hid (HI3d.out.same HF4.out HO4.out)
            go_wp2_with fail
            go_meet
            exact ⟨_, _, _, HP.out⟩
        by_cases k3 : kd = 3
        · subst k3
          have HS := Lib.hid (frSettle_any HI3.out.fr (g : Int))
          clear hcell
          go_wp2_with fail
          refine HS.out.mono ?_; rintro e w4 ⟨rfl, hf, ho⟩
          have HT := Lib.hid (SetI.start HI3.out hf ho)
          clear hf ho HI3 HS
          obtain ⟨F', hF'⟩ : ∃ F', F' = F.leave fun y => decide (y ≤ (g : Int)) := ⟨_, rfl⟩
          rw [← hF'] at HT
          have HFF := Lib.hid hF'
          clear hF'
          go_wp2_with fail
          go_loopg [16] 98 (fun gh u wx => ∃ K k : Nat, u = .int .i64 (K : Int) ∧ K = 2 + k ∧ k ≤ N ∧ gh = 100 - K ∧ SetI w wx p um wm ps pg N F F' G k)
          case atStart => exact ⟨2, 0, rfl, rfl, by omega, rfl, HT.out⟩
          case round =>
            obtain ⟨K, k, rfl, hK, hkN, rfl, hT⟩ := hrel
            have HT2 := Lib.hid hT
            clear HT hT
            have wN : wrap64 (2 + (N : Int)) = 2 + (N : Int) := IntWalk.wrap64_in _ (by omega)
            by_cases hKN : k = N
            · have hd : decide ((K : Int) < 2 + (N : Int)) = false := decide_eq_false (by omega)
              have HE : Hid (∃ S, ApI w wr p um wm ps pg N F' S G) := Lib.hid (by have h := HT2.out; rw [hKN, HFF.out] at h; rw [HFF.out]; exact h.ends)
              clear hkN hKN hK
              go_wp2_with fail
              go_meet
              obtain ⟨S', hS'⟩ := HE.out
              exact ⟨_, _, _, hS'⟩
            · have hd : decide ((K : Int) < 2 + (N : Int)) = true := decide_eq_true (by omega)
              have hk2 : k < N := by omega
              have hcell := HT2.out.cell hk2
              rw [← hK] at hcell
              have h40 : (K : Int) < 40 := by omega
              have h40' : K < 40 := by omega
              have hsl : stOf F' K = if stOf F K = 2 ∧ F.isSuch (fun y => decide (y ≤ (g : Int))) K = true then 0 else stOf F K := by rw [HFF.out]; exact stOf_leave F _ _
              by_cases hx : stOf F K = 2
              · obtain ⟨y, hy⟩ : ∃ y, F.waits K = some y := by
                  unfold stOf at hx
                  cases hu : F.used K
                  · cases hw : F.waits K with
                    | none => simp [hu, hw] at hx
                    | some y => exact ⟨y, rfl⟩
                  · simp [hu] at hx
                have hgc := HT2.out.sg.cell (HT2.out.gy K y (by omega) (by omega) hy)
                rw [hx] at hcell
                by_cases hyg : y ≤ (g : Int)
                · have hd2 : decide (y ≤ (g : Int)) = true := decide_eq_true hyg
                  have he : stOf F' ((2 + k : Nat) : Int) = 0 := by
                    rw [← hK, hsl, if_pos ⟨hx, by simp [FL.isSuch, hy, hd2]⟩]
                  have HP := Lib.hid (HT2.out.goes hN2 hk2 he)
                  rw [← hK] at HP
                  have huf : ∀ i, wr.frozen? ⟨ps, i, none⟩ = false := by
                    obtain ⟨S', h1, _⟩ := HT2.out.ex
                    exact h1.unfrozen
                  clear hsl hx hy he hyg
                  replace hK := Lib.hid hK
                  go_wp2_with fail
                  go_roundg (100 - (K + 1))
                  case measure => omega
                  case rel => exact ⟨K + 1, k + 1, by go_num, by have := hK.out; omega, by omega, rfl, HP.out⟩
                · have hd2 : decide (y ≤ (g : Int)) = false := decide_eq_false hyg
                  have he : stOf F' ((2 + k : Nat) : Int) = stOf F ((2 + k : Nat) : Int) := by
                    rw [← hK, hsl, if_neg (by rintro ⟨_, h⟩; simp [FL.isSuch, hy] at h; exact hyg h)]
                  have HP := Lib.hid (HT2.out.stays he)
                  clear hsl hx hy he hyg
                  replace hK := Lib.hid hK
                  go_wp2_with fail
                  go_roundg (100 - (K + 1))
                  case measure => omega
                  case rel => exact ⟨K + 1, k + 1, by go_num, by have := hK.out; omega, by omega, rfl, HP.out⟩
              · have he : stOf F' ((2 + k : Nat) : Int) = stOf F ((2 + k : Nat) : Int) := by
                  rw [← hK, hsl, if_neg (by rintro ⟨h, _⟩; exact hx h)]
                have HP := Lib.hid (HT2.out.stays he)
                generalize stOf F K = x at hx hcell
                have hxb : (x == 2) = false := by simpa using hx
                clear hsl he hx
                replace hK := Lib.hid hK
                go_wp2_with fail
                go_roundg (100 - (K + 1))
                case measure => omega
                case rel => exact ⟨K + 1, k + 1, by go_num, by have := hK.out; omega, by omega, rfl, HP.out⟩
        have e0 : (kd == 0) = false := by simpa using k0
        have e1 : (kd == 1) = false := by simpa using k1
        have e2 : (kd == 2) = false := by simpa using k2
        have e3 : (kd == 3) = false := by simpa using k3
        clear k0 k1 k2 k3 hcell
        go_wp2_with fail
        go_meet
        exact ⟨_, _, _, HI3.out⟩
      case rest =>
        obtain ⟨F2, S2, G2, hI2⟩ := hcut
        have HI4 := Lib.hid hI2
        obtain ⟨f, nu, nw, hf, hnu, hnw, hf0, hsum⟩ := hI2.sums
        have HCU := Lib.hid (hI2.used.trans hnu)
        have HFR := Lib.hid hI2.fr
        have HNF := Lib.hid hf
        have HNU := Lib.hid hnu
        have HNW := Lib.hid hnw
        have HSM : Hid (0 ≤ f ∧ f + nu + nw = N) := Lib.hid ⟨hf0, hsum⟩
        clear HI3 hI2 hf hnu hnw hf0 hsum
        go_wp2_with fail
        go_loopg [17, 18] 98 (fun gh u q wx => ∃ K k : Nat, u = .int .i64 ((cntU F2 k : Nat) : Int) ∧ q = .int .i64 (K : Int) ∧ K = 2 + k ∧ k ≤ N ∧ gh = 100 - K ∧ wx = wc)
        case atStart => exact ⟨2, 0, rfl, rfl, rfl, by omega, rfl, rfl⟩
        case round =>
          obtain ⟨K, k, rfl, rfl, hK, hkN, rfl, hwx⟩ := hrel
          rw [hwx]
          clear hwx
          have wN : wrap64 (2 + (N : Int)) = 2 + (N : Int) := IntWalk.wrap64_in _ (by omega)
          by_cases hKN : k = N
          · have hd : decide ((K : Int) < 2 + (N : Int)) = false := decide_eq_false (by omega)
            rw [hKN, HCU.out]
            have HU := frUsed_any HFR.out
            rw [HNU.out] at HU
            replace HU := Lib.hid HU
            have HE := frFree_any HFR.out
            rw [HNF.out] at HE
            replace HE := Lib.hid HE
            have s1 : wrap64 (f + nu) = f + nu := IntWalk.wrap64_in _ (by have := HSM.out; omega)
            have s2 : wrap64 (f + nu + nw) = N := by have := HSM.out; rw [IntWalk.wrap64_in _ (by omega)]; omega
            clear hkN hKN hK HSM
            go_wp2_with fail
            refine HU.out.mono ?_; rintro e w5 ⟨rfl, rfl⟩
            go_wp2_with fail
            refine HE.out.mono ?_; rintro e w6 ⟨rfl, hb6⟩
            have HI6 := Lib.hid (HI4.out.on hb6)
            have HU6 := frUsed_any HI6.out.fr
            rw [HNU.out] at HU6
            replace HU6 := Lib.hid HU6
            have HW6 := frWaiting_any HI6.out.fr
            rw [HNW.out] at HW6
            replace HW6 := Lib.hid HW6
            clear hb6
            go_wp2_with fail
            refine HU6.out.mono ?_; rintro e w7 ⟨rfl, rfl⟩
            go_wp2_with fail
            refine HW6.out.mono ?_; rintro e w7 ⟨rfl, rfl⟩
            go_wp2_with fail
            go_roundg (100 - (j + 1))
            case measure => omega
            case rel => exact ⟨j + 1, _, _, _, by go_num, by omega, by omega, rfl, HI6.out⟩
          · have hd : decide ((K : Int) < 2 + (N : Int)) = true := decide_eq_true (by omega)
            have hcell := HI4.out.cell (k := K) (by omega) (by omega)
            have h40 : (K : Int) < 40 := by omega
            have h40' : K < 40 := by omega
            have hcu := cntU_succ F2 k
            have hcl := cntU_le F2 k
            rw [show (2 + (k : Int)) = (K : Int) by omega] at hcu
            by_cases hx : stOf F2 K = 1
            · rw [if_pos hx] at hcu
              rw [hx] at hcell
              have HCS := Lib.hid hcu
              generalize cntU F2 k = cu at *
              clear hcu hx
              replace hK := Lib.hid hK
              go_wp2_with fail
              go_roundg (100 - (K + 1))
              case measure => omega
              case rel => exact ⟨K + 1, k + 1, by rw [HCS.out]; go_num, by go_num, by have := hK.out; omega, by omega, rfl, rfl⟩
            · rw [if_neg hx] at hcu
              have HCS := Lib.hid hcu
              generalize stOf F2 K = x at hx hcell
              have hxb : (x == 1) = false := by simpa using hx
              generalize cntU F2 k = cu at *
              clear hcu hx
              replace hK := Lib.hid hK
              go_wp2_with fail
              go_roundg (100 - (K + 1))
              case measure => omega
              case rel => exact ⟨K + 1, k + 1, by rw [HCS.out]; rfl, by go_num, by have := hK.out; omega, by omega, rfl, rfl⟩
    · obtain ⟨f, nu, nw, hf, hnu, hnw, hf0, hsum⟩ := HI2.out.sums
      have HE := frFree_any HI2.out.fr
      rw [hf] at HE
      replace HE := Lib.hid HE
      have HNU := Lib.hid hnu
      have HNW := Lib.hid hnw
      have s1 : wrap64 (f + nu) = f + nu := IntWalk.wrap64_in _ (by omega)
      have s2 : wrap64 (f + nu + nw) = N := by rw [IntWalk.wrap64_in _ (by omega)]; omega
      have hends : ((j : Int) < l.length ∧ ¬ (j : Int) < 100 ∧ j < l.length ∧ ¬ j < 100) ∨ (¬ (j : Int) < l.length ∧ ¬ j < l.length) := by omega
      clear hf hnu hnw hlt hsum hf0
      rcases hends with ⟨h1, h2, h3, h4⟩ | ⟨h1, h2⟩
      all_goals
        go_wp2_with fail
        refine HE.out.mono ?_; rintro e w6 ⟨rfl, hb6⟩
        have HI6 := Lib.hid (HI2.out.on hb6)
        have HU6 := frUsed_any HI6.out.fr
        rw [HNU.out] at HU6
        replace HU6 := Lib.hid HU6
        have HW6 := frWaiting_any HI6.out.fr
        rw [HNW.out] at HW6
        replace HW6 := Lib.hid HW6
        clear hb6
        go_wp2_with fail
        refine HU6.out.mono ?_; rintro e w7 ⟨rfl, rfl⟩
        go_wp2_with fail
        refine HW6.out.mono ?_; rintro e w7 ⟨rfl, rfl⟩
        go_wp2
        go_ret
        exact ⟨by simp, HI6.out.below⟩

end Go.Proofs.Ytfhchdoaaphfaaa
