/-
  sector.Crash, of a disk that a call made.
-/
import Derived.Test.YtngnmakeaniapaaGreatDoorH05
set_option linter.unusedVariables false
set_option maxRecDepth 100000
namespace Go.Proofs.YtngnmakeaniapaaGreatDoor
open Go.RowKit

def CrashPost (w : World) (S : SD) (e : Ending) (w' : World) : Prop := ∃ p lm fm, e = .returned (.tuple #[.pointer (some ⟨p, 0, none⟩), .int .i64 0]) ∧ DiskAt w' w.heap.size p lm fm S ∧ Below w.heap.size w w'

set_option maxHeartbeats 3200000 in
theorem crash_any {w : World} {B p lm fm : Nat} {S : SD} (h : DiskAt w B p lm fm S) {q : Option Addr} {kn kc : Nat} {keep : List Int} (hk : Ks w q keep) (hkn : kn = keep.length) (hkc : kn ≤ 9223372036854775807) :
    Calls Tryz.prog 21 #[.pointer (some ⟨p, 0, none⟩), .slice q kn kc] w (CrashPost w (S.crash keep)) := by
  have HM := Lib.hid (made_at h)
  have hok := h.ok
  have c0 := fun w' (hb : Below w.heap.size w w') => (h.below hb).cell
  obtain ⟨v, ms, fl, ff, h⟩ := h
  have c1 : w.cell? ⟨p, 1, none⟩ = some (.map (some lm)) := (Joins.cell_of_block h.blk 1).trans rfl
  have HC := Lib.hid (clone_any h.ml)
  have HS0 : Hid (∀ w', Below w.heap.size w w' → w'.cell? ⟨p, 0, none⟩ = some (.int .i64 S.size)) := Lib.hid c0
  have HP2 : Hid (∀ w', Below w.heap.size w w' → w'.cell? ⟨p, 2, none⟩ = some v) := Lib.hid fun w' hb => (Joins.cell_of_block (h.below hb).blk 2).trans rfl
  have HI0 : Hid (∀ w' m, Below w.heap.size w w' → MapIs w' m fl → CrInv w w' m (kept S.lasts ((S.waits.zip keep).take 0)) fl) := Lib.hid fun w' m hb hm => ⟨hm, (h.below hb).ll, hb⟩
  clear c0
  rcases own_at h.own with ⟨rfl, hms⟩ | ⟨g, c, rfl, hgB, hgl, hnc, hcap, hcell⟩
  · have hzip : S.waits.zip keep = [] := by rw [h.ws, hms]; rfl
    have e0 : (S.waits.zip keep).take 0 = S.waits.zip keep := by rw [hzip]; rfl
    rw [e0] at HI0
    have HOK := Lib.hid hok
    have HLN := Lib.hid (kept_len hok.l (S.waits.zip keep) (fun p hp => by rw [hzip] at hp; cases hp))
    have hm1 : (if (kn : Int) < 0 then (kn : Int) else 0) = 0 := by split <;> omega
    clear h hok hk hkn hms hzip e0
    go_enter Tryz.func21, Tryz.ntmps21
    go_wp2_with fail
    refine HM.out.mono ?_; rintro e w1 ⟨rfl, rfl⟩
    go_wp2_with fail
    refine HC.out.mono ?_; rintro e w1 ⟨m, rfl, hm, hmap, hb1⟩
    have HMM := Lib.hid hm
    have HI := Lib.hid (HI0.out w1 m hb1 hmap)
    have p2 := HP2.out _ hb1
    clear hm hmap hb1 HC HM c1
    go_wp2_with fail
    go_quiet (fail)
    have HI2 : Hid (CrInv w (w1.drewN nq) m (kept S.lasts (S.waits.zip keep)) fl) := Lib.hid (HI.out.on (belowN (Below.refl _ _) nq))
    generalize w1.drewN nq = w2 at HI2 ⊢
    clear HI p2 HI0
    go_wp2
    go_loopw [32] (fun u wr => u = .int .i64 0 ∧ CrInv w wr m (kept S.lasts (S.waits.zip keep)) fl) (fun u _ => 0)
    case atStart => exact ⟨rfl, HI2.out⟩
    case round =>
      obtain ⟨rfl, hI⟩ := hrel
      have s0 := HS0.out _ hI.below
      have HBG : Hid (Calls Tryz.prog 42 #[.int .i64 S.size, .map (some m)] wr (NewPost wr w.heap.size m (S.crash keep))) := Lib.hid (begin_any hI.map HMM.out hI.l HOK.out.s1 HOK.out.s2 HLN.out)
      have HBr := Lib.hid hI.below
      clear hI HI2
      go_wp2_with fail
      refine HBG.out.mono ?_; rintro e w5 ⟨p', fm', rfl, hd5, hb5, _⟩
      have HD5 := Lib.hid hd5
      have HB5 := Lib.hid (HBr.out.trans (hb5.mono HBr.out.size))
      clear hd5 hb5
      go_wp2
      go_ret2
      exact ⟨p', m, fm', rfl, HD5.out, HB5.out⟩
  · obtain ⟨n, hn⟩ : ∃ n, n = ms.length := ⟨_, rfl⟩
    obtain ⟨N, hN⟩ : ∃ N, N = min n kn := ⟨_, rfl⟩
    have HCl : Hid (∀ w', Below w.heap.size w w' → ∀ i x, ms[i]? = some x → w'.cell? ⟨g, i * 2, none⟩ = some (.int .i64 x.1.k) ∧ w'.cell? ⟨g, i * 2 + 1, none⟩ = some (.slice (some ⟨x.2, 0, none⟩) 512 512) ∧ Sec w' x.2 x.1.l) := Lib.hid fun w' hb i x hx => by
      obtain ⟨h1, h2⟩ := hcell i x hx
      exact ⟨by rw [hb.cell (p := ⟨g, i * 2, none⟩) hgl]; exact h1, by rw [hb.cell (p := ⟨g, i * 2 + 1, none⟩) hgl]; exact h2, (h.sec x (List.mem_of_getElem? hx)).below hb⟩
    have HK := Lib.hid hk
    have HWS := Lib.hid h.ws
    have HOK := Lib.hid hok
    have hNc : (N : Int) ≤ (c : Int) := by omega
    have hN0 : (0 : Int) ≤ (N : Int) := by omega
    have hNc' : N ≤ c := by omega
    have hN63 : N ≤ 9223372036854775807 := by omega
    have hm1 : (if (kn : Int) < (n : Int) then (kn : Int) else (n : Int)) = (N : Int) := by split <;> omega
    have hm2 : (if kn < n then (kn : Int) else (n : Int)) = (N : Int) := by split <;> omega
    have HN := Lib.hid hN
    have HKN := Lib.hid hkn
    rw [← hn] at HP2
    have HNM := Lib.hid hn
    clear hN hn hkn hk h hok hcell hnc hcap
    go_enter Tryz.func21, Tryz.ntmps21
    go_wp2_with fail
    refine HM.out.mono ?_; rintro e w1 ⟨rfl, rfl⟩
    go_wp2_with fail
    refine HC.out.mono ?_; rintro e w1 ⟨m, rfl, hm, hmap, hb1⟩
    have HB1 := Lib.hid hb1
    have HMM := Lib.hid hm
    have HI := Lib.hid (HI0.out w1 m hb1 hmap)
    have p2 := HP2.out _ hb1
    clear hm hmap hb1 HC HM c1
    go_wp2_with fail
    go_quiet (fail)
    have HI2 : Hid (CrInv w (w1.drewN nq) m (kept S.lasts ((S.waits.zip keep).take 0)) fl) := Lib.hid (HI.out.on (belowN (Below.refl _ _) nq))
    generalize w1.drewN nq = w2 at HI2 ⊢
    clear HI p2 HB1 HI0
    go_wp2
    go_loopw [32] (fun u wr => ∃ j : Nat, u = .int .i64 j ∧ j ≤ N ∧ ∃ f, CrInv w wr m (kept S.lasts ((S.waits.zip keep).take j)) f) (fun u _ => N - (intOf u).toNat)
    case atStart => exact ⟨0, rfl, by omega, _, HI2.out⟩
    case round =>
      obtain ⟨j, rfl, hj, f, hI⟩ := hrel
      have HJ := Lib.hid hI
      by_cases hlt : j < N
      · have HLT : LtN j N := ⟨hlt⟩
        obtain ⟨x, hx⟩ : ∃ x, ms[j]? = some x := ⟨_, List.getElem?_eq_getElem (by have := HN.out; have := HNM.out; omega)⟩
        obtain ⟨kx, hkx⟩ : ∃ kx, keep[j]? = some kx := ⟨_, List.getElem?_eq_getElem (by have := HN.out; have := HKN.out; omega)⟩
        obtain ⟨x1, x2, x3⟩ := HCl.out _ hI.below j x hx
        obtain ⟨kb, ko, rfl, hck⟩ := (HK.out.below hI.below).at hkx
        have hz : (S.waits.zip keep)[j]? = some (x.1, kx) := by
          rw [List.getElem?_zip_eq_some]
          exact ⟨by rw [HWS.out, List.getElem?_map, hx]; rfl, hkx⟩
        have hstep : kept S.lasts ((S.waits.zip keep).take (j + 1)) = keepOne (kept S.lasts ((S.waits.zip keep).take j)) x.1 kx := by
          rw [List.take_add_one, hz, Option.toList_some, kept_snoc]
        have hlen : ∀ k, (kept S.lasts ((S.waits.zip keep).take j) k).length = 512 := kept_len HOK.out.l _ fun p hp => (HOK.out.w p.1 (List.of_mem_zip (List.mem_of_mem_take (show (p.1, p.2) ∈ _ from hp))).1).1
        have hxl : x.1.l.length = 512 := (HOK.out.w x.1 (by rw [HWS.out]; exact List.mem_map.2 ⟨x, List.mem_of_getElem? hx, rfl⟩)).1
        have hj0 : (0 : Int) ≤ (j : Int) := by omega
        have hj1 : (j : Int) < (N : Int) := by omega
        have hj2 : (j : Int) < (kn : Int) := by have := HN.out; omega
        have hkl := World.block_lt_of_cell? _ _ hck
        have i1 : (wr.alloc (.cells #[.int .i64 x.1.k, .slice (some ⟨x.2, 0, none⟩) 512 512] 102)).heap[wr.heap.size]? = some (.cells #[.int .i64 x.1.k, .slice (some ⟨x.2, 0, none⟩) 512 512] 102 (0, 0)) := heap_alloc_new wr _
        have I1k := Lib.hid i1
        have J1 : Hid (CrInv w (wr.alloc (.cells #[.int .i64 x.1.k, .slice (some ⟨x.2, 0, none⟩) 512 512] 102)) m (kept S.lasts ((S.waits.zip keep).take j)) f) := Lib.hid (hI.on (sbox1 _ _))
        have hck1 : (wr.alloc (.cells #[.int .i64 x.1.k, .slice (some ⟨x.2, 0, none⟩) 512 512] 102)).cell? ⟨kb, ko + j, none⟩ = some (.int .i64 kx) := by rw [(sbox1 wr _).cell (p := ⟨kb, ko + j, none⟩) hkl]; exact hck
        have X3 := Lib.hid x3
        have HST := Lib.hid hstep
        have HLEN := Lib.hid hlen
        have HXL := Lib.hid hxl
        clear i1 hz hstep hlen hxl hx hkx hI x3 HI2
        by_cases hpos : kx < 1
        · have hmn : (if (512 : Int) < kx then (512 : Int) else kx) = kx := by split <;> omega
          have h0k : ¬ ((0 : Int) < kx) := by omega
          have HPOS := Lib.hid hpos
          clear hpos
          go_wp2
          go_roundw
          case rel => exact ⟨j + 1, by go_num, by have := HLT.h; omega, f, by rw [HST.out]; unfold keepOne; rw [if_pos HPOS.out]; exact J1.out⟩
          case measure => have := HLT.h; simp [intOf]; omega
        · obtain ⟨nn, hn1, hn5, hmn, hto⟩ : ∃ nn : Nat, 1 ≤ nn ∧ nn ≤ 512 ∧ (if (512 : Int) < kx then (512 : Int) else kx) = (nn : Int) ∧ (min kx 512).toNat = nn := by
            rcases (by omega : kx ≤ 512 ∨ 512 < kx) with h | h
            · exact ⟨kx.toNat, by omega, by omega, by rw [if_neg (by omega)]; omega, by omega⟩
            · exact ⟨512, by omega, by omega, by rw [if_pos h]; rfl, by omega⟩
          have hnn0 : (0 : Int) < (nn : Int) := by omega
          have hnn1 : (0 : Int) ≤ (nn : Int) := by omega
          have hnn2 : (nn : Int) ≤ 512 := by omega
          have HPUT : Hid (kept S.lasts ((S.waits.zip keep).take (j + 1)) = putAt (kept S.lasts ((S.waits.zip keep).take j)) x.1.k (over (kept S.lasts ((S.waits.zip keep).take j) x.1.k) (x.1.l.take nn))) := Lib.hid (by rw [HST.out]; unfold keepOne; rw [if_neg hpos, hto])
          clear hto hpos HST
          generalize kept S.lasts ((S.waits.zip keep).take j) = cur at *
          obtain ⟨rp, rn, rc, hr, hld⟩ : ∃ rp rn rc, (.slice rp rn rc : Value) = (if false then .tuple #[(f x.1.k).getD (.slice none 0 0), .bool (f x.1.k).isSome] else (f x.1.k).getD (.slice none 0 0)) ∧
              ∀ w', Below wr.heap.size wr w' → Calls Tryz.prog 56 #[.slice rp rn rc, .slice (some ⟨x.2, 0, none⟩) nn 512] w' (LaidPost w' (over (cur x.1.k) (x.1.l.take nn))) := by
            have X3' : Sec wr x.2 x.1.l := X3.out
            have htl : (x.1.l.take nn).length = nn := by rw [List.length_take, HXL.out]; omega
            rcases HJ.out.l x.1.k with ⟨h1, h2⟩ | ⟨g, h1, h2⟩
            · refine ⟨none, 0, 0, by rw [h1]; rfl, fun w' hb => ?_⟩
              have := laid_any (w := w') (c := 0) (d := 512) (Bs.nil w' none) rfl (by simp) ((X3'.below hb).bs.take nn) htl.symm (by omega)
              rw [pad_nil, ← h2] at this
              exact this
            · refine ⟨some ⟨g, 0, none⟩, 512, 512, by rw [h1]; rfl, fun w' hb => ?_⟩
              have := laid_any (w := w') (c := 512) (d := 512) (h2.below hb).bs (HLEN.out x.1.k).symm (by rw [HLEN.out]; exact Nat.le_refl _) ((X3'.below hb).bs.take nn) htl.symm (by omega)
              have e : pad (cur x.1.k) = cur x.1.k := by unfold pad; rw [HLEN.out]; simp [zeros]
              rw [e] at this
              exact this
          have HR := Lib.hid hr
          have HLD := Lib.hid hld
          clear hr hld HJ HLEN HXL X3
          go_wp2
          obtain ⟨bw, hbw⟩ : ∃ bw, bw = wr.heap.size := ⟨_, rfl⟩
          have hb3 := sbox1 wr (.cells #[.int .i64 x.1.k, .slice (some ⟨x.2, 0, none⟩) 512 512] 102)
          rw [← hbw] at I1k ⊢
          clear x1 x2 hck hck1
          generalize (wr.alloc (.cells #[.int .i64 x.1.k, .slice (some ⟨x.2, 0, none⟩) 512 512] 102)) = w3 at I1k J1 hb3 ⊢
          have HB3 := Lib.hid hb3
          clear hb3 hbw
          have HC : Hid (∀ w' : World, w'.heap[bw]? = w3.heap[bw]? → w'.cell? ⟨bw, 0, none⟩ = some (.int .i64 x.1.k) ∧ w'.cell? ⟨bw, 1, none⟩ = some (.slice (some ⟨x.2, 0, none⟩) 512 512)) := Lib.hid fun w' h => by
            rw [I1k.out] at h
            exact ⟨(Joins.cell_of_block h 0).trans rfl, (Joins.cell_of_block h 1).trans rfl⟩
          refine wp_region_held_drew (S := (fun w' => w'.cell? ⟨bw, 0, none⟩ = some (.int .i64 x.1.k) ∧ w'.cell? ⟨bw, 1, none⟩ = some (.slice (some ⟨x.2, 0, none⟩) 512 512))) (by kernel_rfl) (HC.out _ rfl) (fun hHeld => ?_)
          refine wpAnyH_take (i := 0) (v := ?_) rfl (by kernel_rfl) (by kernel_rfl) (by kernel_rfl) (fun _ _ _ h => h) (Or.inl ⟨by rfl, ?_⟩) (by assumption) ?_
          rotate_left
          · intro w hSw; (try dsimp only at hSw); go_simp; try with_reducible rfl
          simp only [Act.put, List.getElem_toArray, List.getElem_cons_zero, List.setIfInBounds_toArray, List.set_cons_zero, List.set_cons_succ]
          refine wpAnyH_take (i := 1) (v := ?_) rfl (by kernel_rfl) (by kernel_rfl) (by kernel_rfl) (fun _ _ _ h => h) (Or.inl ⟨by rfl, ?_⟩) (by assumption) ?_
          rotate_left
          · intro w hSw; (try dsimp only at hSw); go_simp; try with_reducible rfl
          simp only [Act.put, List.getElem_toArray, List.getElem_cons_zero, List.getElem_cons_succ, List.setIfInBounds_toArray, List.set_cons_zero, List.set_cons_succ]
          refine wpAnyH_take (i := 2) (v := ?_) rfl (by kernel_rfl) (by kernel_rfl) (by kernel_rfl) (fun _ _ _ h => h) (Or.inl ⟨by rfl, ?_⟩) (by assumption) ?_
          rotate_left
          · intro w hSw; (try dsimp only at hSw); go_simp; try with_reducible rfl
          simp only [Act.put, List.getElem_toArray, List.getElem_cons_zero, List.getElem_cons_succ, List.setIfInBounds_toArray, List.set_cons_zero, List.set_cons_succ]
          refine wpAnyH_take (i := 3) (v := ?_) rfl (by kernel_rfl) (by kernel_rfl) (by kernel_rfl) (fun _ _ _ h => h) (Or.inl ⟨by rfl, ?_⟩) (by assumption) ?_
          rotate_left
          · intro w hSw; (try dsimp only at hSw); go_simp; try with_reducible rfl
          simp only [Act.put, List.getElem_toArray, List.getElem_cons_zero, List.getElem_cons_succ, List.setIfInBounds_toArray, List.set_cons_zero, List.set_cons_succ]
          refine wpAnyH_take (i := 4) (v := ?_) rfl (by kernel_rfl) (by kernel_rfl) (by kernel_rfl) (fun _ _ _ h => h) (Or.inl ⟨by rfl, ?_⟩) (by assumption) ?_
          rotate_left
          · intro w hSw; (try dsimp only at hSw); go_simp; try with_reducible rfl
          simp only [Act.put, List.getElem_toArray, List.getElem_cons_zero, List.getElem_cons_succ, List.setIfInBounds_toArray, List.set_cons_zero, List.set_cons_succ]
          refine wpAnyH_take (i := 5) (v := ?_) rfl (by kernel_rfl) (by kernel_rfl) (by kernel_rfl) (fun _ _ _ h => h) (Or.inl ⟨by rfl, ?_⟩) (by assumption) ?_
          rotate_left
          · intro w hSw; (try dsimp only at hSw); go_simp; try with_reducible rfl
          simp only [Act.put, List.getElem_toArray, List.getElem_cons_zero, List.getElem_cons_succ, List.setIfInBounds_toArray, List.set_cons_zero, List.set_cons_succ]
          refine wpAnyH_take (i := 7) (v := ?_) rfl (by kernel_rfl) (by kernel_rfl) (by kernel_rfl) (fun _ _ _ h => h) (Or.inl ⟨by rfl, ?_⟩) (by assumption) ?_
          rotate_left
          · intro w hSw; (try dsimp only at hSw); go_simp; try with_reducible rfl
          simp only [Act.put, List.getElem_toArray, List.getElem_cons_zero, List.getElem_cons_succ, List.setIfInBounds_toArray, List.set_cons_zero, List.set_cons_succ]
          refine wpAnyH_take (i := 8) (v := ?_) rfl (by kernel_rfl) (by kernel_rfl) (by kernel_rfl) (fun _ _ _ h => h) (Or.inl ⟨by rfl, ?_⟩) (by assumption) ?_
          rotate_left
          · intro w hSw; (try dsimp only at hSw); go_simp; try with_reducible rfl
          simp only [Act.put, List.getElem_toArray, List.getElem_cons_zero, List.getElem_cons_succ, List.setIfInBounds_toArray, List.set_cons_zero, List.set_cons_succ]
          refine wpAnyH_take (i := 9) (v := ?_) rfl (by kernel_rfl) (by kernel_rfl) (by kernel_rfl) (fun _ _ _ h => h) (Or.inl ⟨by rfl, ?_⟩) (by assumption) ?_
          rotate_left
          · intro w hSw; (try dsimp only at hSw); go_simp; try with_reducible rfl
          simp only [Act.put, List.getElem_toArray, List.getElem_cons_zero, List.getElem_cons_succ, List.setIfInBounds_toArray, List.set_cons_zero, List.set_cons_succ]
          refine wpAnyH_take (i := 10) (v := ?_) rfl (by kernel_rfl) (by kernel_rfl) (by kernel_rfl) (fun _ _ _ h => h) (Or.inl ⟨by rfl, ?_⟩) (by assumption) ?_
          rotate_left
          · intro w hSw; (try dsimp only at hSw); go_simp; try with_reducible rfl
          simp only [Act.put, List.getElem_toArray, List.getElem_cons_zero, List.getElem_cons_succ, List.setIfInBounds_toArray, List.set_cons_zero, List.set_cons_succ]
          refine wpAnyH_ready (rs := [6]) (by kernel_rfl) (by simp) ?_
          refine AllReadyH.cons rfl (fun K hK => ?_) AllReadyH.nil
          refine step_look rfl (.tmp 47) (.tmp 49) false rfl rfl (show MapIs w3.drew m f from J1.out.map) rfl HR.out ?_
          refine hK.out _ _ (HC.out _ rfl) (fun hHeld => ?_)
          clear hK K
          try simp only [Act.put, List.getElem_toArray, List.getElem_cons_zero, List.getElem_cons_succ, List.setIfInBounds_toArray, List.set_cons_zero, List.set_cons_succ]
          refine wpAnyH_ready (rs := [11]) (by kernel_rfl) (by simp) ?_
          refine AllReadyH.cons rfl (fun K hK => ?_) AllReadyH.nil
          go_simp
          refine (HLD.out _ HB3.out.drew).mono ?_; rintro e w4 ⟨g', rfl, hg', hs', hb4⟩
          have HB4 : Hid (Below w3.heap.size w3 w4) := Lib.hid ((Below.refl _ _).drew.trans hb4)
          have HS4 := Lib.hid hs'
          have J4 := Lib.hid (J1.out.on HB4.out)
          have I4 : Hid (w4.heap[bw]? = w3.heap[bw]?) := Lib.hid (HB4.out.block _ (Array.getElem?_eq_some_iff.1 I1k.out).1)
          clear hg' hs' hb4
          dsimp only
          refine hK.out _ _ (HC.out _ I4.out) (fun hHeld => ?_)
          clear hK K
          try simp only [Act.put, List.getElem_toArray, List.getElem_cons_zero, List.getElem_cons_succ, List.setIfInBounds_toArray, List.set_cons_zero, List.set_cons_succ]
          refine wpAnyH_ready (rs := [12]) (by kernel_rfl) (by simp) ?_
          refine AllReadyH.cons rfl (fun K hK => ?_) AllReadyH.nil
          refine step_store rfl (.tmp 44) (.tmp 46) (.tmp 55) rfl rfl J4.out.map rfl rfl ?_
          intro w5 hm5 hg5
          have J5 := Lib.hid (J4.out.put HMM.out HS4.out hm5 hg5)
          have I5 : Hid (w5.heap[bw]? = w3.heap[bw]?) := Lib.hid ((map_others hg5 J4.out.map (I4.out.trans I1k.out)).trans I1k.out.symm)
          clear hm5 hg5
          refine hK.out _ _ (HC.out _ I5.out) (fun hHeld => ?_)
          clear hK K
          try simp only [Act.put, List.getElem_toArray, List.getElem_cons_zero, List.getElem_cons_succ]
          refine wpAnyH_done (by kernel_rfl) ?_ _
          clear hHeld HB4 HS4 J4 I4 I5 J1 I1k HC
          go_wp2
          go_roundw
          case rel => exact ⟨j + 1, by go_num, by have := HLT.h; omega, _, by rw [HPUT.out]; exact J5.out⟩
          case measure => have := HLT.h; simp [intOf]; omega
      · have hjN : j = N := by omega
        subst hjN
        have e : (S.waits.zip keep).take j = S.waits.zip keep := List.take_of_length_le (by rw [List.length_zip, HWS.out, List.length_map]; have := HN.out; have := HNM.out; have := HKN.out; omega)
        rw [e] at hI
        have s0 := HS0.out _ hI.below
        have HBG : Hid (Calls Tryz.prog 42 #[.int .i64 S.size, .map (some m)] wr (NewPost wr w.heap.size m (S.crash keep))) := Lib.hid (begin_any hI.map HMM.out hI.l HOK.out.s1 HOK.out.s2 (kept_len HOK.out.l _ fun p hp => (HOK.out.w p.1 (List.of_mem_zip (show (p.1, p.2) ∈ _ from hp)).1).1))
        have HBr := Lib.hid hI.below
        clear hI e HI2 HJ
        go_wp2_with fail
        refine HBG.out.mono ?_; rintro e w5 ⟨p', fm', rfl, hd5, hb5, _⟩
        have HD5 := Lib.hid hd5
        have HB5 := Lib.hid (HBr.out.trans (hb5.mono HBr.out.size))
        clear hd5 hb5
        go_wp2
        go_ret2
        exact ⟨p', m, fm', rfl, HD5.out, HB5.out⟩

end Go.Proofs.YtngnmakeaniapaaGreatDoor
