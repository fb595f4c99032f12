/-
  The reference's putProps, PutNode, PutEdge: contracts for the walks.
-/
import Derived.Test.YtocplkiomlocpaaRPut
import Derived.Test.YtocplkiomlocpaaRNodeR
import Derived.Test.YtocplkiomlocpaaO3
import Derived.Test.YtocplkiomlocpaaO3
import Derived.Test.YtocplkiomlocpaaKRefPut
set_option linter.unusedVariables false
set_option maxRecDepth 100000
namespace Go.Proofs.Ytocplkiomlocpaa
open Go.RowKit

set_option maxHeartbeats 3200000 in
theorem refPutProps_any {w : World} {B : Nat} {v : Value} {b : List UInt8} (hb : Own w B v b) (hB : B ≤ w.heap.size) (hlen : b.length ≤ 1000) {q : Option Addr} {m c : Nat} {l : List Pr} (h16 : m ≤ 16) (hnm : ∀ p ∈ l.map Pr.c, nameOk p.n = true)
    (hq : ∀ w', Below B w w' → PsOk w' q m c l) :
    Calls Try.prog 38 #[v, .slice q m c] w fun e w' => ∃ v', e = .returned v' ∧ Own w' B v' (b ++ recK (l.map Pr.c)) ∧ Below B w w' := by
  have hst := store_flt
  have h := hq w (Below.refl _ _)
  obtain ⟨n0, hn0⟩ : ∃ n, n = b.length := ⟨_, rfl⟩
  obtain ⟨p0, c0, rfl, g1, g2, _, _⟩ := hb.form hn0
  have HO := Lib.hid hb
  have HQ := Lib.hid hq
  have HN := Lib.hid h.hn
  have HNM := Lib.hid hnm
  have h1 := h.h1
  have h2 := h.h2
  have HBL := Lib.hid (byte_len (n := m) h16)
  have HR : Hid (recK (l.map Pr.c) = UInt8.ofNat m :: propsK (l.map Pr.c)) := Lib.hid (by unfold recK; rw [List.length_map, h.hn])
  have HLEN := Lib.hid hlen
  clear h hb hn0 hq hnm hlen
  go_enter Try.func38, Try.ntmps38
  go_wp2_with (at_builtin; refine app_own rfl (.tmp 6) (.tmp 10) rfl rfl (HO.out.alloc _) (m := [UInt8.ofNat m]) rfl rfl (Bs.one _ _ _ rfl HBL.out) (fun h => by cases h) (by have := HLEN.out; simp; omega) (by simp; omega) ?_; intro v2 w2 ho2 hb2; have HO2 := Lib.hid ho2; have HB2 := Lib.hid (((Below.refl B w).alloc hB _).trans hb2); clear ho2 hb2)
  go_loopw [0, 5] (fun v i wr => ∃ j : Nat, i = .int .i64 j ∧ j ≤ m ∧ Own wr B v (b ++ [UInt8.ofNat m] ++ propsK ((l.map Pr.c).take j)) ∧ Below B w wr) (fun _ i _ => m - (intOf i).toNat)
  case atStart => exact ⟨0, rfl, by omega, by rw [List.take_zero]; simpa [propsK] using HO2.out, HB2.out⟩
  case round =>
    obtain ⟨j, rfl, hj, hown, hb⟩ := hrel
    have HB := Lib.hid hb
    have HOW := Lib.hid hown
    obtain ⟨Z, hZ⟩ : ∃ Z, Z = b ++ [UInt8.ofNat m] ++ propsK ((l.map Pr.c).take j) := ⟨_, rfl⟩
    have hle : Z.length ≤ 133417 := by
      rw [hZ]
      have h1 := propsK_len (l := (l.map Pr.c).take j) fun x hx => HNM.out x (List.mem_of_mem_take hx)
      have h4 := List.length_take_le j (l.map Pr.c)
      have := HLEN.out
      simp only [List.length_append, List.length_cons, List.length_nil]
      omega
    rw [← hZ] at HOW
    have HZ := Lib.hid hZ
    have HLE := Lib.hid hle
    clear hb hown hle hZ
    by_cases hlt : j < m
    · have hjl : j < l.length := by have := HN.out; omega
      obtain ⟨x, hx⟩ : ∃ x, l[j]? = some x := ⟨_, List.getElem?_eq_getElem hjl⟩
      have hxm : (l.map Pr.c)[j]? = some x.c := by rw [List.getElem?_map, hx]; rfl
      obtain ⟨hok, b0, o0, rfl, hc⟩ := (HQ.out wr HB.out).hl.at hx
      have hblt := hc.lt
      have HCL : Hid (∀ w', Below wr.heap.size wr w' → w'.cell? ⟨b0, o0 + j * 6, none⟩ = some (.string x.n) ∧ w'.cell? ⟨b0, o0 + j * 6 + 1, none⟩ = some (.int .i64 x.v.a.k) ∧ w'.cell? ⟨b0, o0 + j * 6 + 2, none⟩ = some (.int .i64 x.v.a.n) ∧ w'.cell? ⟨b0, o0 + j * 6 + 3, none⟩ = some (.float .f64 x.v.a.f) ∧ w'.cell? ⟨b0, o0 + j * 6 + 4, none⟩ = some (.string x.v.a.s) ∧ w'.cell? ⟨b0, o0 + j * 6 + 5, none⟩ = some (.slice x.v.q x.v.m x.v.c)) :=
        Lib.hid fun w' hb => by
          obtain ⟨c0, c1, c2, c3, c4, c5⟩ := hc.below hb
          exact ⟨c0, c1, c2, c3, c4, c5⟩
      have HT := Lib.hid (propsK_take hxm)
      have HNX := Lib.hid (HNM.out x.c (List.mem_of_getElem? hxm))
      have hn16 : x.n.size ≤ 16 := (nameOk_len HNX.out).2
      have HTL : Hid ((txt x.n.data.toList).length ≤ 34) := Lib.hid (txt_len x.n HNX.out)
      obtain ⟨nz, hnz⟩ : ∃ n, n = Z.length := ⟨_, rfl⟩
      obtain ⟨pz, cz, rfl, gz1, gz2, hsz, hpz⟩ := HOW.out.form hnz
      have HSZ := Lib.hid hsz
      have HPT : Hid (∀ w', Below wr.heap.size wr w' → Calls Try.prog 37 #[.slice pz nz cz, .string x.n] w' (PutPost w' (Z ++ txt x.n.data.toList))) := Lib.hid fun w' hb => refPutText_any (w := w') (HSZ.out.below hb) nz cz hnz hpz (by have := HLE.out; omega) x.n _ rfl (by omega)
      have HP : Hid (∀ (w' : World) (p : Option Addr) (n c : Nat) (L : List UInt8), Below wr.heap.size wr w' → Bs w' p L → n = L.length → (p = none → c = 0) → L.length ≤ 200000 → Calls Try.prog 68 #[.slice p n c, .agg #[.int .i64 x.v.a.k, .int .i64 x.v.a.n, .float .f64 x.v.a.f, .string x.v.a.s, .slice x.v.q x.v.m x.v.c]] w' (PutPost w' (L ++ putK x.v.a x.v.l))) := Lib.hid fun w' p n c L hb h1 h2 h3 h4 =>
        refPut_any h1 h2 h3 h4 (VaOk.below hok.v hb)
      have HT' : Hid (propsK ((l.map Pr.c).take (j + 1)) = propsK ((l.map Pr.c).take j) ++ txt x.n.data.toList ++ putK x.v.a x.v.l) := HT
      clear hx hjl hok hxm HT HNX hsz hc
      generalize putK x.v.a x.v.l = X at *
      generalize txt x.n.data.toList = T at *
      obtain ⟨n1, hn1⟩ : ∃ x, x = (Z ++ T).length := ⟨_, rfl⟩
      have HN1 := Lib.hid hn1
      have hbn : n1 ≤ 133451 := by have := HLE.out; have := HTL.out; rw [List.length_append] at hn1; omega
      clear hn1 hnz
      have hj0 : (0 : Int) ≤ j := by omega
      have hj1 : (j : Int) < m := by omega
      go_wp2_with fail
      go_region_held3 (fun w' => w'.cell? ⟨b0, o0 + j * 6, none⟩ = some (.string x.n) ∧ w'.cell? ⟨b0, o0 + j * 6 + 1, none⟩ = some (.int .i64 x.v.a.k) ∧ w'.cell? ⟨b0, o0 + j * 6 + 2, none⟩ = some (.int .i64 x.v.a.n) ∧ w'.cell? ⟨b0, o0 + j * 6 + 3, none⟩ = some (.float .f64 x.v.a.f) ∧ w'.cell? ⟨b0, o0 + j * 6 + 4, none⟩ = some (.string x.v.a.s) ∧ w'.cell? ⟨b0, o0 + j * 6 + 5, none⟩ = some (.slice x.v.q x.v.m x.v.c))
        (first | exact HCL.out _ (Below.refl _ _).drew | exact HCL.out _ HB4.out | exact HCL.out _ HB3.out)
        (first
          | (go_at_call 68; refine (HP.out _ _ _ _ _ HB3.out HS3.out HN1.out HP3.out (by have := HN1.out; omega)).mono ?_; rintro e w4 ⟨v4, rfl, ho4, hb4⟩; have HB4 : Hid (Below wr.heap.size wr w4) := Lib.hid (HB3.out.trans (hb4.mono HB3.out.size)); have HO4 := Lib.hid (ho4.le (B' := B) (by have := HB.out.size; have := HB3.out.size; omega)); clear ho4 hb4)
          | (go_at_call 37; refine (HPT.out _ (Below.refl _ _).drew).mono ?_; rintro e w3 ⟨v3, rfl, ho3, hb3⟩; have HB3 : Hid (Below wr.heap.size wr w3) := Lib.hid ((Below.refl wr.heap.size wr).drew.trans (hb3.mono (Below.refl wr.heap.size wr).drew.size)); obtain ⟨p3, d3, rfl, _, _, hs3, hp3⟩ := ho3.form HN1.out; have HS3 := Lib.hid hs3; have HP3 := Lib.hid hp3; clear ho3 hb3 hs3 hp3))
      go_wp2
      go_roundw
      case rel => exact ⟨j + 1, by go_num, by omega, by rw [HT'.out]; have h := HO4.out; rw [HZ.out, List.append_assoc, List.append_assoc] at h; rw [List.append_assoc (propsK _)]; exact h, HB.out.trans (HB4.out.mono (by have := HB.out.size; omega))⟩
      case measure => simp [intOf]; omega
    · have hjt : (l.map Pr.c).take j = l.map Pr.c := List.take_of_length_le (by rw [List.length_map]; have := HN.out; omega)
      have HJ := Lib.hid hjt
      clear hjt
      have hqq := HQ.out wr HB.out
      clear hqq
      go_wp2
      go_ret
      exact ⟨_, rfl, by rw [HR.out]; have h := HOW.out; rw [HZ.out, HJ.out, List.append_assoc] at h; exact h, HB.out⟩

set_option maxHeartbeats 3200000 in
theorem refPutNode_any {w : World} (n : Nd) (h : n.Ok w) : Calls Try.prog 11 #[n.cell] w (BPost w (putN n.id n.ls (n.ps.map Pr.c))) := by
  have hst := store_flt
  have HNR : Hid (∀ w', Below w.heap.size w w' → Calls Try.prog 15 #[n.cell] w' fun e w'' => e = .returned (.bool (nodeR n.id n.ls (n.ps.map Pr.c))) ∧ Below w'.heap.size w' w'') := Lib.hid fun w' hb => refNodeRight_any n (h.below hb)
  obtain ⟨id, q, m, c, ls, q', m', c', ps⟩ := n
  obtain ⟨i1, i2, hl, hp⟩ := h
  dsimp only [Nd.cell] at *
  have HLS := Lib.hid hl
  have HPS := Lib.hid hp
  have h1 := hl.h1
  have h2 := hl.h2
  have h1' := hp.h1
  have h2' := hp.h2
  have HE : Hid (putN id ls (ps.map Pr.c) = if nodeR id ls (ps.map Pr.c) = true then fitK (nodeK ls (ps.map Pr.c)) else ([], 2)) := Lib.hid rfl
  have HR : Hid (nodeR id ls (ps.map Pr.c) = true → m ≤ 8 ∧ (∀ s ∈ ls, nameOk s = true) ∧ m' ≤ 16 ∧ ∀ p ∈ ps.map Pr.c, nameOk p.n = true) := Lib.hid (by
    intro h
    unfold nodeR at h
    rw [Bool.and_eq_true, Bool.and_eq_true, Bool.and_eq_true, decide_eq_true_eq, riseF_iff, propsR_iff] at h
    obtain ⟨_, g1, g2, g3⟩ := h
    refine ⟨by rw [hl.hn]; exact of_decide_eq_true g1, g2.ok, ?_, fun p hp => g3.ris.ok p.n (List.mem_map.2 ⟨p, hp, rfl⟩)⟩
    have := g3.n16
    rw [List.length_map] at this
    rw [hp.hn]; exact this)
  have HNK : Hid (nodeK ls (ps.map Pr.c) = [UInt8.ofNat m] ++ labsK ls ++ recK (ps.map Pr.c)) := Lib.hid (by unfold nodeK; rw [hl.hn]; simp)
  obtain ⟨W, hW⟩ : ∃ W, W = w.alloc (.cells #[.int .i64 id, .slice q m c, .slice q' m' c'] 25) := ⟨_, rfl⟩
  have HK : Hid (∀ w', Below W.heap.size W w' → w'.cell? ⟨w.heap.size, 0, none⟩ = some (.int .i64 id) ∧ w'.cell? ⟨w.heap.size, 1, none⟩ = some (.slice q m c) ∧ w'.cell? ⟨w.heap.size, 2, none⟩ = some (.slice q' m' c')) := by
    refine Lib.hid fun w' hb => ?_
    rw [hW] at hb
    have h1 := box_all hb
    exact ⟨h1 0, h1 1, h1 2⟩
  have HWB : Hid (∀ w', Below W.heap.size W w' → Below w.heap.size w w') := by
    refine Lib.hid fun w' hb => ?_
    rw [hW] at hb
    exact box_below hb
  have HWs : Hid (W.heap.size = w.heap.size + 1) := Lib.hid (by rw [hW]; simp)
  clear hl hp
  generalize putN id ls (ps.map Pr.c) = x at *
  generalize nodeK ls (ps.map Pr.c) = X at *
  generalize nodeR id ls (ps.map Pr.c) = r at *
  go_enter Try.func11, Try.ntmps11
  go_wp2_with fail
  rw [← hW]
  replace hW := Lib.hid hW
  refine (HNR.out _ (HWB.out _ (Below.refl _ _))).mono ?_
  rintro e w1 ⟨rfl, hb1⟩
  have HB1 := Lib.hid hb1
  obtain ⟨k0, k1, k2⟩ := HK.out _ hb1
  have hw1 : w.heap.size < w1.heap.size := by have := HWs.out; have := hb1.size; omega
  clear hb1 HNR
  cases r
  · have HX : Hid (x = ([], 2)) := Lib.hid (by rw [HE.out, if_neg (by simp)])
    clear HE HR
    go_wp2
    go_ret2
    exact ⟨_, by rw [HX.out]; rfl, by rw [HX.out]; exact Own.nil _ _, HWB.out _ HB1.out⟩
  · have HX : Hid (x = fitK X) := Lib.hid (by rw [HE.out, if_pos rfl])
    obtain ⟨hm8, hln, hm16, hpn⟩ := HR.out (by trivial)
    have HLN := Lib.hid hln
    have HPN := Lib.hid hpn
    have HBL := Lib.hid (byte_len (n := m) (by omega))
    have HSE := HLS.out.ok
    have HSOK := Lib.hid HSE
    clear HE HR hln hpn HSE
    go_wp2_with fail
    go_loopw [4, 5] (fun v i wr => ∃ j : Nat, i = .int .i64 j ∧ j ≤ m ∧ Own wr W.heap.size v ([UInt8.ofNat m] ++ labsK (ls.take j)) ∧ Below W.heap.size W wr) (fun _ i _ => m - (intOf i).toNat)
    case atStart => exact ⟨0, rfl, by omega, Own.built (B := W.heap.size) (l := [UInt8.ofNat m]) rfl HB1.out.size (by show #[Value.int .u8 (m : Int)] = #[Value.int .u8 ((UInt8.ofNat m).toNat : Int)]; rw [← HBL.out]) rfl (by decide), HB1.out.alloc HB1.out.size _⟩
    case round =>
      clear k0 k1 k2
      obtain ⟨j, rfl, hj, hown, hb⟩ := hrel
      have HB := Lib.hid hb
      obtain ⟨k0, k1, k2⟩ := HK.out _ hb
      have hw1 : w.heap.size < wr.heap.size := by have := HWs.out; have := hb.size; omega
      have HO := Lib.hid hown
      have hle : ([UInt8.ofNat m] ++ labsK (ls.take j)).length ≤ 273 := by
        have h1 := labsK_len (l := ls.take j) fun x hx => HLN.out x (List.mem_of_mem_take hx)
        have h4 := List.length_take_le j ls
        simp only [List.length_append, List.length_cons, List.length_nil]
        omega
      have HLE := Lib.hid hle
      clear hb hown hle
      by_cases hlt : j < m
      · have hjl : j < ls.length := by have := HLS.out.hn; omega
        obtain ⟨s, hs⟩ : ∃ s, ls[j]? = some s := ⟨_, List.getElem?_eq_getElem hjl⟩
        obtain ⟨b0, o0, rfl, hblt, c0⟩ := (HLS.out.hl.below (HWB.out _ HB.out)).at hs
        have hmem := List.mem_of_getElem? hs
        have HNX := Lib.hid (HLN.out s hmem)
        have hn16 : s.size ≤ 16 := (nameOk_len HNX.out).2
        have HT := Lib.hid (labsK_take hs)
        obtain ⟨nz, hnz⟩ : ∃ n, n = ([UInt8.ofNat m] ++ labsK (ls.take j)).length := ⟨_, rfl⟩
        obtain ⟨pz, cz, rfl, gz1, gz2, hsz, hpz⟩ := HO.out.form hnz
        have HPT : Hid (Calls Try.prog 37 #[.slice pz nz cz, .string s] wr (PutPost wr ([UInt8.ofNat m] ++ labsK (ls.take j) ++ txt s.data.toList))) := Lib.hid (refPutText_any hsz nz cz hnz hpz (by have := HLE.out; omega) s _ rfl (by omega))
        clear hs hjl hmem HNX hsz hnz
        generalize txt s.data.toList = T at *
        go_wp2_with fail
        refine HPT.out.mono ?_
        rintro e w2 ⟨v2, rfl, ho2, hb2⟩
        have HB2 : Hid (Below W.heap.size W w2) := Lib.hid (HB.out.trans (hb2.mono HB.out.size))
        have HO2 := Lib.hid (ho2.le (B' := W.heap.size) HB.out.size)
        clear ho2 hb2 c0 k0 k1 k2
        go_wp2
        go_roundw
        case rel => exact ⟨j + 1, by go_num, by omega, by rw [HT.out, ← List.append_assoc]; exact HO2.out, HB2.out⟩
        case measure => simp [intOf]; omega
      · have hjt : ls.take j = ls := List.take_of_length_le (by have := HLS.out.hn; omega)
        rw [hjt] at HO HLE
        clear hjt
        have HAP : Hid (Calls Try.prog 38 #[u4, .slice q' m' c'] wr fun e w' => ∃ v', e = .returned v' ∧ Own w' W.heap.size v' ([UInt8.ofNat m] ++ labsK ls ++ recK (ps.map Pr.c)) ∧ Below W.heap.size wr w') :=
          Lib.hid (refPutProps_any HO.out HB.out.size (by have := HLE.out; omega) hm16 HPN.out (fun w' hb => HPS.out.below (HWB.out _ (HB.out.trans hb))))
        rw [← HNK.out] at HAP
        clear HLE HO
        go_wp2_with fail
        refine HAP.out.mono ?_
        rintro e w2 ⟨v2, rfl, ho2, hb2⟩
        have HB2 : Hid (Below W.heap.size W w2) := Lib.hid (HB.out.trans hb2)
        obtain ⟨nx, hnx⟩ : ∃ n, n = X.length := ⟨_, rfl⟩
        obtain ⟨px, cx, rfl, gx1, gx2, _, _⟩ := ho2.form hnx
        have HO2 := Lib.hid ho2
        have HF : Hid (fitK X = if nx ≤ 4096 then (X, 0) else ([], 3)) := Lib.hid (by rw [hnx]; rfl)
        clear ho2 hb2 hnx k0 k1 k2
        by_cases h4 : nx ≤ 4096
        · have HXX : Hid (x = (X, 0)) := Lib.hid (by rw [HX.out, HF.out, if_pos h4])
          clear HX HF
          go_wp2
          go_ret2
          exact ⟨_, by rw [HXX.out]; rfl, by rw [HXX.out]; exact HO2.out.le (by have := HWs.out; omega), HWB.out _ HB2.out⟩
        · have HXX : Hid (x = ([], 3)) := Lib.hid (by rw [HX.out, HF.out, if_neg h4])
          clear HX HF
          go_wp2
          go_ret2
          exact ⟨_, by rw [HXX.out]; rfl, by rw [HXX.out]; exact Own.nil _ _, HWB.out _ HB2.out⟩

set_option maxHeartbeats 3200000 in
theorem refPutEdge_any {w : World} (n : Ed) (h : n.Ok w) : Calls Try.prog 13 #[n.cell] w (BPost w (putE n.id n.fr n.to n.t (n.ps.map Pr.c))) := by
  have hst := store_flt
  have HNR : Hid (∀ w', Below w.heap.size w w' → Calls Try.prog 17 #[n.cell] w' fun e w'' => e = .returned (.bool (edgeR n.id n.fr n.to n.t (n.ps.map Pr.c))) ∧ Below w'.heap.size w' w'') := Lib.hid fun w' hb => refEdgeRight_any n (h.below hb)
  obtain ⟨id, t, fr, to, q, m, c, ps⟩ := n
  obtain ⟨i1, i2, ht, f1, f2, t1, t2, hp⟩ := h
  dsimp only [Ed.cell] at *
  have HPS := Lib.hid hp
  have h1' := hp.h1
  have h2' := hp.h2
  have HE : Hid (putE id fr to t (ps.map Pr.c) = if edgeR id fr to t (ps.map Pr.c) = true then fitK (edgeK fr to t (ps.map Pr.c)) else ([], 2)) := Lib.hid rfl
  have HR : Hid (edgeR id fr to t (ps.map Pr.c) = true → nameOk t = true ∧ m ≤ 16 ∧ ∀ p ∈ ps.map Pr.c, nameOk p.n = true) := Lib.hid (by
    intro h
    unfold edgeR at h
    rw [Bool.and_eq_true, Bool.and_eq_true, Bool.and_eq_true, Bool.and_eq_true, propsR_iff] at h
    obtain ⟨_, _, _, g2, g3⟩ := h
    refine ⟨g2, ?_, fun p hp => g3.ris.ok p.n (List.mem_map.2 ⟨p, hp, rfl⟩)⟩
    have := g3.n16
    rw [List.length_map] at this
    rw [hp.hn]; exact this)
  have HNK : Hid (edgeK fr to t (ps.map Pr.c) = txt t.data.toList ++ be8 (inKey fr) ++ be8 (inKey to) ++ recK (ps.map Pr.c)) := Lib.hid (by unfold edgeK; simp)
  obtain ⟨W, hW⟩ : ∃ W, W = w.alloc (.cells #[.int .i64 id, .string t, .int .i64 fr, .int .i64 to, .slice q m c] 27) := ⟨_, rfl⟩
  have HK : Hid (∀ w', Below W.heap.size W w' → w'.cell? ⟨w.heap.size, 0, none⟩ = some (.int .i64 id) ∧ w'.cell? ⟨w.heap.size, 1, none⟩ = some (.string t) ∧ w'.cell? ⟨w.heap.size, 2, none⟩ = some (.int .i64 fr) ∧ w'.cell? ⟨w.heap.size, 3, none⟩ = some (.int .i64 to) ∧ w'.cell? ⟨w.heap.size, 4, none⟩ = some (.slice q m c)) := by
    refine Lib.hid fun w' hb => ?_
    rw [hW] at hb
    have h1 := box_all hb
    exact ⟨h1 0, h1 1, h1 2, h1 3, h1 4⟩
  have HWB : Hid (∀ w', Below W.heap.size W w' → Below w.heap.size w w') := by
    refine Lib.hid fun w' hb => ?_
    rw [hW] at hb
    exact box_below hb
  have HWs : Hid (W.heap.size = w.heap.size + 1) := Lib.hid (by rw [hW]; simp)
  clear hp
  generalize putE id fr to t (ps.map Pr.c) = x at *
  generalize edgeK fr to t (ps.map Pr.c) = X at *
  generalize edgeR id fr to t (ps.map Pr.c) = r at *
  go_enter Try.func13, Try.ntmps13
  go_wp2_with fail
  rw [← hW]
  replace hW := Lib.hid hW
  refine (HNR.out _ (HWB.out _ (Below.refl _ _))).mono ?_
  rintro e w1 ⟨rfl, hb1⟩
  have HB1 := Lib.hid hb1
  obtain ⟨k0, k1, k2, k3, k4⟩ := HK.out _ hb1
  have hw1 : w.heap.size < w1.heap.size := by have := HWs.out; have := hb1.size; omega
  clear hb1 HNR
  cases r
  · have HX : Hid (x = ([], 2)) := Lib.hid (by rw [HE.out, if_neg (by simp)])
    clear HE HR
    go_wp2
    go_ret2
    exact ⟨_, by rw [HX.out]; rfl, by rw [HX.out]; exact Own.nil _ _, HWB.out _ HB1.out⟩
  · have HX : Hid (x = fitK X) := Lib.hid (by rw [HE.out, if_pos rfl])
    obtain ⟨htn, hm16, hpn⟩ := HR.out (by trivial)
    have HPN := Lib.hid hpn
    have hn16 : t.size ≤ 16 := (nameOk_len htn).2
    have HTL : Hid ((txt t.data.toList).length ≤ 34) := Lib.hid (txt_len t htn)
    have HPT : Hid (∀ w', Calls Try.prog 37 #[.slice none 0 0, .string t] w' (PutPost w' (txt t.data.toList))) := Lib.hid fun w' => refPutText_any (w := w') (p := none) (l := []) (Bs.nil _ _) 0 0 rfl (fun _ => rfl) (by simp) t _ rfl (by omega)
    have HL1 : Hid ((be8 (inKey fr)).length = 8) := Lib.hid rfl
    have HL2 : Hid ((be8 (inKey to)).length = 8) := Lib.hid rfl
    have HPI : Hid (∀ (w' : World) (p : Option Addr) (n c : Nat) (l : List UInt8), Bs w' p l → n = l.length → (p = none → c = 0) → n ≤ 100000 → Calls Try.prog 40 #[.slice p n c, .int .i64 fr] w' (PutPost w' (l ++ be8 (inKey fr)))) := Lib.hid fun w' p n c l hl hn hp hx => refPutInt_any hl n c hn hp (by omega) fr f1 f2
    have HPJ : Hid (∀ (w' : World) (p : Option Addr) (n c : Nat) (l : List UInt8), Bs w' p l → n = l.length → (p = none → c = 0) → n ≤ 100000 → Calls Try.prog 40 #[.slice p n c, .int .i64 to] w' (PutPost w' (l ++ be8 (inKey to)))) := Lib.hid fun w' p n c l hl hn hp hx => refPutInt_any hl n c hn hp (by omega) to t1 t2
    clear HE HR hpn htn
    generalize txt t.data.toList = T at *
    generalize be8 (inKey fr) = U at *
    generalize be8 (inKey to) = V at *
    obtain ⟨n2, hn2⟩ : ∃ x, x = T.length := ⟨_, rfl⟩
    obtain ⟨n3, hn3⟩ : ∃ x, x = (T ++ U).length := ⟨_, rfl⟩
    have hb3 : n2 ≤ 34 ∧ n3 ≤ 42 := by have := HTL.out; have := HL1.out; rw [List.length_append] at hn3; omega
    obtain ⟨hb2, hb3⟩ := hb3
    have HN2 := Lib.hid hn2
    have HN3 := Lib.hid hn3
    clear hn2 hn3
    go_wp2_with fail
    refine (HPT.out _).mono ?_
    rintro e w2 ⟨v2, rfl, ho2, hb2'⟩
    have HB2 : Hid (Below W.heap.size W w2) := Lib.hid (HB1.out.trans (hb2'.mono HB1.out.size))
    obtain ⟨p2, d2, rfl, _, _, hs2, hp2⟩ := ho2.form HN2.out
    have HS2 := Lib.hid hs2
    have HP2 := Lib.hid hp2
    clear ho2 hb2' hs2 hp2 k0 k1 k2 k3 k4
    obtain ⟨k0, k1, k2, k3, k4⟩ := HK.out _ HB2.out
    go_wp2_with fail
    go_region_held3 (fun w' => w'.cell? ⟨w.heap.size, 0, none⟩ = some (.int .i64 id) ∧ w'.cell? ⟨w.heap.size, 1, none⟩ = some (.string t) ∧ w'.cell? ⟨w.heap.size, 2, none⟩ = some (.int .i64 fr) ∧ w'.cell? ⟨w.heap.size, 3, none⟩ = some (.int .i64 to) ∧ w'.cell? ⟨w.heap.size, 4, none⟩ = some (.slice q m c))
      (first | exact HK.out _ HB2.out.drew | exact HK.out _ HB4.out | exact HK.out _ HB3.out)
      (first
        | (go_at_call 40; refine (HPJ.out _ _ _ _ _ HS3.out HN3.out HP3.out (by omega)).mono ?_; rintro e w4 ⟨v4, rfl, ho4, hb4⟩; have HB4 : Hid (Below W.heap.size W w4) := Lib.hid (HB3.out.trans (hb4.mono HB3.out.size)); have HO4 := Lib.hid (ho4.le (B' := W.heap.size) HB3.out.size); clear ho4 hb4)
        | (go_at_call 40; refine (HPI.out _ _ _ _ _ HS2.out.drew HN2.out HP2.out (by omega)).mono ?_; rintro e w3 ⟨v3, rfl, ho3, hb3'⟩; have HB3 : Hid (Below W.heap.size W w3) := Lib.hid (HB2.out.drew.trans (hb3'.mono HB2.out.drew.size)); obtain ⟨p3, d3, rfl, _, _, hs3, hp3⟩ := ho3.form HN3.out; have HS3 := Lib.hid hs3; have HP3 := Lib.hid hp3; clear ho3 hb3' hs3 hp3))
    clear k0 k1 k2 k3 k4
    obtain ⟨k0, k1, k2, k3, k4⟩ := HK.out _ HB4.out
    have hw4 : w.heap.size < w4.heap.size := by have := HWs.out; have := HB4.out.size; omega
    have HAP : Hid (Calls Try.prog 38 #[v4, .slice q m c] w4 fun e w' => ∃ v', e = .returned v' ∧ Own w' W.heap.size v' (T ++ U ++ V ++ recK (ps.map Pr.c)) ∧ Below W.heap.size w4 w') :=
      Lib.hid (refPutProps_any HO4.out HB4.out.size (by have := HTL.out; have := HL1.out; have := HL2.out; simp only [List.length_append]; omega) hm16 HPN.out (fun w' hb => HPS.out.below (HWB.out _ (HB4.out.trans hb))))
    rw [← HNK.out] at HAP
    clear HO4
    go_wp2_with fail
    refine HAP.out.mono ?_
    rintro e w5 ⟨v5, rfl, ho5, hb5⟩
    have HB5 : Hid (Below W.heap.size W w5) := Lib.hid (HB4.out.trans hb5)
    obtain ⟨nx, hnx⟩ : ∃ n, n = X.length := ⟨_, rfl⟩
    obtain ⟨px, cx, rfl, gx1, gx2, _, _⟩ := ho5.form hnx
    have HO5 := Lib.hid ho5
    have HF : Hid (fitK X = if nx ≤ 4096 then (X, 0) else ([], 3)) := Lib.hid (by rw [hnx]; rfl)
    clear ho5 hb5 hnx k0 k1 k2 k3 k4
    by_cases h4 : nx ≤ 4096
    · have HXX : Hid (x = (X, 0)) := Lib.hid (by rw [HX.out, HF.out, if_pos h4])
      clear HX HF
      go_wp2
      go_ret2
      exact ⟨_, by rw [HXX.out]; rfl, by rw [HXX.out]; exact HO5.out.le (by have := HWs.out; omega), HWB.out _ HB5.out⟩
    · have HXX : Hid (x = ([], 3)) := Lib.hid (by rw [HX.out, HF.out, if_neg h4])
      clear HX HF
      go_wp2
      go_ret2
      exact ⟨_, by rw [HXX.out]; rfl, by rw [HXX.out]; exact Own.nil _ _, HWB.out _ HB5.out⟩

end Go.Proofs.Ytocplkiomlocpaa
