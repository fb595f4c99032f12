/-
  tree.
-/
import Derived.Test.YtbbgdbnjmonbgaaGreatDoorH00
import Derived.Test.YtbbgdbnjmonbgaaGreatDoorH26
import Derived.Test.YtbbgdbnjmonbgaaGreatDoorTrVal
set_option linter.unusedVariables false
set_option linter.unusedSimpArgs false
set_option maxRecDepth 100000
namespace Go.Proofs.YtbbgdbnjmonbgaaGreatDoor
open Go.RowKit
section
variable {w w' : World} {B P pd sm cb : Nat} {X : PG} {seen : Int → Bool} {val : Kb} {fv lv : Value}
set_option maxHeartbeats 1600000 in
theorem upO_ok {n : Nd} (ho : n.Ok w) (hlf : n.leaf = true) (hv : n.vs.length = n.ks.length) (hc : n.s.count ≤ 100000) (hs : n.s.size ≤ 493) {q : Option Addr} {c : Nat} :
    Calls Tryz.prog 142 #[.pointer (some ⟨cb, 0, none⟩), .slice q 1 c, n.cell] w fun e w' => e = .returned (.tuple #[n.cell, .int .i64 0]) ∧ Below w.heap.size w w' := by
  obtain ⟨W, hW⟩ : ∃ W, W = (w.alloc (.cells #[.bool n.leaf, .slice n.kq n.ks.length n.kc, .slice n.vq n.vs.length n.vc, .slice n.iq n.is.length n.ic] 106)).alloc (.cells #[.bool false, .slice none 0 0, .slice none 0 0, .slice none 0 0] 106) := ⟨_, rfl⟩
  have hbw : Below w.heap.size w W := by rw [hW]; exact sbox2 _ _ _
  obtain ⟨b0, b1, _, hws⟩ := boxes w #[.bool n.leaf, .slice n.kq n.ks.length n.kc, .slice n.vq n.vs.length n.vc, .slice n.iq n.is.length n.ic] #[.bool false, .slice none 0 0, .slice none 0 0, .slice none 0 0] 106 106
  rw [← hW] at b0 b1 hws
  have HCUT := Hq (cut1_any (ho.below hbw) hc hs)
  have x0 : W.cell? ⟨w.heap.size, 0, none⟩ = some (.bool n.leaf) := (jC b0 0).trans rfl
  have x1 : W.cell? ⟨w.heap.size, 1, none⟩ = some (.slice n.kq n.ks.length n.kc) := (jC b0 1).trans rfl
  have x2 : W.cell? ⟨w.heap.size, 2, none⟩ = some (.slice n.vq n.vs.length n.vc) := (jC b0 2).trans rfl
  have x3 : W.cell? ⟨w.heap.size, 3, none⟩ = some (.slice n.iq n.is.length n.ic) := (jC b0 3).trans rfl
  have HBX := Hq b1
  have HBW := Hq hbw
  have HWS := Hq hws
  have HLF := Hq hlf
  have HKS : Hid (n.ks.length ≤ 100000) := Hq (by
    have : n.s.ks.length ≤ n.s.count := by unfold NdS.count; omega
    have e : n.s.ks.length = n.ks.length := by show (n.ks.map Kb.l).length = _; rw [List.length_map]
    omega)
  have HSZ : Hid (∀ g r, CutIs n g r → r = rw1 n g) := Hq fun g r h => by
    rcases h with ⟨_, h⟩ | ⟨h, _⟩
    · exact h
    · omega
  unfold Nd.cell at HCUT ⊢
  clear ho hv hc hs hbw b0 b1 hws hlf
  go_enter Tryz.func142, Tryz.ntmps142
  rw [hW] at x0 x1 x2 x3
  go_wp2_with fail
  rw [← hW]
  replace hW := Hq hW
  refine HCUT.out.mono ?_
  rintro e w1 ⟨g, r, rfl, hcut, hg, hnds, hb1⟩
  obtain rfl := HSZ.out g r hcut
  clear HCUT hcut x0 x1 x2 x3
  obtain ⟨W2, hW2⟩ : ∃ W2, W2 = w1.alloc (.cells #[.slice (some ⟨g, 0, none⟩) 1 1, .slice none 0 0] 225) := ⟨_, rfl⟩
  have hb2 : Below w1.heap.size w1 W2 := by rw [hW2]; exact sbox1 _ _
  have hn2 : W2.heap[w1.heap.size]? = some (.cells #[.slice (some ⟨g, 0, none⟩) 1 1, .slice none 0 0] 225 (0, 0)) := by rw [hW2]; exact heap_alloc_new _ _
  have y0 : W2.cell? ⟨w1.heap.size, 0, none⟩ = some (.slice (some ⟨g, 0, none⟩) 1 1) := (jC hn2 0).trans rfl
  have y1 : W2.cell? ⟨w1.heap.size, 1, none⟩ = some (.slice none 0 0) := (jC hn2 1).trans rfl
  have HRT := Hq (rootZ_ok (w := W2) (cb := cb) (n := n) (g := g) (hnds.below hb2) HLF.out 1 HKS.out)
  have HB2 : Hid (Below W.heap.size W W2) := Hq (hb1.trans (hb2.mono hb1.size))
  have hcl : (rw1 n g).cell = .agg #[.slice (some ⟨g, 0, none⟩) 1 1, .slice none 0 0] := rfl
  rw [hcl] at HRT ⊢
  clear hb1 hb2 hn2 hnds hcl
  go_wp2_with fail
  rw [← hW2]
  clear hW2
  go_loopw [9] (fun i wr => i = .int .i64 (-1) ∧ W2 = wr) (fun _ _ => 0)
  case atStart => exact ⟨rfl, rfl⟩
  case round =>
    obtain ⟨rfl, rfl⟩ := hrel
    go_wp2_with fail
    refine HRT.out.mono ?_
    rintro e w3 ⟨rfl, hb3⟩
    have hbx : RBox w3 (w.heap.size + 1) := by
      unfold RBox
      rw [hb3.block _ (by have := HB2.out.size; have := HWS.out; omega), HB2.out.block _ (by have := HWS.out; omega)]
      exact HBX.out
    obtain ⟨⟨r0, r1, r2, r3⟩, ⟨v0, v1, v2, v3⟩, hrl⟩ := hbx.cells
    have HR3 := Hq hbx
    have HB3 := Hq (HBW.out.trans ((HB2.out.trans (hb3.mono HB2.out.size)).mono HBW.out.size))
    clear hbx hb3 y0 y1 HRT
    unfold Nd.cell
    go_wp2
    refine bodyPost_ret (results_cell_tmp rfl _ _ (w.heap.size + 1) 106 _ (0, 0) (by kernel_rfl) (ndSet4 HR3.out) Tryz.underlying106 (by kernel_rfl)) rfl ?_
    exact ⟨rfl, below4 HB3.out (by omega) _ _ _ _⟩
theorem up1_ok {n : Nd} (ho : n.Ok w) (hlf : n.leaf = true) (hv : n.vs.length = n.ks.length) (hc : n.s.count ≤ 100000) (hs : n.s.size ≤ 493) {q : Option Addr} {m c : Nat} (hm : m ≤ 1) :
    Calls Tryz.prog 142 #[.pointer (some ⟨cb, 0, none⟩), .slice q m c, n.cell] w fun e w' => e = .returned (.tuple #[n.cell, .int .i64 0]) ∧ Below w.heap.size w w' := by
  rcases (by omega : m = 0 ∨ m = 1) with rfl | rfl
  · exact upZ_ok ho hlf hv hc hs
  · exact upO_ok ho hlf hv hc hs
def leafN (qk : Option Addr) (dk : Nat) (ks : List Kb) (qv : Option Addr) (dv : Nat) (vs : List Vl) : Nd := ⟨true, qk, dk, ks, qv, dv, vs, none, 0, []⟩
theorem leafN_ok {B' B2 : Nat} {qk qv : Option Addr} {nk dk nv dv : Nat} {ks : List Kb} {vs : List Vl} (hnk : nk = ks.length) (hnv : nv = vs.length) (hK : KOwn w B' (.slice qk nk dk) ks) (hV : VOwn w B2 (.slice qv nv dv) vs) (hk : ∀ y ∈ ks, y.Ok w) (hx : ∀ y ∈ vs, y.Ok w) : (leafN qk dk ks qv dv vs).Ok w := by
  subst hnk
  subst hnv
  obtain ⟨q1, c1, e1, h1, h2, h3, _⟩ := row_form hK
  obtain ⟨q2, c2, e2, h4, h5, h6, _⟩ := row_form hV
  cases e1
  cases e2
  exact ⟨h1, h2, h3, kown_lie hK, hk, h4, h5, h6, vown_lie hV, hx, Nat.zero_le _, by show (0 : Nat) ≤ _; omega, fun _ => rfl, (fun hne => absurd rfl hne), (fun y hy => by cases hy)⟩
structure TurnOn (w : World) (x : St) (ka : SlK) (va : SlV) (to_ : Nat) : Prop where
  no : NOwn w x.n
  lf : x.n.leaf = true
  vk : x.n.vs.length = x.n.ks.length
  k251 : x.n.ks.length ≤ 251
  i : x.i ≤ to_
  t : to_ ≤ x.n.ks.length
  fk : ka.Ok w
  fv : va.Ok w
  kl : ka.l.length ≤ 10
  vl : va.l.length ≤ 10
  ko : ∀ y ∈ ka.l, y.Ok w
  vo : ∀ y ∈ va.l, y.Ok w
theorem TurnOn.low {x : St} {ka : SlK} {va : SlV} {t : Nat} (h : TurnOn w x ka va t) (hb : Below w.heap.size w w') : TurnOn w' x ka va t :=
  ⟨h.no.keeps (KeepsN.maps (bs := []) (Keeps.below hb)), h.lf, h.vk, h.k251, h.i, h.t, h.fk.below hb, h.fv.below hb, h.kl, h.vl, fun y hy => (h.ko y hy).below hb, fun y hy => (h.vo y hy).below hb⟩
theorem TurnOn.ks {x : St} {ka : SlK} {va : SlV} {t : Nat} (h : TurnOn w x ka va t) : ∀ y ∈ x.n.ks.take x.i ++ (ka.l ++ x.n.ks.drop t), y.Ok w := by
  intro y hy
  rcases List.mem_append.1 hy with hy | hy
  · exact (h.no.ki y (List.mem_of_mem_take hy)).1
  · rcases List.mem_append.1 hy with hy | hy
    · exact h.ko y hy
    · exact (h.no.ki y (List.mem_of_mem_drop hy)).1
theorem TurnOn.vs {x : St} {ka : SlK} {va : SlV} {t : Nat} (h : TurnOn w x ka va t) : ∀ y ∈ x.n.vs.take x.i ++ (va.l ++ x.n.vs.drop t), y.Ok w := by
  intro y hy
  rcases List.mem_append.1 hy with hy | hy
  · exact (h.no.vi y (List.mem_of_mem_take hy)).1
  · rcases List.mem_append.1 hy with hy | hy
    · exact h.vo y hy
    · exact (h.no.vi y (List.mem_of_mem_drop hy)).1
def turnK (x : St) (ka : SlK) (t : Nat) : List Kb := x.n.ks.take x.i ++ (ka.l ++ x.n.ks.drop t)
def turnV (x : St) (va : SlV) (t : Nat) : List Vl := x.n.vs.take x.i ++ (va.l ++ x.n.vs.drop t)
theorem turn_spK {x : St} {ka : SlK} {va : SlV} {t nk : Nat} (h : TurnOn w x ka va t) (hnk : nk = (turnK x ka t).length) :
    Calls Tryz.prog 143 #[.slice x.n.kq x.n.ks.length x.n.kc, .int .i64 (x.i : Int), .int .i64 (t : Int), .slice ka.q ka.l.length ka.c] w fun e w' => ∃ q c, e = .returned (.slice q nk c) ∧ KOwn w' w.heap.size (.slice q nk c) (turnK x ka t) ∧ Below w.heap.size w w' := by
  have hk := h.no.ok
  refine (spliceK (x := ⟨x.n.kq, x.n.kc, x.n.ks⟩) (y := ka) ⟨hk.kl, hk.k1, hk.k2, hk.kz⟩ h.fk h.i h.t (by have := h.k251; have := h.kl; show x.n.ks.length + _ ≤ _; omega)).mono ?_
  rintro e w' ⟨v, rfl, ho, hb⟩
  obtain ⟨q, c, rfl, _⟩ := row_form ho
  have e : (x.n.ks.take x.i ++ (ka.l ++ x.n.ks.drop t)).length = nk := hnk.symm
  exact ⟨q, c, by rw [← e], by rw [← e]; exact ho, hb⟩
theorem turn_spV {x : St} {ka : SlK} {va : SlV} {t nv : Nat} (h : TurnOn w x ka va t) (hnv : nv = (turnV x va t).length) :
    Calls Tryz.prog 144 #[.slice x.n.vq x.n.vs.length x.n.vc, .int .i64 (x.i : Int), .int .i64 (t : Int), .slice va.q va.l.length va.c] w fun e w' => ∃ q c, e = .returned (.slice q nv c) ∧ VOwn w' w.heap.size (.slice q nv c) (turnV x va t) ∧ Below w.heap.size w w' := by
  have hk := h.no.ok
  refine (spliceV (x := ⟨x.n.vq, x.n.vc, x.n.vs⟩) (y := va) ⟨hk.vl, hk.v1, hk.v2, hk.vz⟩ h.fv h.i (by have := h.t; have := h.vk; show t ≤ x.n.vs.length; omega) (by have := h.k251; have := h.vk; have := h.vl; show x.n.vs.length + _ ≤ _; omega)).mono ?_
  rintro e w' ⟨v, rfl, ho, hb⟩
  obtain ⟨q, c, rfl, _⟩ := row_form ho
  have e : (x.n.vs.take x.i ++ (va.l ++ x.n.vs.drop t)).length = nv := hnv.symm
  exact ⟨q, c, by rw [← e], by rw [← e]; exact ho, hb⟩
theorem icast (n : Nat) : ((n + 1 : Nat) : Int) = (n : Int) + 1 := by omega
theorem cellT {bs : List Nat} (hk : Keeps (isMaps bs) w w') {b o : Nat} {v : Value} (h : w.cell? ⟨b, o, none⟩ = some v) : w'.cell? ⟨b, o, none⟩ = some v := by
  have hl := World.block_lt_of_cell? _ _ h
  obtain ⟨x, hx⟩ : ∃ x, w.heap[b]? = some x := ⟨_, Array.getElem?_eq_getElem hl⟩
  cases x with
  | map es c => exfalso; simp [World.cell?, hx] at h
  | _ => exact (World.cell?_of_block ((hk.stay hx rfl).trans hx.symm)).trans h
theorem bsT {bs : List Nat} {q : Option Addr} {l : List UInt8} (h : Bs w q l) (hk : Keeps (isMaps bs) w w') : Bs w' q l := fun hne => by
  obtain ⟨b, o, hq, hc⟩ := h hne
  exact ⟨b, o, hq, fun i u hi => cellT hk (hc i u hi)⟩
theorem kbT {bs : List Nat} {x : Kb} (h : x.Ok w) (hk : Keeps (isMaps bs) w w') : x.Ok w' := ⟨bsT h.bs hk, h.h1, h.h2, h.z⟩
theorem vlT {bs : List Nat} {x : Vl} (h : x.Ok w) (hk : Keeps (isMaps bs) w w') : x.Ok w' := ⟨bsT h.bs hk, h.h1, h.h2, h.z, h.g1, h.g2, h.p1, h.p2⟩
theorem TurnOn.maps {bs : List Nat} {x : St} {ka : SlK} {va : SlV} {t : Nat} (h : TurnOn w x ka va t) (hk : Keeps (isMaps bs) w w') : TurnOn w' x ka va t :=
  ⟨h.no.keeps (KeepsN.maps hk), h.lf, h.vk, h.k251, h.i, h.t,
    ⟨(fun hne => by obtain ⟨b, o, hq, hc⟩ := h.fk.at_ hne; exact ⟨b, o, hq, fun i u hi => cellT hk (hc i u hi)⟩), h.fk.h1, h.fk.h2, h.fk.z⟩,
    ⟨(fun hne => by obtain ⟨b, o, hq, hc⟩ := h.fv.at_ hne; exact ⟨b, o, hq, fun i u hi => ⟨cellT hk (hc i u hi).1, cellT hk (hc i u hi).2.1, cellT hk (hc i u hi).2.2⟩⟩), h.fv.h1, h.fv.h2, h.fv.z⟩,
    h.kl, h.vl, fun y hy => kbT (h.ko y hy) hk, fun y hy => vlT (h.vo y hy) hk⟩
theorem maps_ofTr {n0 P sm : Nat} (h : n0 ≤ sm) (i : Nat) (o : Obj) (hh : isMaps [sm] i o = true) : ofTr n0 P i o = true := by
  cases o with
  | map es c =>
    simp only [isMaps, List.contains_eq_mem, List.mem_singleton, decide_eq_true_eq] at hh
    subst hh
    simp [ofTr, h]
  | _ => cases hh
def leafT (x : St) (ka : SlK) (va : SlV) (t : Nat) : NdS := ⟨true, (turnK x ka t).map Kb.l, (turnV x va t).map Vl.s, []⟩
structure Fits1 (x : St) (ka : SlK) (va : SlV) (t : Nat) : Prop where
  len : (turnV x va t).length = (turnK x ka t).length
  cnt : (leafT x ka va t).count ≤ 100000
  size : (leafT x ka va t).size ≤ 493
  right : (leafT x ka va t).Right
  put : (leafT x ka va t).put.length ≤ 493
  vp : ∀ v ∈ turnV x va t, v.p ≠ -1
  pos : 0 < (turnK x ka t).length
set_option maxHeartbeats 12800000 in
theorem turn1_ok (h : LookAt w B P pd sm X seen) (hP : P < sm) {n0 : Nat} (hBn : B ≤ n0) (hnw : n0 ≤ w.heap.size) {lq : Option Addr} {ln lc : Nat} {ls : List Int} (hcb : CBx w cb P sm val fv (.slice lq ln lc)) (hlo : OwnI w n0 (.slice lq ln lc) ls) (hll : ls.length ≤ 1000000) (hcn : n0 ≤ cb) (hsn : n0 ≤ sm) {k : Nat} (hX : Lays X k)
    {B2 : Nat} {q : Option Addr} {n c : Nat} {l : List St} (hso : SOwn w B2 (.slice q n c) l) (hn : n = l.length) (hn1 : l.length ≤ 1) {x : St} (hx : x = endM l) {ka : SlK} {va : SlV} {to_ : Nat} (hto : to_ = if x.th = true then x.i + 1 else x.i) (hon : TurnOn w x ka va to_) (hfit : Fits1 x ka va to_) (hth : x.th = true → ∃ v, x.n.vs[x.i]? = some v ∧ v.p = 0 ∧ 0 ≤ v.g ∧ v.g ≤ 4096)
    (hseen : ∀ y, seen y = true → 0 ≤ y ∧ y < 4096) (hd : ∀ l, l.Nodup → (∀ y, y ∈ l ↔ seen y = true) → DropsOk (X.lay k (pageB 2 k (X.g + 1) (leafT x ka va to_).put)) l) :
    Calls Tryz.prog 118 #[.pointer (some ⟨cb, 0, none⟩), .slice q n c, .slice ka.q ka.l.length ka.c, .slice va.q va.l.length va.c] w (WritePost w B P pd n0 (X.lay k (pageB 2 k (X.g + 1) (leafT x ka va to_).put)) seen k) := by
  have HEND := Hq (end_any hso hn)
  rw [← hx] at HEND
  have hev : x.v = .agg #[.int .i64 x.pc.no, .int .i64 x.pc.deep, .slice x.pc.s.f.q x.pc.s.f.l.length x.pc.s.f.c, .slice x.pc.s.t.q x.pc.s.t.l.length x.pc.s.t.c, .bool x.pc.s.e, .bool x.n.leaf, .slice x.n.kq x.n.ks.length x.n.kc, .slice x.n.vq x.n.vs.length x.n.vc, .slice x.n.iq x.n.is.length x.n.ic, .int .i64 (x.i : Int), .bool x.th] := rfl
  rw [hev] at HEND
  have HN1 : Hid (n ≤ 1) := Hq (by omega)
  have HBN := Hq hBn
  have HPP := Hq hP
  have HCN := Hq hcn
  have HXL := Hq hX
  have HLL := Hq hll
  have HSE := Hq hseen
  have HDR := Hq hd
  have HFIT := Hq hfit
  have HLA := Hq h
  have HCB := Hq hcb
  have HLO := Hq hlo
  have HTO := Hq hon
  have HNW := Hq hnw
  have HSN := Hq hsn
  obtain ⟨nk, hnk⟩ : ∃ nk, nk = (turnK x ka to_).length := ⟨_, rfl⟩
  obtain ⟨nv, hnv⟩ : ∃ nv, nv = (turnV x va to_).length := ⟨_, rfl⟩
  have HNK := Hq hnk
  have HNV := Hq hnv
  have hti := hon.i
  have htt := hon.t
  have hk251 := hon.k251
  clear hnk hnv hev h hP hBn hnw hcb hlo hll hcn hsn hX hso hn hn1 hx hon hfit hseen hd
  cases hb : x.th with
  | false =>
    rw [hb, if_neg (by decide)] at hto
    rw [hb] at HEND
    subst hto
    clear hb hth
    go_enter Tryz.func118, Tryz.ntmps118
    go_wp2_with fail
    refine HEND.out.mono ?_
    rintro e w1 ⟨rfl, hb1⟩
    have hb2 : Below w1.heap.size w1 (w1.alloc (.cells #[.int .i64 x.pc.no, .int .i64 x.pc.deep, .slice x.pc.s.f.q x.pc.s.f.l.length x.pc.s.f.c, .slice x.pc.s.t.q x.pc.s.t.l.length x.pc.s.t.c, .bool x.pc.s.e, .bool x.n.leaf, .slice x.n.kq x.n.ks.length x.n.kc, .slice x.n.vq x.n.vs.length x.n.vc, .slice x.n.iq x.n.is.length x.n.ic, .int .i64 (x.i : Int), .bool false] 131)) := sbox1 _ _
    have hn8 := heap_alloc_new w1 (.cells #[.int .i64 x.pc.no, .int .i64 x.pc.deep, .slice x.pc.s.f.q x.pc.s.f.l.length x.pc.s.f.c, .slice x.pc.s.t.q x.pc.s.t.l.length x.pc.s.t.c, .bool x.pc.s.e, .bool x.n.leaf, .slice x.n.kq x.n.ks.length x.n.kc, .slice x.n.vq x.n.vs.length x.n.vc, .slice x.n.iq x.n.is.length x.n.ic, .int .i64 (x.i : Int), .bool false] 131)
    clear HEND
    go_wp2_with fail
    generalize w1.alloc (.cells #[.int .i64 x.pc.no, .int .i64 x.pc.deep, .slice x.pc.s.f.q x.pc.s.f.l.length x.pc.s.f.c, .slice x.pc.s.t.q x.pc.s.t.l.length x.pc.s.t.c, .bool x.pc.s.e, .bool x.n.leaf, .slice x.n.kq x.n.ks.length x.n.kc, .slice x.n.vq x.n.vs.length x.n.vc, .slice x.n.iq x.n.is.length x.n.ic, .int .i64 (x.i : Int), .bool false] 131) = W8 at hb2 hn8 ⊢
    obtain ⟨E, hE⟩ : ∃ E, E = w1.heap.size := ⟨_, rfl⟩
    rw [← hE] at hn8 ⊢
    have hb8 : Below w.heap.size w W8 := hb1.trans (hb2.mono hb1.size)
    have HB8 := Hq hb8
    have HLA8 := Hq (HLA.out.below hb8)
    have HCB8 : Hid (∃ lq ln lc, CBx W8 cb P sm val fv (.slice lq ln lc) ∧ OwnI W8 n0 (.slice lq ln lc) ls) := Hq ⟨_, _, _, HCB.out.low hb8, HLO.out.below hb8⟩
    have HTO8 := Hq (HTO.out.low hb8)
    have HNW8 : Hid (n0 ≤ W8.heap.size) := Hq (Nat.le_trans HNW.out hb8.size)
    have HF8 : Hid (∀ e w5, WritePost W8 B P pd n0 (X.lay k (pageB 2 k (X.g + 1) (leafT x ka va x.i).put)) seen k e w5 → WritePost w B P pd n0 (X.lay k (pageB 2 k (X.g + 1) (leafT x ka va x.i).put)) seen k e w5) := Hq fun e w5 ⟨l, h1, h2, h3, h4, h5, h6⟩ => ⟨l, h1, h2, h3, h4, (HB8.out.mono (Nat.le_trans HBN.out HNW.out)).trans h5, (Keeps.below HB8.out).trans h6⟩
    clear hb1 hb2 hE hb8
    have HX8B := Hq (show W8.heap[E]? = some (.cells #[.int .i64 x.pc.no, .int .i64 x.pc.deep, .slice x.pc.s.f.q x.pc.s.f.l.length x.pc.s.f.c, .slice x.pc.s.t.q x.pc.s.t.l.length x.pc.s.t.c, .bool x.pc.s.e, .bool x.n.leaf, .slice x.n.kq x.n.ks.length x.n.kc, .slice x.n.vq x.n.vs.length x.n.vc, .slice x.n.iq x.n.is.length x.n.ic, .int .i64 (x.i : Int), .bool false] 131 (0, 0)) from hn8)
    have HX : Hid (∀ w', Below W8.heap.size W8 w' → w'.cell? ⟨E, 6, none⟩ = some (.slice x.n.kq x.n.ks.length x.n.kc) ∧ w'.cell? ⟨E, 7, none⟩ = some (.slice x.n.vq x.n.vs.length x.n.vc) ∧ w'.cell? ⟨E, 9, none⟩ = some (.int .i64 (x.i : Int))) := Hq fun w' hb => by
      have e1 := (hb.block E (aL hn8)).trans hn8
      exact ⟨jC e1 6, jC e1 7, jC e1 9⟩
    have HXR : Hid (∀ w' R p q r t, Below W8.heap.size W8 w' → w'.heap[R]? = some (.cells #[.bool false, .slice none 0 0, .slice none 0 0, .slice none 0 0] 106 (0, 0)) → ((((w'.setCell ⟨R, 0, none⟩ p).setCell ⟨R, 1, none⟩ q).setCell ⟨R, 2, none⟩ r).setCell ⟨R, 3, none⟩ t).cell? ⟨E, 6, none⟩ = some (.slice x.n.kq x.n.ks.length x.n.kc) ∧ ((((w'.setCell ⟨R, 0, none⟩ p).setCell ⟨R, 1, none⟩ q).setCell ⟨R, 2, none⟩ r).setCell ⟨R, 3, none⟩ t).cell? ⟨E, 7, none⟩ = some (.slice x.n.vq x.n.vs.length x.n.vc) ∧ ((((w'.setCell ⟨R, 0, none⟩ p).setCell ⟨R, 1, none⟩ q).setCell ⟨R, 2, none⟩ r).setCell ⟨R, 3, none⟩ t).cell? ⟨E, 9, none⟩ = some (.int .i64 (x.i : Int))) := Hq fun w' R p q r t hb hR => by
      have e1 := (hb.block E (aL hn8)).trans hn8
      have hne : E ≠ R := fun e => by
        rw [e, hR] at e1
        simp only [Option.some.injEq, Obj.cells.injEq] at e1
        exact absurd e1.2.1 (by decide)
      have e2 := ((gb4 w' R p q r t).block E (aL e1) (fun e => hne (Option.some.inj e))).trans e1
      exact ⟨jC e2 6, jC e2 7, jC e2 9⟩
    have HSK2 : Hid (∀ w', Below W8.heap.size W8 w' → Calls Tryz.prog 143 #[.slice x.n.kq x.n.ks.length x.n.kc, .int .i64 (x.i : Int), .int .i64 (x.i : Int), .slice ka.q ka.l.length ka.c] w' fun e w'' => ∃ q c, e = .returned (.slice q nk c) ∧ KOwn w'' W8.heap.size (.slice q nk c) (turnK x ka x.i) ∧ Below w'.heap.size w' w'' ∧ Below W8.heap.size W8 w'') := Hq fun w' hb => (turn_spK (HTO8.out.low hb) HNK.out).mono fun e w'' ⟨q, c, h1, h2, h3⟩ => ⟨q, c, h1, ownsRow_le h2 hb.size, h3, hb.trans (h3.mono hb.size)⟩
    have HSV2 : Hid (∀ w', Below W8.heap.size W8 w' → Calls Tryz.prog 144 #[.slice x.n.vq x.n.vs.length x.n.vc, .int .i64 (x.i : Int), .int .i64 (x.i : Int), .slice va.q va.l.length va.c] w' fun e w'' => ∃ q c, e = .returned (.slice q nv c) ∧ VOwn w'' W8.heap.size (.slice q nv c) (turnV x va x.i) ∧ Below w'.heap.size w' w'' ∧ Below W8.heap.size W8 w'') := Hq fun w' hb => (turn_spV (HTO8.out.low hb) HNV.out).mono fun e w'' ⟨q, c, h1, h2, h3⟩ => ⟨q, c, h1, ownsRow_le h2 hb.size, h3, hb.trans (h3.mono hb.size)⟩
    have HUP2 : Hid (∀ w' qk dk qv dv, Below W8.heap.size W8 w' → KOwn w' W8.heap.size (.slice qk nk dk) (turnK x ka x.i) → VOwn w' W8.heap.size (.slice qv nv dv) (turnV x va x.i) → Calls Tryz.prog 142 #[.pointer (some ⟨cb, 0, none⟩), .slice q n c, .agg #[.bool true, .slice qk nk dk, .slice qv nv dv, .slice none 0 0]] w' fun e w'' => e = .returned (.tuple #[.agg #[.bool true, .slice qk nk dk, .slice qv nv dv, .slice none 0 0], .int .i64 0]) ∧ Below w'.heap.size w' w'' ∧ Below W8.heap.size W8 w'') := Hq fun w' qk dk qv dv hb hK hV => by
      have ht := HTO8.out.low hb
      have h := up1_ok (cb := cb) (q := q) (m := n) (c := c) (n := leafN qk dk (turnK x ka x.i) qv dv (turnV x va x.i)) (leafN_ok HNK.out HNV.out hK hV ht.ks ht.vs) rfl HFIT.out.len HFIT.out.cnt HFIT.out.size HN1.out
      have ec : (leafN qk dk (turnK x ka x.i) qv dv (turnV x va x.i)).cell = .agg #[.bool true, .slice qk nk dk, .slice qv nv dv, .slice none 0 0] := by
        show Value.agg #[.bool true, .slice qk (turnK x ka x.i).length dk, .slice qv (turnV x va x.i).length dv, .slice none 0 0] = _
        rw [← HNK.out, ← HNV.out]
      rw [ec] at h
      exact h.mono fun e w'' ⟨he, hb2⟩ => ⟨he, hb2, hb.trans (hb2.mono hb.size)⟩
    have HWR : Hid (∀ w' qk dk qv dv, Below W8.heap.size W8 w' → KOwn w' W8.heap.size (.slice qk nk dk) (turnK x ka x.i) → VOwn w' W8.heap.size (.slice qv nv dv) (turnV x va x.i) → Calls Tryz.prog 145 #[.pointer (some ⟨cb, 0, none⟩), .agg #[.bool true, .slice qk nk dk, .slice qv nv dv, .slice none 0 0]] w' (WritePost W8 B P pd n0 (X.lay k (pageB 2 k (X.g + 1) (leafT x ka va x.i).put)) seen k)) := Hq fun w' qk dk qv dv hb hK hV => by
      have ht := HTO8.out.low hb
      have hwr := writeG_ok (w := w') (n0 := n0) (P := P) (pd := pd) (sm := sm) (cb := cb) (X := X) (Y := X.lay k (pageB 2 k (X.g + 1) (leafT x ka va x.i).put)) (seen := seen) (val := val) (fv := fv) (k := (k : Int)) (ls := ls ++ [(k : Int)]) HBN.out (Nat.le_trans HNW8.out hb.size) (n := leafN qk dk (turnK x ka x.i) qv dv (turnV x va x.i)) HFIT.out.pos (fun w1 hb1 => by
        have hbb := hb.trans (hb1.mono hb.size)
        obtain ⟨lq, ln, lc, c1, c2⟩ := HCB8.out
        exact layLeafG_ok (HLA8.out.below hbb) HPP.out HBN.out (Nat.le_trans HNW8.out hbb.size) (c1.low hbb) (c2.below hbb) HLL.out HCN.out HXL.out (leafN_ok HNK.out HNV.out (row_below hK hb1) (row_below hV hb1) (ht.low hb1).ks (ht.low hb1).vs) rfl rfl HFIT.out.vp HFIT.out.right HFIT.out.cnt HFIT.out.put) HSE.out HDR.out
      have ec : (leafN qk dk (turnK x ka x.i) qv dv (turnV x va x.i)).cell = .agg #[.bool true, .slice qk nk dk, .slice qv nv dv, .slice none 0 0] := by
        show Value.agg #[.bool true, .slice qk (turnK x ka x.i).length dk, .slice qv (turnV x va x.i).length dv, .slice none 0 0] = _
        rw [← HNK.out, ← HNV.out]
      rw [ec] at hwr
      exact hwr.mono fun e w'' ⟨l, h1, h2, h3, h4, h5, h6⟩ => ⟨l, h1, h2, h3, h4, (hb.mono (Nat.le_trans HBN.out HNW8.out)).trans h5, (Keeps.below hb).trans h6⟩
    clear hn8
    go_region_held3 (fun w' => w'.cell? ⟨E, 6, none⟩ = some (.slice x.n.kq x.n.ks.length x.n.kc) ∧ w'.cell? ⟨E, 7, none⟩ = some (.slice x.n.vq x.n.vs.length x.n.vc) ∧ w'.cell? ⟨E, 9, none⟩ = some (.int .i64 (x.i : Int)))
      (with_reducible first | exact HXR.out _ _ _ _ _ _ HBU.out HRB.out | exact HX.out _ HBU.out | exact HX.out _ (low_alloc HBU.out _) | exact HX.out _ HBF.out | exact HX.out _ (low_alloc HBF.out _) | exact HX.out _ HBK.out | exact HX.out _ (low_alloc HBK.out _) | exact HX.out _ HBV.out | exact HX.out _ (low_alloc HBV.out _) | exact HX.out _ (Below.refl _ _).drew | exact HX.out _ (low_first _ _))
      (first
        | (go_at_call 143; (with_reducible first | refine (HSK2.out _ HBV.out).mono ?_ | refine (HSK2.out _ (low_alloc HBV.out _)).mono ?_); rintro e w2 ⟨qk, dk, rfl, hv2, hb2, hbf⟩; have HFK := Hq hv2; (first | have HFV := Hq (v_carry HVV.out hb2) | have HFV := Hq (v_carrya HVV.out hb2)); have HBF := Hq hbf; (first | have HBOX := Hq (box_carry2 HBOX.out hb2) | have HBOX := Hq (box_new2 HBV.out hb2) | skip); clear hv2 hb2 hbf)
        | (go_at_call 144; (with_reducible first | refine (HSV2.out _ HBK.out).mono ?_ | refine (HSV2.out _ (low_alloc HBK.out _)).mono ?_); rintro e w2 ⟨qv, dv, rfl, hv2, hb2, hbf⟩; have HFV := Hq hv2; (first | have HFK := Hq (k_carry HVK.out hb2) | have HFK := Hq (k_carrya HVK.out hb2)); have HBF := Hq hbf; (first | have HBOX := Hq (box_carry2 HBOX.out hb2) | have HBOX := Hq (box_new2 HBK.out hb2) | skip); clear hv2 hb2 hbf)
        | (go_at_call 143; (with_reducible first | refine (HSK2.out _ (Below.refl _ _).drew).mono ?_ | refine (HSK2.out _ (low_first _ _)).mono ?_); rintro e w2 ⟨qk, dk, rfl, hv2, hb2, hbf⟩; have HVK := Hq hv2; have HBK := Hq hbf; (first | have HBOX := Hq (box_newd2 hb2) | skip); clear hv2 hb2 hbf)
        | (go_at_call 144; (with_reducible first | refine (HSV2.out _ (Below.refl _ _).drew).mono ?_ | refine (HSV2.out _ (low_first _ _)).mono ?_); rintro e w2 ⟨qv, dv, rfl, hv2, hb2, hbf⟩; have HVV := Hq hv2; have HBV := Hq hbf; (first | have HBOX := Hq (box_newd2 hb2) | skip); clear hv2 hb2 hbf)
        | (go_at_call 142; (with_reducible first | refine (HUP2.out _ _ _ _ _ HBF.out HFK.out HFV.out).mono ?_ | refine (HUP2.out _ _ _ _ _ (low_alloc HBF.out _) (k_alloc HFK.out _) (v_alloc HFV.out _)).mono ?_); rintro e w3 ⟨rfl, hb3, hbf⟩; (first | have HUK := Hq (k_carry HFK.out hb3) | have HUK := Hq (k_carrya HFK.out hb3)); (first | have HUV := Hq (v_carry HFV.out hb3) | have HUV := Hq (v_carrya HFV.out hb3)); have HBU := Hq hbf; (first | have hrc := box_carry2 HBOX.out hb3 | have hrc := box_new2 HBF.out hb3 | skip); (first | (obtain ⟨hrb, hrl⟩ := hrc; have HRB := Hq hrb; have HRL := Hq hrl; have r0 := (jC hrb 0).trans rfl; have r1 := (jC hrb 1).trans rfl; have r2 := (jC hrb 2).trans rfl; have r3 := (jC hrb 3).trans rfl; have u0 := jU hrb 0; have u1 := jU hrb 1; have u2 := jU hrb 2; have u3 := jU hrb 3; clear hrb hrl) | skip); clear hb3 hbf)
        | fail)
    all_goals
      have hlow : Below W8.heap.size W8 w3 := HBU.out
      have HLW := Hq hlow
    all_goals
      first
        | (obtain ⟨⟨x0, x1, x2, x3⟩, hk4, hv4, hb4⟩ := turn_end HRB.out HLW.out HRL.out HUK.out HUV.out (.bool true) (.slice qk nk dk) (.slice qv nv dv) (.slice none 0 0)
           have HW4 := Hq (HWR.out _ _ _ _ _ hb4 hk4 hv4)
           clear hk4 hv4 hb4 hlow)
        | (have hnw := heap_alloc_new w3 (.cells #[.bool true, .slice qk nk dk, .slice qv nv dv, .slice none 0 0] 106)
           have x0 := (jC hnw 0).trans rfl
           have x1 := (jC hnw 1).trans rfl
           have x2 := (jC hnw 2).trans rfl
           have x3 := (jC hnw 3).trans rfl
           have HW4 := Hq (HWR.out _ _ _ _ _ (HLW.out.alloc HLW.out.size (.cells #[.bool true, .slice qk nk dk, .slice qv nv dv, .slice none 0 0] 106)) (k_alloc HUK.out _) (v_alloc HUV.out _))
           clear hnw hlow)
    all_goals
      go_wp2_with fail
      refine HW4.out.mono ?_
      rintro e w5 hpost
      obtain ⟨l5, h51, h52, rfl, h53, h54, h55⟩ := HF8.out e w5 hpost
      have H53 := Hq h53
      have H54 := Hq h54
      have H55 := Hq h55
      clear hpost h53 h54 h55
      go_wp2
      go_ret2
      exact ⟨l5, h51, h52, rfl, H53.out, H54.out, H55.out⟩
  | true =>
    rw [hb, if_pos rfl] at hto
    rw [hb] at HEND
    subst hto
    obtain ⟨v, hv, hp0, hg0, hg1⟩ := hth hb
    have e1 : wrap64 ((x.i : Int) + 1) = ((x.i + 1 : Nat) : Int) := by rw [IntWalk.wrap64_in _ (by omega)]; omega
    have HEX := Hq (show x.i + 1 ≤ x.n.ks.length from htt)
    have HVV := Hq hv
    have HSV0 : Hid (∀ w', Below w.heap.size w w' → Calls Tryz.prog 66 #[.agg #[.int .i64 x.pc.no, .int .i64 x.pc.deep, .slice x.pc.s.f.q x.pc.s.f.l.length x.pc.s.f.c, .slice x.pc.s.t.q x.pc.s.t.l.length x.pc.s.t.c, .bool x.pc.s.e, .bool x.n.leaf, .slice x.n.kq x.n.ks.length x.n.kc, .slice x.n.vq x.n.vs.length x.n.vc, .slice x.n.iq x.n.is.length x.n.ic, .int .i64 (x.i : Int), .bool true]] w' fun e w'' => e = .returned (.agg #[.slice v.q v.l.length v.c, .int .i64 v.g, .int .i64 v.p]) ∧ Below w'.heap.size w' w'') := Hq fun w' hbw => by
      have hs := stepVal_any (HTO.out.low hbw).no.ok hv
      have hev : x.v = .agg #[.int .i64 x.pc.no, .int .i64 x.pc.deep, .slice x.pc.s.f.q x.pc.s.f.l.length x.pc.s.f.c, .slice x.pc.s.t.q x.pc.s.t.l.length x.pc.s.t.c, .bool x.pc.s.e, .bool x.n.leaf, .slice x.n.kq x.n.ks.length x.n.kc, .slice x.n.vq x.n.vs.length x.n.vc, .slice x.n.iq x.n.is.length x.n.ic, .int .i64 (x.i : Int), .bool x.th] := rfl
      rw [hev, hb] at hs
      exact hs
    have HVAL : Hid (∀ w', Below w.heap.size w w' → Calls Tryz.prog 47 #[.agg #[.pointer (some ⟨P, 0, none⟩), .map (some sm)], .agg #[.slice v.q v.l.length v.c, .int .i64 v.g, .int .i64 v.p]] w' fun e w'' => ∃ y : Kb, e = .returned (.tuple #[.slice y.q y.l.length y.c, .int .i64 0]) ∧ LookAt w'' B P pd sm X seen ∧ LStep sm w' w'') := Hq fun w' hbw => by
      have hno := (HTO.out.low hbw).no.vi v (List.mem_of_getElem? hv)
      refine (value_any (HLA.out.below hbw) hno.1 hno.2 hg0 hg1).mono ?_
      intro e w'' hpost
      rcases hpost with ⟨y, ps, rfl, hvs, _, hla, hst⟩ | ⟨rfl, hnone, _⟩
      · unfold ValS at hvs
        rw [if_pos (show v.s.p = 0 from hp0)] at hvs
        obtain ⟨_, rfl⟩ := hvs
        exact ⟨y, rfl, hla, hst⟩
      · exact absurd (show ValS X seen v.s v.l [] by unfold ValS; rw [if_pos (show v.s.p = 0 from hp0)]; exact ⟨rfl, rfl⟩) (hnone _ _)
    clear hb hth hp0 hg0 hg1 hv
    go_enter Tryz.func118, Tryz.ntmps118
    go_wp2_with fail
    refine HEND.out.mono ?_
    rintro e w1 ⟨rfl, hb1⟩
    have hb2 : Below w1.heap.size w1 (w1.alloc (.cells #[.int .i64 x.pc.no, .int .i64 x.pc.deep, .slice x.pc.s.f.q x.pc.s.f.l.length x.pc.s.f.c, .slice x.pc.s.t.q x.pc.s.t.l.length x.pc.s.t.c, .bool x.pc.s.e, .bool x.n.leaf, .slice x.n.kq x.n.ks.length x.n.kc, .slice x.n.vq x.n.vs.length x.n.vc, .slice x.n.iq x.n.is.length x.n.ic, .int .i64 (x.i : Int), .bool true] 131)) := sbox1 _ _
    have hn2 := heap_alloc_new w1 (.cells #[.int .i64 x.pc.no, .int .i64 x.pc.deep, .slice x.pc.s.f.q x.pc.s.f.l.length x.pc.s.f.c, .slice x.pc.s.t.q x.pc.s.t.l.length x.pc.s.t.c, .bool x.pc.s.e, .bool x.n.leaf, .slice x.n.kq x.n.ks.length x.n.kc, .slice x.n.vq x.n.vs.length x.n.vc, .slice x.n.iq x.n.is.length x.n.ic, .int .i64 (x.i : Int), .bool true] 131)
    clear HEND
    go_wp2_with fail
    generalize w1.alloc (.cells #[.int .i64 x.pc.no, .int .i64 x.pc.deep, .slice x.pc.s.f.q x.pc.s.f.l.length x.pc.s.f.c, .slice x.pc.s.t.q x.pc.s.t.l.length x.pc.s.t.c, .bool x.pc.s.e, .bool x.n.leaf, .slice x.n.kq x.n.ks.length x.n.kc, .slice x.n.vq x.n.vs.length x.n.vc, .slice x.n.iq x.n.is.length x.n.ic, .int .i64 (x.i : Int), .bool true] 131) = W at hb2 hn2 ⊢
    obtain ⟨E, hE⟩ : ∃ E, E = w1.heap.size := ⟨_, rfl⟩
    rw [← hE] at hn2 ⊢
    have hbW : Below w.heap.size w W := hb1.trans (hb2.mono hb1.size)
    have HBW := Hq hbW
    have HY : Hid (∀ w', Keeps (isMaps [sm]) W w' → w'.cell? ⟨E, 0, none⟩ = some (.int .i64 x.pc.no) ∧ w'.cell? ⟨E, 1, none⟩ = some (.int .i64 x.pc.deep) ∧ w'.cell? ⟨E, 2, none⟩ = some (.slice x.pc.s.f.q x.pc.s.f.l.length x.pc.s.f.c) ∧ w'.cell? ⟨E, 3, none⟩ = some (.slice x.pc.s.t.q x.pc.s.t.l.length x.pc.s.t.c) ∧ w'.cell? ⟨E, 4, none⟩ = some (.bool x.pc.s.e) ∧ w'.cell? ⟨E, 5, none⟩ = some (.bool x.n.leaf) ∧ w'.cell? ⟨E, 6, none⟩ = some (.slice x.n.kq x.n.ks.length x.n.kc) ∧ w'.cell? ⟨E, 7, none⟩ = some (.slice x.n.vq x.n.vs.length x.n.vc) ∧ w'.cell? ⟨E, 8, none⟩ = some (.slice x.n.iq x.n.is.length x.n.ic) ∧ w'.cell? ⟨E, 9, none⟩ = some (.int .i64 (x.i : Int)) ∧ w'.cell? ⟨E, 10, none⟩ = some (.bool true) ∧ w'.cell? ⟨cb, 0, none⟩ = some (.pointer (some ⟨P, 0, none⟩)) ∧ w'.cell? ⟨cb, 1, none⟩ = some (.map (some sm))) := Hq fun w' hk => by
      have q1 := hk.stay hn2 rfl
      have q2 := hk.stay (HCB.out.low hbW) rfl
      exact ⟨(jC q1 0).trans rfl, (jC q1 1).trans rfl, (jC q1 2).trans rfl, (jC q1 3).trans rfl, (jC q1 4).trans rfl, (jC q1 5).trans rfl, (jC q1 6).trans rfl, (jC q1 7).trans rfl, (jC q1 8).trans rfl, (jC q1 9).trans rfl, (jC q1 10).trans rfl, (jC q2 0).trans rfl, (jC q2 1).trans rfl⟩
    have HE2 := Hq hn2
    have HLAW := Hq (HLA.out.below hbW)
    clear hb1 hb2 hE hn2 hbW
    go_region_held3 (fun w' => w'.cell? ⟨E, 0, none⟩ = some (.int .i64 x.pc.no) ∧ w'.cell? ⟨E, 1, none⟩ = some (.int .i64 x.pc.deep) ∧ w'.cell? ⟨E, 2, none⟩ = some (.slice x.pc.s.f.q x.pc.s.f.l.length x.pc.s.f.c) ∧ w'.cell? ⟨E, 3, none⟩ = some (.slice x.pc.s.t.q x.pc.s.t.l.length x.pc.s.t.c) ∧ w'.cell? ⟨E, 4, none⟩ = some (.bool x.pc.s.e) ∧ w'.cell? ⟨E, 5, none⟩ = some (.bool x.n.leaf) ∧ w'.cell? ⟨E, 6, none⟩ = some (.slice x.n.kq x.n.ks.length x.n.kc) ∧ w'.cell? ⟨E, 7, none⟩ = some (.slice x.n.vq x.n.vs.length x.n.vc) ∧ w'.cell? ⟨E, 8, none⟩ = some (.slice x.n.iq x.n.is.length x.n.ic) ∧ w'.cell? ⟨E, 9, none⟩ = some (.int .i64 (x.i : Int)) ∧ w'.cell? ⟨E, 10, none⟩ = some (.bool true) ∧ w'.cell? ⟨cb, 0, none⟩ = some (.pointer (some ⟨P, 0, none⟩)) ∧ w'.cell? ⟨cb, 1, none⟩ = some (.map (some sm)))
      (with_reducible first | exact HY.out _ HKV.out | exact HY.out _ (Keeps.below HBS.out) | exact HY.out _ (Keeps.below (Below.refl _ _)) | exact HY.out _ (Keeps.below (Below.refl _ _).drew) | fail)
      (first
        | (go_at_call 47; (with_reducible refine (HVAL.out _ (HBW.out.trans (HBS.out.mono HBW.out.size))).mono ?_); rintro e W8 ⟨y, rfl, hla, hst⟩; have HLA8 := Hq hla; have HKV : Hid (Keeps (isMaps [sm]) W W8) := Hq ((Keeps.below HBS.out).trans hst.keeps); have HST := Hq (LStep.trans (HLAW.out.step HBS.out) hst); clear hla hst)
        | (go_at_call 66; (with_reducible first | refine (HSV0.out _ (HBW.out.trans ((Below.refl _ _).drew.mono HBW.out.size))).mono ?_ | refine (HSV0.out _ HBW.out).mono ?_); rintro e w2 ⟨rfl, hbs⟩; have HBS : Hid (Below W.heap.size W w2) := Hq (by first | exact hbs | exact (Below.refl _ _).drew.trans hbs); clear hbs)
        | fail)
    have hn8 : W8.heap[E]? = some (.cells #[.int .i64 x.pc.no, .int .i64 x.pc.deep, .slice x.pc.s.f.q x.pc.s.f.l.length x.pc.s.f.c, .slice x.pc.s.t.q x.pc.s.t.l.length x.pc.s.t.c, .bool x.pc.s.e, .bool x.n.leaf, .slice x.n.kq x.n.ks.length x.n.kc, .slice x.n.vq x.n.vs.length x.n.vc, .slice x.n.iq x.n.is.length x.n.ic, .int .i64 (x.i : Int), .bool true] 131 (0, 0)) := HKV.out.stay HE2.out rfl
    have hbl8 : Below B w W8 := (HBW.out.mono (Nat.le_trans HBN.out HNW.out)).trans (HST.out.below.mono (Nat.le_trans HBN.out HSN.out))
    have hkp8 : Keeps (ofTr n0 P) w W8 := (Keeps.below HBW.out).trans (HST.out.keeps.mono (maps_ofTr HSN.out))
    have HCB8 : Hid (∃ lq ln lc, CBx W8 cb P sm val fv (.slice lq ln lc) ∧ OwnI W8 n0 (.slice lq ln lc) ls) := Hq ⟨_, _, _, HKV.out.stay (HCB.out.low HBW.out) rfl, row_keeps (HLO.out.below HBW.out) HKV.out⟩
    have HTO8 := Hq ((HTO.out.low HBW.out).maps HKV.out)
    have HNW8 : Hid (n0 ≤ W8.heap.size) := Hq (Nat.le_trans HNW.out hkp8.size)
    have HBL8 := Hq hbl8
    have HKP8 := Hq hkp8
    have HF8 : Hid (∀ e w5, WritePost W8 B P pd n0 (X.lay k (pageB 2 k (X.g + 1) (leafT x ka va (x.i + 1)).put)) seen k e w5 → WritePost w B P pd n0 (X.lay k (pageB 2 k (X.g + 1) (leafT x ka va (x.i + 1)).put)) seen k e w5) := Hq fun e w5 ⟨l, h1, h2, h3, h4, h5, h6⟩ => ⟨l, h1, h2, h3, h4, HBL8.out.trans h5, HKP8.out.trans h6⟩
    clear hbl8 hkp8 HSV0 HVAL HVV
    go_wp2_with fail
    have HX8B := Hq (show W8.heap[E]? = some (.cells #[.int .i64 x.pc.no, .int .i64 x.pc.deep, .slice x.pc.s.f.q x.pc.s.f.l.length x.pc.s.f.c, .slice x.pc.s.t.q x.pc.s.t.l.length x.pc.s.t.c, .bool x.pc.s.e, .bool x.n.leaf, .slice x.n.kq x.n.ks.length x.n.kc, .slice x.n.vq x.n.vs.length x.n.vc, .slice x.n.iq x.n.is.length x.n.ic, .int .i64 (x.i : Int), .bool true] 131 (0, 0)) from hn8)
    have HX : Hid (∀ w', Below W8.heap.size W8 w' → w'.cell? ⟨E, 6, none⟩ = some (.slice x.n.kq x.n.ks.length x.n.kc) ∧ w'.cell? ⟨E, 7, none⟩ = some (.slice x.n.vq x.n.vs.length x.n.vc) ∧ w'.cell? ⟨E, 9, none⟩ = some (.int .i64 (x.i : Int))) := Hq fun w' hb => by
      have e1 := (hb.block E (aL hn8)).trans hn8
      exact ⟨jC e1 6, jC e1 7, jC e1 9⟩
    have HXR : Hid (∀ w' R p q r t, Below W8.heap.size W8 w' → w'.heap[R]? = some (.cells #[.bool false, .slice none 0 0, .slice none 0 0, .slice none 0 0] 106 (0, 0)) → ((((w'.setCell ⟨R, 0, none⟩ p).setCell ⟨R, 1, none⟩ q).setCell ⟨R, 2, none⟩ r).setCell ⟨R, 3, none⟩ t).cell? ⟨E, 6, none⟩ = some (.slice x.n.kq x.n.ks.length x.n.kc) ∧ ((((w'.setCell ⟨R, 0, none⟩ p).setCell ⟨R, 1, none⟩ q).setCell ⟨R, 2, none⟩ r).setCell ⟨R, 3, none⟩ t).cell? ⟨E, 7, none⟩ = some (.slice x.n.vq x.n.vs.length x.n.vc) ∧ ((((w'.setCell ⟨R, 0, none⟩ p).setCell ⟨R, 1, none⟩ q).setCell ⟨R, 2, none⟩ r).setCell ⟨R, 3, none⟩ t).cell? ⟨E, 9, none⟩ = some (.int .i64 (x.i : Int))) := Hq fun w' R p q r t hb hR => by
      have e1 := (hb.block E (aL hn8)).trans hn8
      have hne : E ≠ R := fun e => by
        rw [e, hR] at e1
        simp only [Option.some.injEq, Obj.cells.injEq] at e1
        exact absurd e1.2.1 (by decide)
      have e2 := ((gb4 w' R p q r t).block E (aL e1) (fun e => hne (Option.some.inj e))).trans e1
      exact ⟨jC e2 6, jC e2 7, jC e2 9⟩
    have HSK2 : Hid (∀ w', Below W8.heap.size W8 w' → Calls Tryz.prog 143 #[.slice x.n.kq x.n.ks.length x.n.kc, .int .i64 (x.i : Int), .int .i64 ((x.i : Int) + 1), .slice ka.q ka.l.length ka.c] w' fun e w'' => ∃ q c, e = .returned (.slice q nk c) ∧ KOwn w'' W8.heap.size (.slice q nk c) (turnK x ka (x.i + 1)) ∧ Below w'.heap.size w' w'' ∧ Below W8.heap.size W8 w'') := Hq fun w' hb => (icast x.i ▸ turn_spK (HTO8.out.low hb) HNK.out).mono fun e w'' ⟨q, c, h1, h2, h3⟩ => ⟨q, c, h1, ownsRow_le h2 hb.size, h3, hb.trans (h3.mono hb.size)⟩
    have HSV2 : Hid (∀ w', Below W8.heap.size W8 w' → Calls Tryz.prog 144 #[.slice x.n.vq x.n.vs.length x.n.vc, .int .i64 (x.i : Int), .int .i64 ((x.i : Int) + 1), .slice va.q va.l.length va.c] w' fun e w'' => ∃ q c, e = .returned (.slice q nv c) ∧ VOwn w'' W8.heap.size (.slice q nv c) (turnV x va (x.i + 1)) ∧ Below w'.heap.size w' w'' ∧ Below W8.heap.size W8 w'') := Hq fun w' hb => (icast x.i ▸ turn_spV (HTO8.out.low hb) HNV.out).mono fun e w'' ⟨q, c, h1, h2, h3⟩ => ⟨q, c, h1, ownsRow_le h2 hb.size, h3, hb.trans (h3.mono hb.size)⟩
    have HUP2 : Hid (∀ w' qk dk qv dv, Below W8.heap.size W8 w' → KOwn w' W8.heap.size (.slice qk nk dk) (turnK x ka (x.i + 1)) → VOwn w' W8.heap.size (.slice qv nv dv) (turnV x va (x.i + 1)) → Calls Tryz.prog 142 #[.pointer (some ⟨cb, 0, none⟩), .slice q n c, .agg #[.bool true, .slice qk nk dk, .slice qv nv dv, .slice none 0 0]] w' fun e w'' => e = .returned (.tuple #[.agg #[.bool true, .slice qk nk dk, .slice qv nv dv, .slice none 0 0], .int .i64 0]) ∧ Below w'.heap.size w' w'' ∧ Below W8.heap.size W8 w'') := Hq fun w' qk dk qv dv hb hK hV => by
      have ht := HTO8.out.low hb
      have h := up1_ok (cb := cb) (q := q) (m := n) (c := c) (n := leafN qk dk (turnK x ka (x.i + 1)) qv dv (turnV x va (x.i + 1))) (leafN_ok HNK.out HNV.out hK hV ht.ks ht.vs) rfl HFIT.out.len HFIT.out.cnt HFIT.out.size HN1.out
      have ec : (leafN qk dk (turnK x ka (x.i + 1)) qv dv (turnV x va (x.i + 1))).cell = .agg #[.bool true, .slice qk nk dk, .slice qv nv dv, .slice none 0 0] := by
        show Value.agg #[.bool true, .slice qk (turnK x ka (x.i + 1)).length dk, .slice qv (turnV x va (x.i + 1)).length dv, .slice none 0 0] = _
        rw [← HNK.out, ← HNV.out]
      rw [ec] at h
      exact h.mono fun e w'' ⟨he, hb2⟩ => ⟨he, hb2, hb.trans (hb2.mono hb.size)⟩
    have HWR : Hid (∀ w' qk dk qv dv, Below W8.heap.size W8 w' → KOwn w' W8.heap.size (.slice qk nk dk) (turnK x ka (x.i + 1)) → VOwn w' W8.heap.size (.slice qv nv dv) (turnV x va (x.i + 1)) → Calls Tryz.prog 145 #[.pointer (some ⟨cb, 0, none⟩), .agg #[.bool true, .slice qk nk dk, .slice qv nv dv, .slice none 0 0]] w' (WritePost W8 B P pd n0 (X.lay k (pageB 2 k (X.g + 1) (leafT x ka va (x.i + 1)).put)) seen k)) := Hq fun w' qk dk qv dv hb hK hV => by
      have ht := HTO8.out.low hb
      have hwr := writeG_ok (w := w') (n0 := n0) (P := P) (pd := pd) (sm := sm) (cb := cb) (X := X) (Y := X.lay k (pageB 2 k (X.g + 1) (leafT x ka va (x.i + 1)).put)) (seen := seen) (val := val) (fv := fv) (k := (k : Int)) (ls := ls ++ [(k : Int)]) HBN.out (Nat.le_trans HNW8.out hb.size) (n := leafN qk dk (turnK x ka (x.i + 1)) qv dv (turnV x va (x.i + 1))) HFIT.out.pos (fun w1 hb1 => by
        have hbb := hb.trans (hb1.mono hb.size)
        obtain ⟨lq, ln, lc, c1, c2⟩ := HCB8.out
        exact layLeafG_ok (HLA8.out.below hbb) HPP.out HBN.out (Nat.le_trans HNW8.out hbb.size) (c1.low hbb) (c2.below hbb) HLL.out HCN.out HXL.out (leafN_ok HNK.out HNV.out (row_below hK hb1) (row_below hV hb1) (ht.low hb1).ks (ht.low hb1).vs) rfl rfl HFIT.out.vp HFIT.out.right HFIT.out.cnt HFIT.out.put) HSE.out HDR.out
      have ec : (leafN qk dk (turnK x ka (x.i + 1)) qv dv (turnV x va (x.i + 1))).cell = .agg #[.bool true, .slice qk nk dk, .slice qv nv dv, .slice none 0 0] := by
        show Value.agg #[.bool true, .slice qk (turnK x ka (x.i + 1)).length dk, .slice qv (turnV x va (x.i + 1)).length dv, .slice none 0 0] = _
        rw [← HNK.out, ← HNV.out]
      rw [ec] at hwr
      exact hwr.mono fun e w'' ⟨l, h1, h2, h3, h4, h5, h6⟩ => ⟨l, h1, h2, h3, h4, (hb.mono (Nat.le_trans HBN.out HNW8.out)).trans h5, (Keeps.below hb).trans h6⟩
    clear hn8
    go_region_held3 (fun w' => w'.cell? ⟨E, 6, none⟩ = some (.slice x.n.kq x.n.ks.length x.n.kc) ∧ w'.cell? ⟨E, 7, none⟩ = some (.slice x.n.vq x.n.vs.length x.n.vc) ∧ w'.cell? ⟨E, 9, none⟩ = some (.int .i64 (x.i : Int)))
      (with_reducible first | exact HXR.out _ _ _ _ _ _ HBU.out HRB.out | exact HX.out _ HBU.out | exact HX.out _ (low_alloc HBU.out _) | exact HX.out _ HBF.out | exact HX.out _ (low_alloc HBF.out _) | exact HX.out _ HBK.out | exact HX.out _ (low_alloc HBK.out _) | exact HX.out _ HBV.out | exact HX.out _ (low_alloc HBV.out _) | exact HX.out _ (Below.refl _ _).drew | exact HX.out _ (low_first _ _))
      (first
        | (go_at_call 143; (with_reducible first | refine (HSK2.out _ HBV.out).mono ?_ | refine (HSK2.out _ (low_alloc HBV.out _)).mono ?_); rintro e w2 ⟨qk, dk, rfl, hv2, hb2, hbf⟩; have HFK := Hq hv2; (first | have HFV := Hq (v_carry HVV.out hb2) | have HFV := Hq (v_carrya HVV.out hb2)); have HBF := Hq hbf; (first | have HBOX := Hq (box_carry2 HBOX.out hb2) | have HBOX := Hq (box_new2 HBV.out hb2) | skip); clear hv2 hb2 hbf)
        | (go_at_call 144; (with_reducible first | refine (HSV2.out _ HBK.out).mono ?_ | refine (HSV2.out _ (low_alloc HBK.out _)).mono ?_); rintro e w2 ⟨qv, dv, rfl, hv2, hb2, hbf⟩; have HFV := Hq hv2; (first | have HFK := Hq (k_carry HVK.out hb2) | have HFK := Hq (k_carrya HVK.out hb2)); have HBF := Hq hbf; (first | have HBOX := Hq (box_carry2 HBOX.out hb2) | have HBOX := Hq (box_new2 HBK.out hb2) | skip); clear hv2 hb2 hbf)
        | (go_at_call 143; (with_reducible first | refine (HSK2.out _ (Below.refl _ _).drew).mono ?_ | refine (HSK2.out _ (low_first _ _)).mono ?_); rintro e w2 ⟨qk, dk, rfl, hv2, hb2, hbf⟩; have HVK := Hq hv2; have HBK := Hq hbf; (first | have HBOX := Hq (box_newd2 hb2) | skip); clear hv2 hb2 hbf)
        | (go_at_call 144; (with_reducible first | refine (HSV2.out _ (Below.refl _ _).drew).mono ?_ | refine (HSV2.out _ (low_first _ _)).mono ?_); rintro e w2 ⟨qv, dv, rfl, hv2, hb2, hbf⟩; have HVV := Hq hv2; have HBV := Hq hbf; (first | have HBOX := Hq (box_newd2 hb2) | skip); clear hv2 hb2 hbf)
        | (go_at_call 142; (with_reducible first | refine (HUP2.out _ _ _ _ _ HBF.out HFK.out HFV.out).mono ?_ | refine (HUP2.out _ _ _ _ _ (low_alloc HBF.out _) (k_alloc HFK.out _) (v_alloc HFV.out _)).mono ?_); rintro e w3 ⟨rfl, hb3, hbf⟩; (first | have HUK := Hq (k_carry HFK.out hb3) | have HUK := Hq (k_carrya HFK.out hb3)); (first | have HUV := Hq (v_carry HFV.out hb3) | have HUV := Hq (v_carrya HFV.out hb3)); have HBU := Hq hbf; (first | have hrc := box_carry2 HBOX.out hb3 | have hrc := box_new2 HBF.out hb3 | skip); (first | (obtain ⟨hrb, hrl⟩ := hrc; have HRB := Hq hrb; have HRL := Hq hrl; have r0 := (jC hrb 0).trans rfl; have r1 := (jC hrb 1).trans rfl; have r2 := (jC hrb 2).trans rfl; have r3 := (jC hrb 3).trans rfl; have u0 := jU hrb 0; have u1 := jU hrb 1; have u2 := jU hrb 2; have u3 := jU hrb 3; clear hrb hrl) | skip); clear hb3 hbf)
        | fail)
    all_goals
      have hlow : Below W8.heap.size W8 w3 := HBU.out
      have HLW := Hq hlow
    all_goals
      first
        | (obtain ⟨⟨x0, x1, x2, x3⟩, hk4, hv4, hb4⟩ := turn_end HRB.out HLW.out HRL.out HUK.out HUV.out (.bool true) (.slice qk nk dk) (.slice qv nv dv) (.slice none 0 0)
           have HW4 := Hq (HWR.out _ _ _ _ _ hb4 hk4 hv4)
           clear hk4 hv4 hb4 hlow)
        | (have hnw := heap_alloc_new w3 (.cells #[.bool true, .slice qk nk dk, .slice qv nv dv, .slice none 0 0] 106)
           have x0 := (jC hnw 0).trans rfl
           have x1 := (jC hnw 1).trans rfl
           have x2 := (jC hnw 2).trans rfl
           have x3 := (jC hnw 3).trans rfl
           have HW4 := Hq (HWR.out _ _ _ _ _ (HLW.out.alloc HLW.out.size (.cells #[.bool true, .slice qk nk dk, .slice qv nv dv, .slice none 0 0] 106)) (k_alloc HUK.out _) (v_alloc HUV.out _))
           clear hnw hlow)
    all_goals
      go_wp2_with fail
      refine HW4.out.mono ?_
      rintro e w5 hpost
      obtain ⟨l5, h51, h52, rfl, h53, h54, h55⟩ := HF8.out e w5 hpost
      have H53 := Hq h53
      have H54 := Hq h54
      have H55 := Hq h55
      clear hpost h53 h54 h55
      go_wp2
      go_ret2
      exact ⟨l5, h51, h52, rfl, H53.out, H54.out, H55.out⟩
end
end Go.Proofs.YtbbgdbnjmonbgaaGreatDoor
