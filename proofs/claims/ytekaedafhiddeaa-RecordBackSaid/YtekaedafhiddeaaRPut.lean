/-
  record.fit, appendPut, PutNode, PutEdge: contracts for the walks.
-/
import Derived.Test.YtekaedafhiddeaaRRight
import Derived.Test.YtekaedafhiddeaaPText
import Derived.Test.YtekaedafhiddeaaPInt
import Derived.Test.YtekaedafhiddeaaKPut
import Derived.Deep.RegionHeld3
set_option linter.unusedVariables false
set_option maxRecDepth 100000
namespace Go.Proofs.Ytekaedafhiddeaa
open Go.RowKit

theorem propsK_len : ∀ {l : List Pc}, (∀ p ∈ l, nameOk p.n = true) → (propsK l).length ≤ 8276 * l.length
  | [], _ => by simp [propsK]
  | p :: l, h => by
    have h1 := txt_len p.n (h p (by simp))
    have h2 := putK_len p.a p.l
    have h3 := propsK_len (l := l) fun x hx => h x (by simp [hx])
    simp only [propsK, List.length_append, List.length_cons]
    omega
theorem labsK_len : ∀ {l : List ByteArray}, (∀ s ∈ l, nameOk s = true) → (labsK l).length ≤ 34 * l.length
  | [], _ => by simp [labsK]
  | s :: l, h => by
    have h1 := txt_len s (h s (by simp))
    have h3 := labsK_len (l := l) fun x hx => h x (by simp [hx])
    simp only [labsK, List.length_append, List.length_cons]
    omega
theorem byte_len {n : Nat} (h : n ≤ 16) : (n : Int) = ((UInt8.ofNat n).toNat : Int) := by
  rw [UInt8.toNat_ofNat']
  omega

/-- append(own, bytes...), and what else it keeps. -/
theorem app_ownG {w : World} {ops : Array Oper} {rest : List Oper} {o : Oper} {a : Act} {Q : Exit → Act → World → Prop} (hgd : o.guard = none) (s x : Operand)
    (ho : o.op = .call { callee := .builtin .append, args := #[s, x], argTypes := #[29, 29] })
    {B : Nat} {v : Value} {l m : List UInt8} (hs : a.eval s = v) (hown : Own w B v l) {p : Option Addr} {n c : Nat} (hn : n = m.length) (hx : a.eval x = .slice p n c) (hsrc : Bs w p m) (hp : p = none → c = 0)
    (hlen : l.length + m.length ≤ 140737488355328) (hB : B ≤ w.heap.size)
    (h : ∀ v' w', Own w' B v' (l ++ m) → Below B w w' → w.grownBy w' v.ownBlock → wpList Try.prog ops Q rest (a.put o.dst v') w') : wpList Try.prog ops Q (o :: rest) a w := by
  subst hn
  obtain ⟨i, hi, hz0, hz1, hz2⟩ := info_parts info_u8
  cases p with
  | none =>
    obtain rfl : m = [] := by
      rcases m with _ | ⟨u, m⟩
      · rfl
      · obtain ⟨b, o, hp, _⟩ := hsrc (by simp)
        cases hp
    obtain rfl := hp rfl
    have hx' : a.eval x = .slice none 0 0 := hx
    refine wpList_append_own_none hgd s x _ ho B 5 i 1 Try.underlying29 hi v l.length (u8s l) hs hown hx' ?_
    exact h v w (by simpa using hown) (Below.refl _ _) ⟨rfl, rfl, rfl, Nat.le_refl _, fun _ _ _ => rfl⟩
  | some ad =>
    have hcells : ∀ j u, (u8s m)[j]? = some u → w.cell? (ad.add j) = some u := by
      intro j u hj
      obtain ⟨y, hy, rfl⟩ := u8s_get hj
      obtain ⟨b, o, hp, hc⟩ := hsrc (by intro e; subst e; simp at hy)
      obtain rfl := Option.some.inj hp
      rw [Addr.add_lit]
      exact hc j y hy
    refine wpList_append_own w hgd s x _ ho B 5 i (.int .u8 0) 1 1 Try.underlying29 hi hz0 hz1 hz2 rfl (by decide) v l.length (u8s l) hs hown ad m.length c (u8s m) hx (by simp [u8s]) hcells (u8s_oneCell m) (by simp only [maxLen]; omega) (by omega) hB ?_
    intro v' w' h1 h2 _
    refine h v' w' ?_ (hown.grown (Below.refl _ _) hB h2) h2
    unfold Own
    rw [← u8s_append, List.length_append]
    exact h1
/-- A block made behind a slice of the call's own stays when the slice grows. -/
theorem kept_cell {w0 w w' : World} {B k : Nat} {v : Value} {l : List UInt8} (h : Own w0 B v l) (hg : w.grownBy w' v.ownBlock) (h0 : w0.heap.size ≤ k) (hk : k < w.heap.size) (i : Nat) : w'.cell? ⟨k, i, none⟩ = w.cell? ⟨k, i, none⟩ := by
  refine World.cell?_of_block (hg.block k hk fun e => ?_)
  have := (World.ownsRow.lt h k e.symm).2
  omega

/-- What is told: bytes, and the error. -/
def BPost (w : World) (x : List UInt8 × Int) (e : Ending) (w' : World) : Prop :=
  ∃ v, e = .returned (.tuple #[v, .int .i64 x.2]) ∧ Own w' w.heap.size v x.1 ∧ Below w.heap.size w w'

set_option maxHeartbeats 400000 in
theorem fit_any {w : World} (B : Nat) {v : Value} {l : List UInt8} (h : Own w B v l) :
    Calls Try.prog 26 #[v] w fun e w' => (∃ v', e = .returned (.tuple #[v', .int .i64 (fitK l).2]) ∧ Own w' B v' (fitK l).1) ∧ w = w' := by
  obtain ⟨n, hn⟩ : ∃ n, n = l.length := ⟨_, rfl⟩
  obtain ⟨p, c, rfl, h1, h2, _, _⟩ := h.form hn
  have HO := Lib.hid h
  have HE : Hid (fitK l = if n ≤ 4096 then (l, 0) else ([], 3)) := Lib.hid (by rw [hn]; rfl)
  clear h hn
  generalize fitK l = x at *
  by_cases h4 : n ≤ 4096
  · have HX : Hid (x = (l, 0)) := Lib.hid (by rw [HE.out, if_pos h4])
    clear HE
    go_enter Try.func26, Try.ntmps26
    go_wp2
    go_ret2
    exact ⟨⟨_, by rw [HX.out]; rfl, by rw [HX.out]; exact HO.out⟩, rfl⟩
  · have HX : Hid (x = ([], 3)) := Lib.hid (by rw [HE.out, if_neg h4])
    clear HE
    go_enter Try.func26, Try.ntmps26
    go_wp2
    go_ret2
    exact ⟨⟨_, by rw [HX.out]; rfl, by rw [HX.out]; exact Own.nil _ _⟩, rfl⟩

set_option maxHeartbeats 3200000 in
theorem appendPut_any {w : World} {B : Nat} {v : Value} {b : List UInt8} (hb : Own w B v b) (hB : B ≤ w.heap.size) (hlen : b.length ≤ 1000) {q : Option Addr} {m c : Nat} {l : List Pr} (h : PsOk w q m c l) (h16 : m ≤ 16) (hnm : ∀ p ∈ l.map Pr.c, nameOk p.n = true)
    (hq : ∀ w', Below B w w' → PsOk w' q m c l) :
    Calls Try.prog 27 #[v, .slice q m c] w fun e w' => ∃ v', e = .returned v' ∧ Own w' B v' (b ++ recK (l.map Pr.c)) ∧ Below B w w' := by
  have hst := store_flt
  obtain ⟨n0, hn0⟩ : ∃ n, n = b.length := ⟨_, rfl⟩
  obtain ⟨p0, c0, rfl, g1, g2, _, _⟩ := hb.form hn0
  have HO := Lib.hid hb
  have HQ := Lib.hid hq
  have HN := Lib.hid h.hn
  have HNM := Lib.hid hnm
  have h1 := h.h1
  have h2 := h.h2
  have HBL := Lib.hid (byte_len (n := m) h16)
  have HR : Hid (recK (l.map Pr.c) = UInt8.ofNat m :: propsK (l.map Pr.c)) := Lib.hid (by unfold recK; rw [List.length_map, h.hn])
  have HLEN := Lib.hid hlen
  clear h hb hn0 hq hnm hlen
  go_enter Try.func27, Try.ntmps27
  go_wp2_with (at_builtin; refine app_own rfl (.tmp 7) (.tmp 11) rfl rfl (HO.out.alloc _) (m := [UInt8.ofNat m]) rfl rfl (Bs.one _ _ _ rfl HBL.out) (fun h => by cases h) (by have := HLEN.out; simp; omega) (by simp; omega) ?_; intro v2 w2 ho2 hb2; have HO2 := Lib.hid ho2; have HB2 := Lib.hid (((Below.refl B w).alloc hB _).trans hb2); clear ho2 hb2)
  go_loopw [0, 15] (fun v i wr => ∃ j : Nat, i = .int .i64 j ∧ j ≤ m ∧ Own wr B v (b ++ [UInt8.ofNat m] ++ propsK ((l.map Pr.c).take j)) ∧ Below B w wr) (fun _ i _ => m - (intOf i).toNat)
  case atStart => exact ⟨0, rfl, by omega, by rw [List.take_zero]; simpa [propsK] using HO2.out, HB2.out⟩
  case round =>
    obtain ⟨j, rfl, hj, hown, hb⟩ := hrel
    have HB := Lib.hid hb
    have HOW := Lib.hid hown
    have hle : (b ++ [UInt8.ofNat m] ++ propsK ((l.map Pr.c).take j)).length ≤ 133417 := by
      have h1 := propsK_len (l := (l.map Pr.c).take j) fun x hx => HNM.out x (List.mem_of_mem_take hx)
      have h4 := List.length_take_le j (l.map Pr.c)
      have := HLEN.out
      simp only [List.length_append, List.length_cons, List.length_nil]
      omega
    have HLE := Lib.hid hle
    clear hb hown hle
    by_cases hlt : j < m
    · have hjl : j < l.length := by have := HN.out; omega
      obtain ⟨x, hx⟩ : ∃ x, l[j]? = some x := ⟨_, List.getElem?_eq_getElem hjl⟩
      have hxm : (l.map Pr.c)[j]? = some x.c := by rw [List.getElem?_map, hx]; rfl
      obtain ⟨hok, b0, o0, rfl, hc⟩ := (HQ.out wr HB.out).hl.at hx
      obtain ⟨c0, c1, c2, c3, c4, c5⟩ := hc
      have hblt := PrCells.lt ⟨c0, c1, c2, c3, c4, c5⟩
      have HT := Lib.hid (propsK_take hxm)
      have HNX := Lib.hid (HNM.out x.c (List.mem_of_getElem? hxm))
      have hn16 : x.n.size ≤ 16 := (nameOk_len HNX.out).2
      have HTL : Hid ((txt x.n.data.toList).length ≤ 34) := Lib.hid (txt_len x.n HNX.out)
      have HPL := Lib.hid (putK_len x.v.a x.v.l)
      have HPT : Hid (∀ w', Calls Try.prog 25 #[.slice none 0 0, .string x.n] w' (PutPost w' (txt x.n.data.toList))) := Lib.hid fun w' => putText_any (w := w') (p := none) (l := []) (Bs.nil _ _) 0 0 rfl (by omega) (by omega) (by simp) x.n _ rfl (by omega)
      have HP : Hid (∀ w', Below B w w' → Calls Try.prog 57 #[.slice none 0 0, .agg #[.int .i64 x.v.a.k, .int .i64 x.v.a.n, .float .f64 x.v.a.f, .string x.v.a.s, .slice x.v.q x.v.m x.v.c]] w' (PutPost w' (putK x.v.a x.v.l))) := Lib.hid fun w' hb =>
        keysPut_any (w := w') (p := none) (b := []) (Bs.nil _ _) (n0 := 0) (c0 := 0) rfl (by omega) (by omega) (fun _ => rfl) (by simp) ((HQ.out w' hb).hl.ok x (List.mem_of_getElem? hx)).v
      have HT' : Hid (propsK ((l.map Pr.c).take (j + 1)) = propsK ((l.map Pr.c).take j) ++ txt x.n.data.toList ++ putK x.v.a x.v.l) := HT
      clear hx hjl hok hxm HT HNX
      generalize putK x.v.a x.v.l = X at *
      generalize txt x.n.data.toList = T at *
      obtain ⟨n1, hn1⟩ : ∃ x, x = T.length := ⟨_, rfl⟩
      obtain ⟨n2, hn2⟩ : ∃ x, x = X.length := ⟨_, rfl⟩
      have HN1 := Lib.hid hn1
      have HN2 := Lib.hid hn2
      clear hn1 hn2
      obtain ⟨W, hW⟩ : ∃ W, W = wr.alloc (.cells #[.string x.n, .int .i64 x.v.a.k, .int .i64 x.v.a.n, .float .f64 x.v.a.f, .string x.v.a.s, .slice x.v.q x.v.m x.v.c] 48) := ⟨_, rfl⟩
      have HBW : Hid (Below B w W) := Lib.hid (by rw [hW]; exact HB.out.alloc (by have := HB.out.size; omega) _)
      have HOW1 : Hid (Own W B u0 _) := Lib.hid (by rw [hW]; exact HOW.out.alloc _)
      have HBX : Hid (∀ i : Nat, W.cell? ⟨wr.heap.size, i, none⟩ = #[Value.string x.n, .int .i64 x.v.a.k, .int .i64 x.v.a.n, .float .f64 x.v.a.f, .string x.v.a.s, .slice x.v.q x.v.m x.v.c][i]?) := Lib.hid (by rw [hW]; intro i; exact Joins.cell_of_block (heap_alloc_new wr _) i)
      have hWs : W.heap.size = wr.heap.size + 1 := by rw [hW]; simp
      have HWs := Lib.hid hWs
      clear hWs
      go_wp2_with fail
      rw [← hW]
      replace hW := Lib.hid hW
      refine (HPT.out _).mono ?_
      rintro e w1 ⟨v1, rfl, ho1, hb1⟩
      obtain ⟨p1, d1, rfl, _, _, hs1, hp1⟩ := ho1.form HN1.out
      have HS1 := Lib.hid hs1
      have HP1 := Lib.hid hp1
      have HB1 : Hid (Below B w w1) := Lib.hid (HBW.out.trans (hb1.mono (by have := HBW.out.size; omega)))
      have HO1 := Lib.hid (HOW1.out.below hb1)
      have HBX1 : Hid (∀ i : Nat, w1.cell? ⟨wr.heap.size, i, none⟩ = #[Value.string x.n, .int .i64 x.v.a.k, .int .i64 x.v.a.n, .float .f64 x.v.a.f, .string x.v.a.s, .slice x.v.q x.v.m x.v.c][i]?) := Lib.hid fun i => by rw [hb1.cell (by show wr.heap.size < W.heap.size; have := HWs.out; omega)]; exact HBX.out i
      have HW1 : Hid (wr.heap.size < w1.heap.size) := Lib.hid (by have := HWs.out; have := hb1.size; omega)
      clear hs1 hp1 ho1 hb1 c0 c1 c2 c3 c4 c5 HBX
      go_wp2_with (at_builtin; refine app_ownG rfl (.tmp 19) (.tmp 22) rfl rfl HO1.out HN1.out rfl HS1.out HP1.out (by have := HLE.out; have := HTL.out; omega) (by have := HB1.out.size; omega) ?_; intro v3 w3 ho3 hb3 hg3; have HO3 := Lib.hid ho3; have HB3 : Hid (Below B w w3) := Lib.hid (HB1.out.trans hb3); have HBX3 : Hid (∀ i : Nat, w3.cell? ⟨wr.heap.size, i, none⟩ = #[Value.string x.n, .int .i64 x.v.a.k, .int .i64 x.v.a.n, .float .f64 x.v.a.f, .string x.v.a.s, .slice x.v.q x.v.m x.v.c][i]?) := Lib.hid (fun i => (kept_cell HOW.out hg3 (Nat.le_refl _) HW1.out i).trans (HBX1.out i)); have hb3lt : wr.heap.size < w3.heap.size := Nat.lt_of_lt_of_le HW1.out hb3.size; clear ho3 hb3 hg3; obtain ⟨f1, f2, f3, f4, f5⟩ : _ ∧ _ ∧ _ ∧ _ ∧ _ := ⟨HBX3.out 1, HBX3.out 2, HBX3.out 3, HBX3.out 4, HBX3.out 5⟩; simp only [List.getElem?_toArray, List.getElem?_cons_zero, List.getElem?_cons_succ] at f1 f2 f3 f4 f5)
      refine (HP.out _ HB3.out).mono ?_
      rintro e w4 ⟨v4, rfl, ho4, hb4⟩
      obtain ⟨p4, d4, rfl, _, _, hs4, hp4⟩ := ho4.form HN2.out
      have HS4 := Lib.hid hs4
      have HP4 := Lib.hid hp4
      have HB4 : Hid (Below B w w4) := Lib.hid (HB3.out.trans (hb4.mono (by have := HB3.out.size; omega)))
      have HO4 := Lib.hid (HO3.out.below hb4)
      clear hs4 hp4 ho4 hb4 f1 f2 f3 f4 f5 HBX3 HBX1
      go_wp2_with (at_builtin; refine app_own rfl (.tmp 24) (.tmp 27) rfl rfl HO4.out HN2.out rfl HS4.out HP4.out (by have := HLE.out; have := HTL.out; have := HPL.out; rw [List.length_append]; omega) (by have := HB4.out.size; omega) ?_; intro v5 w5 ho5 hb5; have HO5 := Lib.hid ho5; have HB5 : Hid (Below B w w5) := Lib.hid (HB4.out.trans hb5); clear ho5 hb5)
      go_roundw
      case rel => exact ⟨j + 1, by go_num, by omega, by rw [HT'.out]; have h := HO5.out; rw [List.append_assoc, List.append_assoc] at h; rw [List.append_assoc (propsK _)]; exact h, HB5.out⟩
      case measure => simp [intOf]; omega
    · have hjt : (l.map Pr.c).take j = l.map Pr.c := List.take_of_length_le (by rw [List.length_map]; have := HN.out; omega)
      have HJ := Lib.hid hjt
      clear hjt
      go_wp2
      go_ret
      exact ⟨_, rfl, by rw [HR.out]; have h := HOW.out; rw [HJ.out, List.append_assoc] at h; exact h, HB.out⟩

set_option maxHeartbeats 3200000 in
theorem putNode_any {w : World} (n : Nd) (h : n.Ok w) : Calls Try.prog 7 #[n.cell] w (BPost w (putN n.id n.ls (n.ps.map Pr.c))) := by
  have hst := store_flt
  have HNR : Hid (∀ w', Below w.heap.size w w' → Calls Try.prog 24 #[n.cell] w' fun e w'' => e = .returned (.bool (nodeR n.id n.ls (n.ps.map Pr.c))) ∧ Below w'.heap.size w' w'') := Lib.hid fun w' hb => nodeRight_any n (h.below hb)
  obtain ⟨id, q, m, c, ls, q', m', c', ps⟩ := n
  obtain ⟨i1, i2, hl, hp⟩ := h
  dsimp only [Nd.cell] at *
  have HLS := Lib.hid hl
  have HPS := Lib.hid hp
  have h1 := hl.h1
  have h2 := hl.h2
  have h1' := hp.h1
  have h2' := hp.h2
  have HE : Hid (putN id ls (ps.map Pr.c) = if nodeR id ls (ps.map Pr.c) = true then fitK (nodeK ls (ps.map Pr.c)) else ([], 2)) := Lib.hid rfl
  have HR : Hid (nodeR id ls (ps.map Pr.c) = true → m ≤ 8 ∧ (∀ s ∈ ls, nameOk s = true) ∧ m' ≤ 16 ∧ ∀ p ∈ ps.map Pr.c, nameOk p.n = true) := Lib.hid (by
    intro h
    unfold nodeR at h
    rw [Bool.and_eq_true, Bool.and_eq_true, Bool.and_eq_true, decide_eq_true_eq, riseF_iff, propsR_iff] at h
    obtain ⟨_, g1, g2, g3⟩ := h
    refine ⟨by rw [hl.hn]; exact of_decide_eq_true g1, g2.ok, ?_, fun p hp => g3.ris.ok p.n (List.mem_map.2 ⟨p, hp, rfl⟩)⟩
    have := g3.n16
    rw [List.length_map] at this
    rw [hp.hn]; exact this)
  have HNK : Hid (nodeK ls (ps.map Pr.c) = [UInt8.ofNat m] ++ labsK ls ++ recK (ps.map Pr.c)) := Lib.hid (by unfold nodeK; rw [hl.hn]; simp)
  obtain ⟨W, hW⟩ : ∃ W, W = w.alloc (.cells #[.int .i64 id, .slice q m c, .slice q' m' c'] 25) := ⟨_, rfl⟩
  have HK : Hid (∀ w', Below W.heap.size W w' → w'.cell? ⟨w.heap.size, 0, none⟩ = some (.int .i64 id) ∧ w'.cell? ⟨w.heap.size, 1, none⟩ = some (.slice q m c) ∧ w'.cell? ⟨w.heap.size, 2, none⟩ = some (.slice q' m' c')) := by
    refine Lib.hid fun w' hb => ?_
    rw [hW] at hb
    have h1 := box_all hb
    exact ⟨h1 0, h1 1, h1 2⟩
  have HWB : Hid (∀ w', Below W.heap.size W w' → Below w.heap.size w w') := by
    refine Lib.hid fun w' hb => ?_
    rw [hW] at hb
    exact box_below hb
  have HWs : Hid (W.heap.size = w.heap.size + 1) := Lib.hid (by rw [hW]; simp)
  clear hl hp
  generalize putN id ls (ps.map Pr.c) = x at *
  generalize nodeK ls (ps.map Pr.c) = X at *
  generalize nodeR id ls (ps.map Pr.c) = r at *
  go_enter Try.func7, Try.ntmps7
  go_wp2_with fail
  rw [← hW]
  replace hW := Lib.hid hW
  refine (HNR.out _ (HWB.out _ (Below.refl _ _))).mono ?_
  rintro e w1 ⟨rfl, hb1⟩
  have HB1 := Lib.hid hb1
  obtain ⟨k0, k1, k2⟩ := HK.out _ hb1
  have hw1 : w.heap.size < w1.heap.size := by have := HWs.out; have := hb1.size; omega
  clear hb1 HNR
  cases r
  · have HX : Hid (x = ([], 2)) := Lib.hid (by rw [HE.out, if_neg (by simp)])
    clear HE HR
    go_wp2
    go_ret2
    exact ⟨_, by rw [HX.out]; rfl, by rw [HX.out]; exact Own.nil _ _, HWB.out _ HB1.out⟩
  · have HX : Hid (x = fitK X) := Lib.hid (by rw [HE.out, if_pos rfl])
    obtain ⟨hm8, hln, hm16, hpn⟩ := HR.out (by trivial)
    have HLN := Lib.hid hln
    have HPN := Lib.hid hpn
    have HBL := Lib.hid (byte_len (n := m) (by omega))
    have HSE := HLS.out.ok
    have HSOK := Lib.hid HSE
    clear HE HR hln hpn HSE
    go_wp2_with fail
    go_loopw [4, 18] (fun v i wr => ∃ j : Nat, i = .int .i64 j ∧ j ≤ m ∧ Own wr W.heap.size v ([UInt8.ofNat m] ++ labsK (ls.take j)) ∧ Below W.heap.size W wr) (fun _ i _ => m - (intOf i).toNat)
    case atStart => exact ⟨0, rfl, by omega, Own.built (B := W.heap.size) (l := [UInt8.ofNat m]) rfl HB1.out.size (by show #[Value.int .u8 (m : Int)] = #[Value.int .u8 ((UInt8.ofNat m).toNat : Int)]; rw [← HBL.out]) rfl (by decide), HB1.out.alloc HB1.out.size _⟩
    case round =>
      clear k0 k1 k2
      obtain ⟨j, rfl, hj, hown, hb⟩ := hrel
      have HB := Lib.hid hb
      have HO := Lib.hid hown
      have hle : ([UInt8.ofNat m] ++ labsK (ls.take j)).length ≤ 273 := by
        have h1 := labsK_len (l := ls.take j) fun x hx => HLN.out x (List.mem_of_mem_take hx)
        have h4 := List.length_take_le j ls
        simp only [List.length_append, List.length_cons, List.length_nil]
        omega
      have HLE := Lib.hid hle
      clear hb hown hle
      by_cases hlt : j < m
      · have hjl : j < ls.length := by have := HLS.out.hn; omega
        obtain ⟨s, hs⟩ : ∃ s, ls[j]? = some s := ⟨_, List.getElem?_eq_getElem hjl⟩
        obtain ⟨b0, o0, rfl, hblt, c0⟩ := (HLS.out.hl.below (HWB.out _ HB.out)).at hs
        have hmem := List.mem_of_getElem? hs
        have HNX := Lib.hid (HLN.out s hmem)
        have hn16 : s.size ≤ 16 := (nameOk_len HNX.out).2
        have HTL : Hid ((txt s.data.toList).length ≤ 34) := Lib.hid (txt_len s HNX.out)
        have HT := Lib.hid (labsK_take hs)
        have HPT : Hid (∀ w', Calls Try.prog 25 #[.slice none 0 0, .string s] w' (PutPost w' (txt s.data.toList))) := Lib.hid fun w' => putText_any (w := w') (p := none) (l := []) (Bs.nil _ _) 0 0 rfl (by omega) (by omega) (by simp) s _ rfl (by omega)
        clear hs hjl hmem HNX
        generalize txt s.data.toList = T at *
        obtain ⟨n1, hn1⟩ : ∃ x, x = T.length := ⟨_, rfl⟩
        have HN1 := Lib.hid hn1
        clear hn1
        go_wp2_with fail
        refine (HPT.out _).mono ?_
        rintro e w2 ⟨v2, rfl, ho2, hb2⟩
        obtain ⟨p2, d2, rfl, _, _, hs2, hp2⟩ := ho2.form HN1.out
        have HS2 := Lib.hid hs2
        have HP2 := Lib.hid hp2
        have HB2 : Hid (Below W.heap.size W w2) := Lib.hid (HB.out.trans (hb2.mono HB.out.size))
        have HO2 := Lib.hid (HO.out.below hb2)
        clear hs2 hp2 ho2 hb2 c0
        go_wp2_with (at_builtin; refine app_own rfl (.tmp 22) (.tmp 24) rfl rfl HO2.out HN1.out rfl HS2.out HP2.out (by have := HLE.out; have := HTL.out; omega) HB2.out.size ?_; intro v3 w3 ho3 hb3; have HO3 := Lib.hid ho3; have HB3 : Hid (Below W.heap.size W w3) := Lib.hid (HB2.out.trans hb3); clear ho3 hb3)
        go_roundw
        case rel => exact ⟨j + 1, by go_num, by omega, by rw [HT.out, ← List.append_assoc]; exact HO3.out, HB3.out⟩
        case measure => simp [intOf]; omega
      · have hjt : ls.take j = ls := List.take_of_length_le (by have := HLS.out.hn; omega)
        rw [hjt] at HO HLE
        clear hjt
        obtain ⟨k0, k1, k2⟩ := HK.out _ HB.out
        have hw1 : w.heap.size < wr.heap.size := by have := HWs.out; have := HB.out.size; omega
        have HAP : Hid (Calls Try.prog 27 #[u4, .slice q' m' c'] wr fun e w' => ∃ v', e = .returned v' ∧ Own w' W.heap.size v' ([UInt8.ofNat m] ++ labsK ls ++ recK (ps.map Pr.c)) ∧ Below W.heap.size wr w') :=
          Lib.hid (appendPut_any HO.out HB.out.size (by have := HLE.out; omega) (HPS.out.below (HWB.out _ HB.out)) hm16 HPN.out (fun w' hb => HPS.out.below (HWB.out _ (HB.out.trans hb))))
        rw [← HNK.out] at HAP
        have HFIT : Hid (∀ (w' : World) (v : Value), Own w' W.heap.size v X → _) := Lib.hid fun w' v h => fit_any W.heap.size h
        clear HLE HO
        go_wp2_with fail
        refine HAP.out.mono ?_
        rintro e w2 ⟨v2, rfl, ho2, hb2⟩
        have HO2 := Lib.hid ho2
        have HB2 : Hid (Below W.heap.size W w2) := Lib.hid (HB.out.trans hb2)
        clear ho2 hb2
        go_wp2_with fail
        refine (HFIT.out _ _ HO2.out).mono ?_
        rintro e w3 ⟨⟨v3, rfl, ho3⟩, rfl⟩
        have HO3 := Lib.hid ho3
        clear ho3
        go_wp2
        go_ret2
        exact ⟨_, by rw [HX.out]; rfl, by rw [HX.out]; exact HO3.out.le (by have := HWs.out; omega), HWB.out _ HB2.out⟩

set_option maxHeartbeats 3200000 in
theorem putEdge_any {w : World} (n : Ed) (h : n.Ok w) : Calls Try.prog 10 #[n.cell] w (BPost w (putE n.id n.fr n.to n.t (n.ps.map Pr.c))) := by
  have hst := store_flt
  have HNR : Hid (∀ w', Below w.heap.size w w' → Calls Try.prog 32 #[n.cell] w' fun e w'' => e = .returned (.bool (edgeR n.id n.fr n.to n.t (n.ps.map Pr.c))) ∧ Below w'.heap.size w' w'') := Lib.hid fun w' hb => edgeRight_any n (h.below hb)
  obtain ⟨id, t, fr, to, q, m, c, ps⟩ := n
  obtain ⟨i1, i2, ht, f1, f2, t1, t2, hp⟩ := h
  dsimp only [Ed.cell] at *
  have HPS := Lib.hid hp
  have h1' := hp.h1
  have h2' := hp.h2
  have HE : Hid (putE id fr to t (ps.map Pr.c) = if edgeR id fr to t (ps.map Pr.c) = true then fitK (edgeK fr to t (ps.map Pr.c)) else ([], 2)) := Lib.hid rfl
  have HR : Hid (edgeR id fr to t (ps.map Pr.c) = true → nameOk t = true ∧ m ≤ 16 ∧ ∀ p ∈ ps.map Pr.c, nameOk p.n = true) := Lib.hid (by
    intro h
    unfold edgeR at h
    rw [Bool.and_eq_true, Bool.and_eq_true, Bool.and_eq_true, Bool.and_eq_true, propsR_iff] at h
    obtain ⟨_, _, _, g2, g3⟩ := h
    refine ⟨g2, ?_, fun p hp => g3.ris.ok p.n (List.mem_map.2 ⟨p, hp, rfl⟩)⟩
    have := g3.n16
    rw [List.length_map] at this
    rw [hp.hn]; exact this)
  have HNK : Hid (edgeK fr to t (ps.map Pr.c) = txt t.data.toList ++ be8 (inKey fr) ++ be8 (inKey to) ++ recK (ps.map Pr.c)) := Lib.hid (by unfold edgeK; simp)
  obtain ⟨W, hW⟩ : ∃ W, W = w.alloc (.cells #[.int .i64 id, .string t, .int .i64 fr, .int .i64 to, .slice q m c] 27) := ⟨_, rfl⟩
  have HK : Hid (∀ w', Below W.heap.size W w' → w'.cell? ⟨w.heap.size, 0, none⟩ = some (.int .i64 id) ∧ w'.cell? ⟨w.heap.size, 1, none⟩ = some (.string t) ∧ w'.cell? ⟨w.heap.size, 2, none⟩ = some (.int .i64 fr) ∧ w'.cell? ⟨w.heap.size, 3, none⟩ = some (.int .i64 to) ∧ w'.cell? ⟨w.heap.size, 4, none⟩ = some (.slice q m c)) := by
    refine Lib.hid fun w' hb => ?_
    rw [hW] at hb
    have h1 := box_all hb
    exact ⟨h1 0, h1 1, h1 2, h1 3, h1 4⟩
  have HWB : Hid (∀ w', Below W.heap.size W w' → Below w.heap.size w w') := by
    refine Lib.hid fun w' hb => ?_
    rw [hW] at hb
    exact box_below hb
  have HWs : Hid (W.heap.size = w.heap.size + 1) := Lib.hid (by rw [hW]; simp)
  clear hp
  generalize putE id fr to t (ps.map Pr.c) = x at *
  generalize edgeK fr to t (ps.map Pr.c) = X at *
  generalize edgeR id fr to t (ps.map Pr.c) = r at *
  go_enter Try.func10, Try.ntmps10
  go_wp2_with fail
  rw [← hW]
  replace hW := Lib.hid hW
  refine (HNR.out _ (HWB.out _ (Below.refl _ _))).mono ?_
  rintro e w1 ⟨rfl, hb1⟩
  have HB1 := Lib.hid hb1
  obtain ⟨k0, k1, k2, k3, k4⟩ := HK.out _ hb1
  have hw1 : w.heap.size < w1.heap.size := by have := HWs.out; have := hb1.size; omega
  clear hb1 HNR
  cases r
  · have HX : Hid (x = ([], 2)) := Lib.hid (by rw [HE.out, if_neg (by simp)])
    clear HE HR
    go_wp2
    go_ret2
    exact ⟨_, by rw [HX.out]; rfl, by rw [HX.out]; exact Own.nil _ _, HWB.out _ HB1.out⟩
  · have HX : Hid (x = fitK X) := Lib.hid (by rw [HE.out, if_pos rfl])
    obtain ⟨htn, hm16, hpn⟩ := HR.out (by trivial)
    have HPN := Lib.hid hpn
    have hn16 : t.size ≤ 16 := (nameOk_len htn).2
    have HTL : Hid ((txt t.data.toList).length ≤ 34) := Lib.hid (txt_len t htn)
    have HPT : Hid (∀ w', Calls Try.prog 25 #[.slice none 0 0, .string t] w' (PutPost w' (txt t.data.toList))) := Lib.hid fun w' => putText_any (w := w') (p := none) (l := []) (Bs.nil _ _) 0 0 rfl (by omega) (by omega) (by simp) t _ rfl (by omega)
    have HL1 : Hid ((be8 (inKey fr)).length = 8) := Lib.hid rfl
    have HL2 : Hid ((be8 (inKey to)).length = 8) := Lib.hid rfl
    have HPI : Hid (∀ (w' : World) (p : Option Addr) (n c : Nat) (l : List UInt8), Bs w' p l → n = l.length → n ≤ c → c ≤ 9223372036854775807 → n ≤ 100000 → Calls Try.prog 33 #[.slice p n c, .int .i64 fr] w' (PutPost w' (l ++ be8 (inKey fr)))) := Lib.hid fun w' p n c l hl hn hc hc2 hx => putInt_any hl n c hn hc hc2 (by omega) fr f1 f2
    have HPJ : Hid (∀ (w' : World) (p : Option Addr) (n c : Nat) (l : List UInt8), Bs w' p l → n = l.length → n ≤ c → c ≤ 9223372036854775807 → n ≤ 100000 → Calls Try.prog 33 #[.slice p n c, .int .i64 to] w' (PutPost w' (l ++ be8 (inKey to)))) := Lib.hid fun w' p n c l hl hn hc hc2 hx => putInt_any hl n c hn hc hc2 (by omega) to t1 t2
    clear HE HR hpn htn
    generalize txt t.data.toList = T at *
    generalize be8 (inKey fr) = U at *
    generalize be8 (inKey to) = V at *
    obtain ⟨n2, hn2⟩ : ∃ x, x = T.length := ⟨_, rfl⟩
    obtain ⟨n3, hn3⟩ : ∃ x, x = (T ++ U).length := ⟨_, rfl⟩
    have hb3 : n2 ≤ 34 ∧ n3 ≤ 42 := by have := HTL.out; have := HL1.out; rw [List.length_append] at hn3; omega
    obtain ⟨hb2, hb3⟩ := hb3
    have HN2 := Lib.hid hn2
    have HN3 := Lib.hid hn3
    clear hn2 hn3
    go_wp2_with fail
    go_region_held3 (fun w' => w'.cell? ⟨w.heap.size, 0, none⟩ = some (.int .i64 id) ∧ w'.cell? ⟨w.heap.size, 1, none⟩ = some (.string t) ∧ w'.cell? ⟨w.heap.size, 2, none⟩ = some (.int .i64 fr) ∧ w'.cell? ⟨w.heap.size, 3, none⟩ = some (.int .i64 to) ∧ w'.cell? ⟨w.heap.size, 4, none⟩ = some (.slice q m c))
      (first | exact HK.out _ HB1.out.drew | exact HK.out _ HB4.out | exact HK.out _ HB3.out | exact HK.out _ HB2.out)
      (first
        | (go_at_call 33; refine (HPJ.out _ _ _ _ _ HS3.out HN3.out HC3.out HD3.out (by omega)).mono ?_; rintro e w4 ⟨v4, rfl, ho4, hb4⟩; have HB4 : Hid (Below W.heap.size W w4) := Lib.hid (HB3.out.trans (hb4.mono HB3.out.size)); have HO4 := Lib.hid (ho4.le (B' := W.heap.size) HB3.out.size); clear ho4 hb4)
        | (go_at_call 33; refine (HPI.out _ _ _ _ _ HS2.out HN2.out HC2.out HD2.out (by omega)).mono ?_; rintro e w3 ⟨v3, rfl, ho3, hb3'⟩; have HB3 : Hid (Below W.heap.size W w3) := Lib.hid (HB2.out.trans (hb3'.mono HB2.out.size)); obtain ⟨p3, d3, rfl, hc3, hd3, hs3, _⟩ := ho3.form HN3.out; have HS3 := Lib.hid hs3; have HC3 := Lib.hid hc3; have HD3 := Lib.hid hd3; clear ho3 hb3' hs3 hc3 hd3)
        | (go_at_call 25; refine (HPT.out _).mono ?_; rintro e w2 ⟨v2, rfl, ho2, hb2'⟩; have HB2 : Hid (Below W.heap.size W w2) := Lib.hid (HB1.out.drew.trans (hb2'.mono HB1.out.drew.size)); obtain ⟨p2, d2, rfl, hc2, hd2, hs2, _⟩ := ho2.form HN2.out; have HS2 := Lib.hid hs2; have HC2 := Lib.hid hc2; have HD2 := Lib.hid hd2; clear ho2 hb2' hs2 hc2 hd2))
    clear k0 k1 k2 k3 k4
    obtain ⟨k0, k1, k2, k3, k4⟩ := HK.out _ HB4.out
    have hw4 : w.heap.size < w4.heap.size := by have := HWs.out; have := HB4.out.size; omega
    have HAP : Hid (Calls Try.prog 27 #[v4, .slice q m c] w4 fun e w' => ∃ v', e = .returned v' ∧ Own w' W.heap.size v' (T ++ U ++ V ++ recK (ps.map Pr.c)) ∧ Below W.heap.size w4 w') :=
      Lib.hid (appendPut_any HO4.out HB4.out.size (by have := HTL.out; have := HL1.out; have := HL2.out; simp only [List.length_append]; omega) (HPS.out.below (HWB.out _ HB4.out)) hm16 HPN.out (fun w' hb => HPS.out.below (HWB.out _ (HB4.out.trans hb))))
    rw [← HNK.out] at HAP
    have HFIT : Hid (∀ (w' : World) (v : Value), Own w' W.heap.size v X → _) := Lib.hid fun w' v h => fit_any W.heap.size h
    clear HO4
    go_wp2_with fail
    refine HAP.out.mono ?_
    rintro e w5 ⟨v5, rfl, ho5, hb5⟩
    have HO5 := Lib.hid ho5
    have HB5 : Hid (Below W.heap.size W w5) := Lib.hid (HB4.out.trans hb5)
    clear ho5 hb5
    go_wp2_with fail
    refine (HFIT.out _ _ HO5.out).mono ?_
    rintro e w6 ⟨⟨v6, rfl, ho6⟩, rfl⟩
    have HO6 := Lib.hid ho6
    clear ho6
    go_wp2
    go_ret2
    exact ⟨_, by rw [HX.out]; rfl, by rw [HX.out]; exact HO6.out.le (by have := HWs.out; omega), HWB.out _ HB5.out⟩

end Go.Proofs.Ytekaedafhiddeaa
