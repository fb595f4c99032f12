/-
  tree.
  slices.Grow of nil.
-/
import Derived.Test.YtbbgdbnjmonbgaaGreatDoorH00
import Derived.Test.YtbbgdbnjmonbgaaGreatDoorH20
import Derived.LoopTactic
import Derived.Lib.AppendZeros
import Derived.Deep.RegionHeld3
set_option linter.unusedVariables false
set_option linter.unusedSimpArgs false
set_option maxRecDepth 100000
namespace Go.Proofs.YtbbgdbnjmonbgaaGreatDoor
open Go.RowKit
structure Kb.T (w : World) (x : Kb) : Prop where
 ok : x.Ok w
 ty : x.Ty w
structure Sp.T (w : World) (s : Sp) : Prop where
 f : s.f.T w
 t : s.t.T w
theorem Kb.zero_t (w : World) : Kb.zero.T w := ⟨Kb.zero_ok w, fun a h => by cases h⟩
theorem Sp.zero_t (w : World) : Sp.zero.T w := ⟨Kb.zero_t w, Kb.zero_t w⟩
theorem Sp.T.ok {w : World} {s : Sp} (h : s.T w) : s.Ok w := ⟨h.f.ok, h.t.ok⟩
def KeepsU (w w' : World) : Prop := ∀ (b : Nat) (c : Array Value) (f : Nat × Nat), w.heap[b]? = some (.cells c 5 f) → w'.heap[b]? = some (.cells c 5 f)
theorem KeepsU.bs {w w' : World} (h : KeepsU w w') {q : Option Addr} {l : List UInt8} (hb : Bs w q l) (ht : ∀ a, q = some a → U8 w a.block) : Bs w' q l := by
 intro hne
 obtain ⟨b, o, hq, hc⟩ := hb hne
 obtain ⟨c, f, hx⟩ := ht _ hq
 have hx' := h b c f hx
 refine ⟨b, o, hq, fun i u hi => ?_⟩
 rw [jC hx']
 rw [← jC hx]
 exact hc i u hi
theorem KeepsU.u8 {w w' : World} (h : KeepsU w w') {b : Nat} (hb : U8 w b) : U8 w' b := by
 obtain ⟨c, f, hb⟩ := hb
 exact ⟨c, f, h b c f hb⟩
theorem Kb.T.keeps {w w' : World} {x : Kb} (h : x.T w) (hk : KeepsU w w') : x.T w' := ⟨⟨hk.bs h.ok.bs h.ty, h.ok.h1, h.ok.h2, h.ok.z⟩, fun a ha => hk.u8 (h.ty a ha)⟩
theorem Sp.T.keeps {w w' : World} {s : Sp} (h : s.T w) (hk : KeepsU w w') : s.T w' := ⟨h.f.keeps hk, h.t.keeps hk⟩
structure KeepsN (w w' : World) : Prop where
 u : KeepsU w w'
 k : ∀ (b : Nat) (c : Array Value) (f : Nat × Nat), w.heap[b]? = some (.cells c 33 f) → w'.heap[b]? = some (.cells c 33 f)
 v : ∀ (b : Nat) (c : Array Value) (f : Nat × Nat), w.heap[b]? = some (.cells c 108 f) → w'.heap[b]? = some (.cells c 108 f)
 i : ∀ (b : Nat) (c : Array Value) (f : Nat × Nat), w.heap[b]? = some (.cells c 3 f) → w'.heap[b]? = some (.cells c 3 f)
theorem KeepsN.maps {bs : List Nat} {w w' : World} (h : Keeps (isMaps bs) w w') : KeepsN w w' := ⟨fun _ _ _ hb => h.stay hb rfl, fun _ _ _ hb => h.stay hb rfl, fun _ _ _ hb => h.stay hb rfl, fun _ _ _ hb => h.stay hb rfl⟩
theorem KeepsN.row {w w' : World} {r : Option Nat} (hg : w.grownBy w' r) (hr : ∀ g, r = some g → ∃ c t f, w.heap[g]? = some (.cells c t f) ∧ (t ≠ 5 ∧ t ≠ 33 ∧ t ≠ 108 ∧ t ≠ 3)) : KeepsN w w' := by
 have aux : ∀ {t0 : TypeId}, (∀ {t : TypeId}, (t ≠ 5 ∧ t ≠ 33 ∧ t ≠ 108 ∧ t ≠ 3) → t ≠ t0) → ∀ (b : Nat) (c : Array Value) (f : Nat × Nat), w.heap[b]? = some (.cells c t0 f) → w'.heap[b]? = some (.cells c t0 f) := fun {t0} h0 b c f hb => by
  rw [hg.block b (aL hb) (fun e => by
   obtain ⟨c', t, f', h1, h2⟩ := hr b e.symm
   rw [h1] at hb
   cases hb
   exact h0 h2 rfl)]
  exact hb
 exact ⟨aux fun h => h.1, aux fun h => h.2.1, aux fun h => h.2.2.1, aux fun h => h.2.2.2⟩
theorem ownsRow_keeps {w w' : World} {B size n : Nat} {e : TypeId} {v : Value} {xs : List Value} (h : w.ownsRow B e size v n xs) (hk : ∀ (b : Nat) (c : Array Value) (f : Nat × Nat), w.heap[b]? = some (.cells c e f) → w'.heap[b]? = some (.cells c e f)) : w'.ownsRow B e size v n xs := by
 refine ⟨h.1, ?_⟩
 rcases h.2 with h0 | ⟨g, cap, cur, hv, h1, hg, h2⟩
 ·
  exact .inl h0
 ·
  exact .inr ⟨g, cap, cur, hv, h1, hk _ _ _ hg, h2⟩
theorem NOwn.keeps {w w' : World} {n : Nd} (h : NOwn w n) (hk : KeepsN w w') : NOwn w' n := by
 obtain ⟨_, ko⟩ := h.ko
 obtain ⟨_, vo⟩ := h.vo
 obtain ⟨_, io⟩ := h.io
 exact ⟨⟨_, ownsRow_keeps ko hk.k⟩, ⟨_, ownsRow_keeps vo hk.v⟩, ⟨_, ownsRow_keeps io hk.i⟩, fun x hx => ⟨⟨hk.u.bs (h.ki x hx).1.bs (h.ki x hx).2, (h.ki x hx).1.h1, (h.ki x hx).1.h2, (h.ki x hx).1.z⟩, fun a ha => hk.u.u8 ((h.ki x hx).2 a ha)⟩,
  fun x hx => ⟨⟨hk.u.bs (h.vi x hx).1.bs (h.vi x hx).2, (h.vi x hx).1.h1, (h.vi x hx).1.h2, (h.vi x hx).1.z, (h.vi x hx).1.g1, (h.vi x hx).1.g2, (h.vi x hx).1.p1, (h.vi x hx).1.p2⟩, fun a ha => hk.u.u8 ((h.vi x hx).2 a ha)⟩, h.ii⟩
theorem NOwn.kt {w : World} {n : Nd} (h : NOwn w n) {x : Kb} (hx : x ∈ n.ks) : x.T w := ⟨(h.ki x hx).1, (h.ki x hx).2⟩
structure St where
 pc : Pc
 n : Nd
 i : Nat
 th : Bool
structure StS where
 no : Int
 deep : Int
 sp : SpS
 n : NdS
 i : Nat
 th : Bool
def St.s (x : St) : StS := ⟨x.pc.no, x.pc.deep, x.pc.s.s, x.n.s, x.i, x.th⟩
def St.cells (x : St) : List Value := [.int .i64 x.pc.no, .int .i64 x.pc.deep, .slice x.pc.s.f.q x.pc.s.f.l.length x.pc.s.f.c, .slice x.pc.s.t.q x.pc.s.t.l.length x.pc.s.t.c, .bool x.pc.s.e, .bool x.n.leaf, .slice x.n.kq x.n.ks.length x.n.kc, .slice x.n.vq x.n.vs.length x.n.vc, .slice x.n.iq x.n.is.length x.n.ic, .int .i64 (x.i : Int), .bool x.th]
structure St.Ok (w : World) (x : St) : Prop where
 s : x.pc.s.T w
 n : NOwn w x.n
theorem St.Ok.keeps {w w' : World} {x : St} (h : x.Ok w) (hk : KeepsN w w') : x.Ok w' := ⟨h.s.keeps hk.u, h.n.keeps hk⟩
def stCells : List St → List Value
 | [] => []
 | x :: l => x.cells ++ stCells l
theorem stCells_append : ∀ l m : List St, stCells l ++ stCells m = stCells (l ++ m)
 | [], m => rfl
 | a :: l, m => by simp only [stCells, List.cons_append, List.append_assoc, stCells_append l m]
theorem stCells_get : ∀ {l : List St} {i : Nat} {a : St}, l[i]? = some a → ∀ j, j < 11 → (stCells l)[i * 11 + j]? = a.cells[j]?
 | [], i, a, h, j, hj => by simp at h
 | b :: l, 0, a, h, j, hj => by
  simp only [List.getElem?_cons_zero, Option.some.injEq] at h
  subst h
  rw [stCells, Nat.zero_mul, Nat.zero_add, List.getElem?_append_left (by simp [St.cells]; omega)]
 | b :: l, i + 1, a, h, j, hj => by
  have hb : b.cells.length = 11 := rfl
  rw [stCells, List.getElem?_append_right (by rw [hb]; omega), hb, show (i + 1) * 11 + j - 11 = i * 11 + j by omega]
  exact stCells_get (l := l) (i := i) (a := a) (by simpa using h) j hj
def SOwn (w : World) (B : Nat) (v : Value) (l : List St) : Prop := w.ownsRow B 131 11 v l.length (stCells l)
theorem info_step : (Tryz.prog.info? 131).map (fun i => (i.zero, i.size, i.bytes)) = some (some (.agg #[.int .i64 0, .int .i64 0, .slice none 0 0, .slice none 0 0, .bool false, .bool false, .slice none 0 0, .slice none 0 0, .slice none 0 0, .int .i64 0, .bool false]), 11, 168) := by kernel_rfl
theorem app_st {w : World} {ops : Array Oper} {rest : List Oper} {o : Oper} {a : Act} {Q : Exit → Act → World → Prop} (hgd : o.guard = none) (s x : Operand)
  (ho : o.op = .call { callee := .builtin .append, args := #[s, x], argTypes := #[125, 125] })
  {B : Nat} {v : Value} {l : List St} (u : St) (hs : a.eval s = v) (hown : SOwn w B v l) {b c : Nat} (hx : a.eval x = .slice (some ⟨b, 0, none⟩) 1 c) {fr : Nat × Nat} {t : TypeId} (h0 : w.heap[b]? = some (.cells u.cells.toArray t fr)) (hlen : l.length ≤ 100000) (hB : B ≤ w.heap.size)
  (h : ∀ q n c' w', n = (l ++ [u]).length → SOwn w' B (.slice q n c') (l ++ [u]) → w.grownBy w' v.ownBlock → wpList Tryz.prog ops Q rest (a.put o.dst (.slice q n c')) w') : wpList Tryz.prog ops Q (o :: rest) a w := by
 obtain ⟨i, hi, hz0, hz1, hz2⟩ := info_parts info_step
 have e1 : stCells [u] = u.cells := by simp [stCells]
 refine wpList_append_own w hgd s x _ ho B 131 i _ 11 168 Tryz.underlying125 hi hz0 hz1 hz2 rfl (by decide) v l.length (stCells l) hs hown ⟨b, 0, none⟩ 1 c (stCells [u]) hx rfl
  (fun j y hj => by
   rw [Addr.add_lit, Nat.zero_add, jC h0]
   rw [e1] at hj
   rw [List.getElem?_toArray]
   exact hj) (fun y hy => by rw [e1] at hy; simp only [St.cells, List.mem_cons, List.not_mem_nil, or_false] at hy; rcases hy with rfl | rfl | rfl | rfl | rfl | rfl | rfl | rfl | rfl | rfl | rfl <;> rfl) (by simp only [maxLen]; omega) (by omega) hB ?_
 intro v' w' h1 h2 _
 have h1' : SOwn w' B v' (l ++ [u]) := by
  unfold SOwn
  rw [List.length_append, ← stCells_append]
  exact h1
 obtain ⟨q, c', rfl, _⟩ := row_form h1'
 exact h q _ c' w' rfl h1' h2
theorem SOwn.blk {w : World} {B : Nat} {v : Value} {l : List St} (h : SOwn w B v l) : ∀ g, v.ownBlock = some g → B ≤ g ∧ ∃ c f, w.heap[g]? = some (.cells c 131 f) := by
 rcases h.2 with ⟨rfl, _⟩ | ⟨g, cap, cur, rfl, hb, hg, _⟩
 ·
  intro g h; cases h
 ·
  intro g' e; cases e; exact ⟨hb, _, _, hg⟩
end Go.Proofs.YtbbgdbnjmonbgaaGreatDoor

set_option linter.unusedVariables false
set_option linter.unusedSimpArgs false
set_option maxRecDepth 100000
namespace Go.Proofs.YtbbgdbnjmonbgaaGreatDoor
open Go.RowKit
theorem kCells_length (l : List Kb) : (kCells l).length = l.length * 1 := by simp [kCells]
theorem kCells_append (l m : List Kb) : kCells l ++ kCells m = kCells (l ++ m) := by simp [kCells]
theorem kCells_one (l : List Kb) : ∀ y ∈ kCells l, y.oneCell' = true := fun y hy => by
 obtain ⟨x, _, rfl⟩ := List.mem_map.1 hy
 rfl
theorem vCells_one : ∀ (l : List Vl), ∀ y ∈ vCells l, y.oneCell' = true
 | [], y, hy => by cases hy
 | a :: l, y, hy => by
  simp only [vCells, List.mem_cons] at hy
  rcases hy with rfl | rfl | rfl | hy
  ·
   rfl
  ·
   rfl
  ·
   rfl
  ·
   exact vCells_one l y hy
theorem ks_cells {w : World} {ad : Addr} {l : List Kb} (h : Kbs w (some ad) l) : ∀ (j : Nat) y, (kCells l)[j]? = some y → w.cell? (ad.add j) = some y := fun j y hj => by
 unfold kCells at hj
 rw [List.getElem?_map] at hj
 cases hx : l[j]? with
 | none => rw [hx] at hj; cases hj
 | some x =>
  rw [hx] at hj
  cases hj
  obtain ⟨b, o, hp, _, hc⟩ := h.at hx
  obtain rfl := Option.some.inj hp
  rw [Addr.add_lit]
  exact hc
theorem vs_cells {w : World} {ad : Addr} {l : List Vl} (h : Vls w (some ad) l) : ∀ (j : Nat) y, (vCells l)[j]? = some y → w.cell? (ad.add j) = some y := fun j y hj => by
 have hlt : j < l.length * 3 := by
  have := (List.getElem?_eq_some_iff.1 hj).1
  rwa [vCells_length] at this
 obtain ⟨x, hx⟩ : ∃ x, l[j / 3]? = some x := ⟨_, List.getElem?_eq_getElem (by omega)⟩
 obtain ⟨b, o, hp, _, h0, h1, h2⟩ := h.at hx
 obtain rfl := Option.some.inj hp
 obtain ⟨g0, g1, g2⟩ := vCells_get hx
 rw [Addr.add_lit]
 rcases (by omega : j = j / 3 * 3 ∨ j = j / 3 * 3 + 1 ∨ j = j / 3 * 3 + 2) with e | e | e
 ·
  rw [e, g0] at hj; rw [e]; cases hj; exact h0
 ·
  rw [e, g1] at hj; rw [e]; cases hj; exact h1
 ·
  rw [e, g2] at hj; rw [e]; cases hj; exact h2
theorem app_slK {w : World} {ops : Array Oper} {rest : List Oper} {o : Oper} {a : Act} {Q : Exit → Act → World → Prop} (hgd : o.guard = none) (s x : Operand)
  (ho : o.op = .call { callee := .builtin .append, args := #[s, x], argTypes := #[103, 103] })
  {B : Nat} {v : Value} {l m : List Kb} (hs : a.eval s = v) (hown : KOwn w B v l) {p : Option Addr} {n c : Nat} (hn : n = m.length) (hx : a.eval x = .slice p n c) (hsrc : Kbs w p m) (hp : p = none → c = 0)
  (hlen : l.length + m.length ≤ 1000000) (hB : B ≤ w.heap.size)
  (h : ∀ v' w', KOwn w' B v' (l ++ m) → w.grownBy w' v.ownBlock → wpList Tryz.prog ops Q rest (a.put o.dst v') w') : wpList Tryz.prog ops Q (o :: rest) a w := by
 subst hn
 obtain ⟨i, hi, hz0, hz1, hz2⟩ := info_parts info_key
 cases p with
 | none =>
  obtain rfl : m = [] := by
   rcases m with _ | ⟨u, m⟩
   ·
    rfl
   ·
    obtain ⟨b, o, hp, _⟩ := hsrc (by simp)
    cases hp
  obtain rfl := hp rfl
  have hx' : a.eval x = .slice none 0 0 := hx
  refine wpList_append_own_none hgd s x _ ho B 33 i 1 Tryz.underlying103 hi v l.length (kCells l) hs hown hx' ?_
  exact h v w (by simpa using hown) ⟨rfl, rfl, rfl, Nat.le_refl _, fun _ _ _ => rfl⟩
 | some ad =>
  refine wpList_append_own w hgd s x _ ho B 33 i _ 1 24 Tryz.underlying103 hi hz0 hz1 hz2 rfl (by decide) v l.length (kCells l) hs hown ad m.length c (kCells m) hx (kCells_length m) (ks_cells hsrc) (kCells_one m) (by simp only [maxLen]; omega) (by omega) hB ?_
  intro v' w' h1 h2 _
  refine h v' w' ?_ h2
  unfold KOwn
  rw [List.length_append, ← kCells_append]
  exact h1
set_option maxHeartbeats 1600000 in
theorem growK {w : World} {n : Nat} (hn : n ≤ 1000000) : Calls Tryz.prog 180 #[.slice none 0 0, .int .i64 (n : Int)] w fun e w' => ∃ v, e = .returned v ∧ KOwn w' w.heap.size v [] ∧ Below w.heap.size w w' := by
 by_cases h0 : n = 0
 ·
  subst h0
  go_enter Tryz.func180, Tryz.ntmps180
  go_wp2
  go_ret
  exact ⟨_, rfl, World.ownsRow_nil _ _ _ _, Below.refl _ _⟩
 ·
  obtain ⟨i, hi, hz0, hz1, hz2⟩ := info_parts info_key
  have hr := Lib.run_append_nil_zeros (P := Tryz.prog) w 103 3 103 33 i _ .i64 .i64 Tryz.underlying103 Tryz.underlying3 hi hz0 n (by omega) (by rw [hz1]; decide) (by omega) (by rw [hz2]; omega)
  have hge := grownCap_ge w n 0 33
  have hcm := grownCap_le_maxLen w n 0 33 (by unfold maxLen; omega)
  generalize grownCap w n 0 33 = G at hr hge hcm
  have hown : Hid (KOwn (w.drew.alloc (.cells (Builtin.zeroCells (.slice none 0 0 : Value).cells n ++ Builtin.zeroCells (.slice none 0 0 : Value).cells (G - n)) 33)) w.heap.size (.slice (some ⟨w.heap.size, 0, none⟩) 0 G) []) := Hq (by
   refine ⟨rfl, .inr ⟨w.heap.size, G, _, rfl, Nat.le_refl _, heap_alloc_new w.drew _, Nat.zero_le _, hcm, ?_, by simp [kCells]⟩⟩
   rw [Array.size_append, size_zeroCells, size_zeroCells]
   show n * 1 + (G - n) * 1 = G * 1
   omega)
  have hbel : Hid (Below w.heap.size w (w.drew.alloc (.cells (Builtin.zeroCells (.slice none 0 0 : Value).cells n ++ Builtin.zeroCells (.slice none 0 0 : Value).cells (G - n)) 33))) := Hq ((Below.refl w.heap.size w).drew.alloc (Nat.le_refl _) _)
  generalize w.drew.alloc (.cells (Builtin.zeroCells (.slice none 0 0 : Value).cells n ++ Builtin.zeroCells (.slice none 0 0 : Value).cells (G - n)) 33) = w1 at hr hown hbel
  have b1 : (0 : Int) < (n : Int) := by omega
  have b2 : IntKind.i64.wrap (n : Int) = (n : Int) := by rw [IntKind.wrap_i64]; omega
  have hG : G ≤ 9223372036854775807 := by unfold maxLen at hcm; omega
  clear hi hz0 hz1 hz2 hcm
  go_enter Tryz.func180, Tryz.ntmps180
  go_wp2_with (at_builtin; refine Lib.wpList_append_run _ rfl (.tmp 20) (.tmp 21) 103 3 rfl _ _ rfl rfl _ _ hr ?_)
  go_ret
  exact ⟨_, rfl, hown.out, hbel.out⟩
structure SlK where
 q : Option Addr
 c : Nat
 l : List Kb
structure SlK.Ok (w : World) (x : SlK) : Prop where
 at_ : Kbs w x.q x.l
 h1 : x.l.length ≤ x.c
 h2 : x.c ≤ 9223372036854775807
 z : x.q = none → x.c = 0
def totK : List SlK → Nat
 | [] => 0
 | x :: L => x.l.length + totK L
theorem totK_take : ∀ {L : List SlK} {j : Nat} {x : SlK}, L[j]? = some x → totK (L.take (j + 1)) = totK (L.take j) + x.l.length ∧ totK (L.take (j + 1)) ≤ totK L
 | y :: L, 0, x, h => by
  simp only [List.getElem?_cons_zero, Option.some.injEq] at h
  subst h
  simp [totK]
 | y :: L, j + 1, x, h => by
  obtain ⟨h1, h2⟩ := totK_take (L := L) (j := j) (x := x) (by simpa using h)
  simp only [List.take_succ_cons, totK] at h1 h2 ⊢
  omega
 | [], j, x, h => by simp at h
theorem totK_flat : ∀ (L : List SlK), (L.flatMap SlK.l).length = totK L
 | [] => rfl
 | x :: L => by rw [List.flatMap_cons, List.length_append, totK_flat L]; rfl
theorem SlK.Ok.below {w w' : World} {x : SlK} (h : x.Ok w) (hb : Below w.heap.size w w') : x.Ok w' := ⟨h.at_.below hb, h.h1, h.h2, h.z⟩
set_option maxHeartbeats 3200000 in
theorem concatK {w : World} {b m : Nat} {L : List SlK} (hm : m = L.length) (hm0 : m ≤ 1000) (hc : ∀ i x, L[i]? = some x → w.cell? ⟨b, i, none⟩ = some (.slice x.q x.l.length x.c)) (ho : ∀ x ∈ L, x.Ok w) (ht : totK L ≤ 100000) :
  Calls Tryz.prog 162 #[.slice (some ⟨b, 0, none⟩) m m] w fun e w' => ∃ v, e = .returned v ∧ KOwn w' w.heap.size v (L.flatMap SlK.l) ∧ Below w.heap.size w w' := by
 have HM := Hq hm
 have HC := Hq hc
 have HO := Hq ho
 have HT := Hq ht
 clear hm hc ho ht
 go_enter Tryz.func162, Tryz.ntmps162
 go_wp2
 go_loopw [3, 11] (fun t i wr => ∃ j : Nat, i = .int .i64 j ∧ t = .int .i64 (totK (L.take j) : Nat) ∧ j ≤ m ∧ wr = w) (fun _ i _ => m - (intOf i).toNat)
 case atStart => exact ⟨0, rfl, rfl, Nat.zero_le _, rfl⟩
 case round =>
  obtain ⟨j, rfl, rfl, hj, hwr⟩ := hrel
  obtain rfl : w = wr := hwr.symm
  clear hwr
  by_cases hlt : j < m
  ·
   obtain ⟨x, hx⟩ : ∃ x, L[j]? = some x := ⟨_, List.getElem?_eq_getElem (by have := HM.out; omega)⟩
   have c0 := HC.out j x hx
   obtain ⟨t1, t2⟩ := totK_take hx
   have hti : (j : Int) < (m : Int) := by omega
   have ht3 := HT.out
   obtain ⟨T0, hT0⟩ : ∃ y, y = totK (L.take j) := ⟨_, rfl⟩
   obtain ⟨T1, hT1⟩ : ∃ y, y = totK (L.take (j + 1)) := ⟨_, rfl⟩
   rw [← hT0, ← hT1] at t1
   rw [← hT1] at t2
   have HT1 := Hq hT1
   rw [← hT0]
   have hxl := (HO.out x (List.mem_of_getElem? hx)).h1
   obtain ⟨xn, hxn⟩ : ∃ y, y = x.l.length := ⟨_, rfl⟩
   rw [← hxn] at t1 c0 hxl
   have hsum : (T0 : Int) + (xn : Int) = (T1 : Int) := by omega
   have hT1b : T1 ≤ 100000 := by omega
   have hneg : decide ((T1 : Int) < 0) = false := decide_eq_false (by omega)
   clear hx hT0 hT1 t2 ht3 hxn t1
   go_wp2
   go_roundw
   case rel => exact ⟨j + 1, by go_num, by rw [← HT1.out], by omega, by trivial⟩
   case measure => simp [intOf]; omega
  ·
   have hjm : j = m := by omega
   subst hjm
   have hall : Hid (L.take j = L) := Hq (List.take_of_length_le (by have := HM.out; omega))
   have HG := Hq (growK (w := w) (n := totK (L.take j)) (by rw [hall.out]; have := HT.out; omega))
   go_wp2_with fail
   refine HG.out.mono ?_
   rintro e w1 ⟨v, rfl, hv, hb⟩
   have HV := Hq hv
   have HB := Hq hb
   clear hv hb HG
   go_wp2
   go_loopw [6, 27] (fun u i w2 => ∃ j' : Nat, i = .int .i64 j' ∧ j' ≤ j ∧ KOwn w2 w.heap.size u ((L.take j').flatMap SlK.l) ∧ Below w.heap.size w w2) (fun _ i _ => j - (intOf i).toNat)
   case atStart => exact ⟨0, rfl, Nat.zero_le _, HV.out, HB.out⟩
   case round =>
    obtain ⟨j', rfl, hj', hv2, hb2⟩ := hrel
    have HV2 := Hq hv2
    have HB2 := Hq hb2
    clear hv2 hb2 HV HB
    by_cases hlt : j' < j
    ·
     obtain ⟨x, hx⟩ : ∃ x, L[j']? = some x := ⟨_, List.getElem?_eq_getElem (by have := HM.out; omega)⟩
     have c0' := HC.out j' x hx
     have hbl := World.block_lt_of_cell? _ _ c0'
     have c0 : wr.cell? ⟨b, j', none⟩ = some (.slice x.q x.l.length x.c) := by rw [HB2.out.cell (p := ⟨b, j', none⟩) hbl]; exact c0'
     have HXO := Hq ((HO.out x (List.mem_of_getElem? hx)).below HB2.out)
     have HTL : Hid ((L.take j').flatMap SlK.l ++ x.l = (L.take (j' + 1)).flatMap SlK.l ∧ ((L.take j').flatMap SlK.l).length + x.l.length ≤ 1000000) := Hq (by
      refine ⟨?_, ?_⟩
      ·
       rw [List.take_add_one, hx, List.flatMap_append]
       simp
      ·
       obtain ⟨h1, h2⟩ := totK_take hx
       rw [totK_flat]
       have := HT.out
       omega)
     have hti : (j' : Int) < (j : Int) := by omega
     have hsz := HB2.out.size
     clear hx c0' hbl
     go_wp2_with (at_builtin; refine app_slK rfl (.tmp 31) (.tmp 32) rfl rfl HV2.out (m := x.l) rfl rfl HXO.out.at_ HXO.out.z HTL.out.2 hsz ?_; intro v3 w3 hv3 hg3; have HV3 := Hq hv3; have HB3 := Hq (HB2.out.grown hg3 hsz (fun k hk => (World.ownsRow.lt HV2.out k hk).1)); clear hv3 hg3)
     go_roundw
     case rel => exact ⟨j' + 1, by go_num, by omega, by rw [← HTL.out.1]; exact HV3.out, HB3.out⟩
     case measure => simp [intOf]; omega
    ·
     have hje : j' = j := by omega
     have hti : decide ((j' : Int) < (j : Int)) = false := decide_eq_false (by omega)
     go_wp2
     go_ret
     exact ⟨_, rfl, by rw [← hall.out, ← hje]; exact HV2.out, HB2.out⟩
theorem app_slV {w : World} {ops : Array Oper} {rest : List Oper} {o : Oper} {a : Act} {Q : Exit → Act → World → Prop} (hgd : o.guard = none) (s x : Operand)
  (ho : o.op = .call { callee := .builtin .append, args := #[s, x], argTypes := #[104, 104] })
  {B : Nat} {v : Value} {l m : List Vl} (hs : a.eval s = v) (hown : VOwn w B v l) {p : Option Addr} {n c : Nat} (hn : n = m.length) (hx : a.eval x = .slice p n c) (hsrc : Vls w p m) (hp : p = none → c = 0)
  (hlen : l.length + m.length ≤ 1000000) (hB : B ≤ w.heap.size)
  (h : ∀ v' w', VOwn w' B v' (l ++ m) → w.grownBy w' v.ownBlock → wpList Tryz.prog ops Q rest (a.put o.dst v') w') : wpList Tryz.prog ops Q (o :: rest) a w := by
 subst hn
 obtain ⟨i, hi, hz0, hz1, hz2⟩ := info_parts info_val
 cases p with
 | none =>
  obtain rfl : m = [] := by
   rcases m with _ | ⟨u, m⟩
   ·
    rfl
   ·
    obtain ⟨b, o, hp, _⟩ := hsrc (by simp)
    cases hp
  obtain rfl := hp rfl
  have hx' : a.eval x = .slice none 0 0 := hx
  refine wpList_append_own_none hgd s x _ ho B 108 i 3 Tryz.underlying104 hi v l.length (vCells l) hs hown hx' ?_
  exact h v w (by simpa using hown) ⟨rfl, rfl, rfl, Nat.le_refl _, fun _ _ _ => rfl⟩
 | some ad =>
  refine wpList_append_own w hgd s x _ ho B 108 i _ 3 40 Tryz.underlying104 hi hz0 hz1 hz2 rfl (by decide) v l.length (vCells l) hs hown ad m.length c (vCells m) hx (vCells_length m) (vs_cells hsrc) (vCells_one m) (by simp only [maxLen]; omega) (by omega) hB ?_
  intro v' w' h1 h2 _
  refine h v' w' ?_ h2
  unfold VOwn
  rw [List.length_append, ← vCells_append]
  exact h1
set_option maxHeartbeats 1600000 in
theorem growV {w : World} {n : Nat} (hn : n ≤ 1000000) : Calls Tryz.prog 181 #[.slice none 0 0, .int .i64 (n : Int)] w fun e w' => ∃ v, e = .returned v ∧ VOwn w' w.heap.size v [] ∧ Below w.heap.size w w' := by
 by_cases h0 : n = 0
 ·
  subst h0
  go_enter Tryz.func181, Tryz.ntmps181
  go_wp2
  go_ret
  exact ⟨_, rfl, World.ownsRow_nil _ _ _ _, Below.refl _ _⟩
 ·
  obtain ⟨i, hi, hz0, hz1, hz2⟩ := info_parts info_val
  have hr := Lib.run_append_nil_zeros (P := Tryz.prog) w 104 3 104 108 i _ .i64 .i64 Tryz.underlying104 Tryz.underlying3 hi hz0 n (by omega) (by rw [hz1]; decide) (by omega) (by rw [hz2]; omega)
  have hge := grownCap_ge w n 0 108
  have hcm := grownCap_le_maxLen w n 0 108 (by unfold maxLen; omega)
  generalize grownCap w n 0 108 = G at hr hge hcm
  have hown : Hid (VOwn (w.drew.alloc (.cells (Builtin.zeroCells (.agg #[.slice none 0 0, .int .i64 0, .int .i64 0] : Value).cells n ++ Builtin.zeroCells (.agg #[.slice none 0 0, .int .i64 0, .int .i64 0] : Value).cells (G - n)) 108)) w.heap.size (.slice (some ⟨w.heap.size, 0, none⟩) 0 G) []) := Hq (by
   refine ⟨rfl, .inr ⟨w.heap.size, G, _, rfl, Nat.le_refl _, heap_alloc_new w.drew _, Nat.zero_le _, hcm, ?_, by simp [vCells]⟩⟩
   rw [Array.size_append, size_zeroCells, size_zeroCells]
   show n * 3 + (G - n) * 3 = G * 3
   omega)
  have hbel : Hid (Below w.heap.size w (w.drew.alloc (.cells (Builtin.zeroCells (.agg #[.slice none 0 0, .int .i64 0, .int .i64 0] : Value).cells n ++ Builtin.zeroCells (.agg #[.slice none 0 0, .int .i64 0, .int .i64 0] : Value).cells (G - n)) 108))) := Hq ((Below.refl w.heap.size w).drew.alloc (Nat.le_refl _) _)
  generalize w.drew.alloc (.cells (Builtin.zeroCells (.agg #[.slice none 0 0, .int .i64 0, .int .i64 0] : Value).cells n ++ Builtin.zeroCells (.agg #[.slice none 0 0, .int .i64 0, .int .i64 0] : Value).cells (G - n)) 108) = w1 at hr hown hbel
  have b1 : (0 : Int) < (n : Int) := by omega
  have b2 : IntKind.i64.wrap (n : Int) = (n : Int) := by rw [IntKind.wrap_i64]; omega
  have hG : G ≤ 9223372036854775807 := by unfold maxLen at hcm; omega
  clear hi hz0 hz1 hz2 hcm
  go_enter Tryz.func181, Tryz.ntmps181
  go_wp2_with (at_builtin; refine Lib.wpList_append_run _ rfl (.tmp 20) (.tmp 21) 104 3 rfl _ _ rfl rfl _ _ hr ?_)
  go_ret
  exact ⟨_, rfl, hown.out, hbel.out⟩
structure SlV where
 q : Option Addr
 c : Nat
 l : List Vl
structure SlV.Ok (w : World) (x : SlV) : Prop where
 at_ : Vls w x.q x.l
 h1 : x.l.length ≤ x.c
 h2 : x.c ≤ 9223372036854775807
 z : x.q = none → x.c = 0
def totV : List SlV → Nat
 | [] => 0
 | x :: L => x.l.length + totV L
theorem totV_take : ∀ {L : List SlV} {j : Nat} {x : SlV}, L[j]? = some x → totV (L.take (j + 1)) = totV (L.take j) + x.l.length ∧ totV (L.take (j + 1)) ≤ totV L
 | y :: L, 0, x, h => by
  simp only [List.getElem?_cons_zero, Option.some.injEq] at h
  subst h
  simp [totV]
 | y :: L, j + 1, x, h => by
  obtain ⟨h1, h2⟩ := totV_take (L := L) (j := j) (x := x) (by simpa using h)
  simp only [List.take_succ_cons, totV] at h1 h2 ⊢
  omega
 | [], j, x, h => by simp at h
theorem totV_flat : ∀ (L : List SlV), (L.flatMap SlV.l).length = totV L
 | [] => rfl
 | x :: L => by rw [List.flatMap_cons, List.length_append, totV_flat L]; rfl
theorem SlV.Ok.below {w w' : World} {x : SlV} (h : x.Ok w) (hb : Below w.heap.size w w') : x.Ok w' := ⟨h.at_.below hb, h.h1, h.h2, h.z⟩
set_option maxHeartbeats 3200000 in
theorem concatV {w : World} {b m : Nat} {L : List SlV} (hm : m = L.length) (hm0 : m ≤ 1000) (hc : ∀ i x, L[i]? = some x → w.cell? ⟨b, i, none⟩ = some (.slice x.q x.l.length x.c)) (ho : ∀ x ∈ L, x.Ok w) (ht : totV L ≤ 100000) :
  Calls Tryz.prog 163 #[.slice (some ⟨b, 0, none⟩) m m] w fun e w' => ∃ v, e = .returned v ∧ VOwn w' w.heap.size v (L.flatMap SlV.l) ∧ Below w.heap.size w w' := by
 have HM := Hq hm
 have HC := Hq hc
 have HO := Hq ho
 have HT := Hq ht
 clear hm hc ho ht
 go_enter Tryz.func163, Tryz.ntmps163
 go_wp2
 go_loopw [3, 11] (fun t i wr => ∃ j : Nat, i = .int .i64 j ∧ t = .int .i64 (totV (L.take j) : Nat) ∧ j ≤ m ∧ wr = w) (fun _ i _ => m - (intOf i).toNat)
 case atStart => exact ⟨0, rfl, rfl, Nat.zero_le _, rfl⟩
 case round =>
  obtain ⟨j, rfl, rfl, hj, hwr⟩ := hrel
  obtain rfl : w = wr := hwr.symm
  clear hwr
  by_cases hlt : j < m
  ·
   obtain ⟨x, hx⟩ : ∃ x, L[j]? = some x := ⟨_, List.getElem?_eq_getElem (by have := HM.out; omega)⟩
   have c0 := HC.out j x hx
   obtain ⟨t1, t2⟩ := totV_take hx
   have hti : (j : Int) < (m : Int) := by omega
   have ht3 := HT.out
   obtain ⟨T0, hT0⟩ : ∃ y, y = totV (L.take j) := ⟨_, rfl⟩
   obtain ⟨T1, hT1⟩ : ∃ y, y = totV (L.take (j + 1)) := ⟨_, rfl⟩
   rw [← hT0, ← hT1] at t1
   rw [← hT1] at t2
   have HT1 := Hq hT1
   rw [← hT0]
   have hxl := (HO.out x (List.mem_of_getElem? hx)).h1
   obtain ⟨xn, hxn⟩ : ∃ y, y = x.l.length := ⟨_, rfl⟩
   rw [← hxn] at t1 c0 hxl
   have hsum : (T0 : Int) + (xn : Int) = (T1 : Int) := by omega
   have hT1b : T1 ≤ 100000 := by omega
   have hneg : decide ((T1 : Int) < 0) = false := decide_eq_false (by omega)
   clear hx hT0 hT1 t2 ht3 hxn t1
   go_wp2
   go_roundw
   case rel => exact ⟨j + 1, by go_num, by rw [← HT1.out], by omega, by trivial⟩
   case measure => simp [intOf]; omega
  ·
   have hjm : j = m := by omega
   subst hjm
   have hall : Hid (L.take j = L) := Hq (List.take_of_length_le (by have := HM.out; omega))
   have HG := Hq (growV (w := w) (n := totV (L.take j)) (by rw [hall.out]; have := HT.out; omega))
   go_wp2_with fail
   refine HG.out.mono ?_
   rintro e w1 ⟨v, rfl, hv, hb⟩
   have HV := Hq hv
   have HB := Hq hb
   clear hv hb HG
   go_wp2
   go_loopw [6, 27] (fun u i w2 => ∃ j' : Nat, i = .int .i64 j' ∧ j' ≤ j ∧ VOwn w2 w.heap.size u ((L.take j').flatMap SlV.l) ∧ Below w.heap.size w w2) (fun _ i _ => j - (intOf i).toNat)
   case atStart => exact ⟨0, rfl, Nat.zero_le _, HV.out, HB.out⟩
   case round =>
    obtain ⟨j', rfl, hj', hv2, hb2⟩ := hrel
    have HV2 := Hq hv2
    have HB2 := Hq hb2
    clear hv2 hb2 HV HB
    by_cases hlt : j' < j
    ·
     obtain ⟨x, hx⟩ : ∃ x, L[j']? = some x := ⟨_, List.getElem?_eq_getElem (by have := HM.out; omega)⟩
     have c0' := HC.out j' x hx
     have hbl := World.block_lt_of_cell? _ _ c0'
     have c0 : wr.cell? ⟨b, j', none⟩ = some (.slice x.q x.l.length x.c) := by rw [HB2.out.cell (p := ⟨b, j', none⟩) hbl]; exact c0'
     have HXO := Hq ((HO.out x (List.mem_of_getElem? hx)).below HB2.out)
     have HTL : Hid ((L.take j').flatMap SlV.l ++ x.l = (L.take (j' + 1)).flatMap SlV.l ∧ ((L.take j').flatMap SlV.l).length + x.l.length ≤ 1000000) := Hq (by
      refine ⟨?_, ?_⟩
      ·
       rw [List.take_add_one, hx, List.flatMap_append]
       simp
      ·
       obtain ⟨h1, h2⟩ := totV_take hx
       rw [totV_flat]
       have := HT.out
       omega)
     have hti : (j' : Int) < (j : Int) := by omega
     have hsz := HB2.out.size
     clear hx c0' hbl
     go_wp2_with (at_builtin; refine app_slV rfl (.tmp 31) (.tmp 32) rfl rfl HV2.out (m := x.l) rfl rfl HXO.out.at_ HXO.out.z HTL.out.2 hsz ?_; intro v3 w3 hv3 hg3; have HV3 := Hq hv3; have HB3 := Hq (HB2.out.grown hg3 hsz (fun k hk => (World.ownsRow.lt HV2.out k hk).1)); clear hv3 hg3)
     go_roundw
     case rel => exact ⟨j' + 1, by go_num, by omega, by rw [← HTL.out.1]; exact HV3.out, HB3.out⟩
     case measure => simp [intOf]; omega
    ·
     have hje : j' = j := by omega
     have hti : decide ((j' : Int) < (j : Int)) = false := decide_eq_false (by omega)
     go_wp2
     go_ret
     exact ⟨_, rfl, by rw [← hall.out, ← hje]; exact HV2.out, HB2.out⟩
end Go.Proofs.YtbbgdbnjmonbgaaGreatDoor

