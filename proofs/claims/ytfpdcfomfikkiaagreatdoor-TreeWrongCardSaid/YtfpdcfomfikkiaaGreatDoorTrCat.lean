/-
  slices.Grow of nil, slices.Concat, tree.splice: over keys, values and numbers.
-/
import Derived.Test.YtfpdcfomfikkiaaGreatDoorH24
import Derived.LoopTactic
import Derived.Lib.AppendZeros
import Derived.Deep.RegionHeld3
set_option linter.unusedVariables false
set_option linter.unusedSimpArgs false
set_option maxRecDepth 100000
namespace Go.Proofs.YtfpdcfomfikkiaaGreatDoor
open Go.RowKit

theorem info_int1 : (Tryz.prog.info? 3).map (fun i => (i.zero, i.size, i.bytes)) = some (some (.int .i64 0), 1, 8) := by kernel_rfl
def iCells (l : List Int) : List Value := l.map fun x => .int .i64 x
def IOwn (w : World) (B : Nat) (v : Value) (l : List Int) : Prop := w.ownsRow B 3 1 v l.length (iCells l)
theorem kCells_length (l : List Kb) : (kCells l).length = l.length * 1 := by simp [kCells]
theorem iCells_length (l : List Int) : (iCells l).length = l.length * 1 := by simp [iCells]
theorem kCells_append (l m : List Kb) : kCells l ++ kCells m = kCells (l ++ m) := by simp [kCells]
theorem iCells_append (l m : List Int) : iCells l ++ iCells m = iCells (l ++ m) := by simp [iCells]
theorem kCells_one (l : List Kb) : ∀ y ∈ kCells l, y.oneCell' = true := fun y hy => by
  obtain ⟨x, _, rfl⟩ := List.mem_map.1 hy
  rfl
theorem iCells_one (l : List Int) : ∀ y ∈ iCells l, y.oneCell' = true := fun y hy => by
  obtain ⟨x, _, rfl⟩ := List.mem_map.1 hy
  rfl
theorem vCells_one : ∀ (l : List Vl), ∀ y ∈ vCells l, y.oneCell' = true
  | [], y, hy => by cases hy
  | a :: l, y, hy => by
    simp only [vCells, List.mem_cons] at hy
    rcases hy with rfl | rfl | rfl | hy
    · rfl
    · rfl
    · rfl
    · exact vCells_one l y hy
theorem ks_cells {w : World} {ad : Addr} {l : List Kb} (h : Kbs w (some ad) l) : ∀ (j : Nat) y, (kCells l)[j]? = some y → w.cell? (ad.add j) = some y := fun j y hj => by
  unfold kCells at hj
  rw [List.getElem?_map] at hj
  cases hx : l[j]? with
  | none => rw [hx] at hj; cases hj
  | some x =>
    rw [hx] at hj
    cases hj
    obtain ⟨b, o, hp, _, hc⟩ := h.at hx
    obtain rfl := Option.some.inj hp
    rw [Addr.add_lit]
    exact hc
theorem is_cells {w : World} {ad : Addr} {l : List Int} (h : Ks w (some ad) l) : ∀ (j : Nat) y, (iCells l)[j]? = some y → w.cell? (ad.add j) = some y := fun j y hj => by
  unfold iCells at hj
  rw [List.getElem?_map] at hj
  cases hx : l[j]? with
  | none => rw [hx] at hj; cases hj
  | some x =>
    rw [hx] at hj
    cases hj
    obtain ⟨b, o, hp, hc⟩ := h.at hx
    obtain rfl := Option.some.inj hp
    rw [Addr.add_lit]
    exact hc
theorem vs_cells {w : World} {ad : Addr} {l : List Vl} (h : Vls w (some ad) l) : ∀ (j : Nat) y, (vCells l)[j]? = some y → w.cell? (ad.add j) = some y := fun j y hj => by
  have hlt : j < l.length * 3 := by
    have := (List.getElem?_eq_some_iff.1 hj).1
    rwa [vCells_length] at this
  obtain ⟨x, hx⟩ : ∃ x, l[j / 3]? = some x := ⟨_, List.getElem?_eq_getElem (by omega)⟩
  obtain ⟨b, o, hp, _, h0, h1, h2⟩ := h.at hx
  obtain rfl := Option.some.inj hp
  obtain ⟨g0, g1, g2⟩ := vCells_get hx
  rw [Addr.add_lit]
  rcases (by omega : j = j / 3 * 3 ∨ j = j / 3 * 3 + 1 ∨ j = j / 3 * 3 + 2) with e | e | e
  · rw [e, g0] at hj; rw [e]; cases hj; exact h0
  · rw [e, g1] at hj; rw [e]; cases hj; exact h1
  · rw [e, g2] at hj; rw [e]; cases hj; exact h2

/-- append(own, a slice). -/
theorem app_slK {w : World} {ops : Array Oper} {rest : List Oper} {o : Oper} {a : Act} {Q : Exit → Act → World → Prop} (hgd : o.guard = none) (s x : Operand)
    (ho : o.op = .call { callee := .builtin .append, args := #[s, x], argTypes := #[38, 38] })
    {B : Nat} {v : Value} {l m : List Kb} (hs : a.eval s = v) (hown : KOwn w B v l) {p : Option Addr} {n c : Nat} (hn : n = m.length) (hx : a.eval x = .slice p n c) (hsrc : Kbs w p m) (hp : p = none → c = 0)
    (hlen : l.length + m.length ≤ 1000000) (hB : B ≤ w.heap.size)
    (h : ∀ v' w', KOwn w' B v' (l ++ m) → w.grownBy w' v.ownBlock → wpList Tryz.prog ops Q rest (a.put o.dst v') w') : wpList Tryz.prog ops Q (o :: rest) a w := by
  subst hn
  obtain ⟨i, hi, hz0, hz1, hz2⟩ := info_parts info_key
  cases p with
  | none =>
    obtain rfl : m = [] := by
      rcases m with _ | ⟨u, m⟩
      · rfl
      · obtain ⟨b, o, hp, _⟩ := hsrc (by simp)
        cases hp
    obtain rfl := hp rfl
    have hx' : a.eval x = .slice none 0 0 := hx
    refine wpList_append_own_none hgd s x _ ho B 22 i 1 Tryz.underlying38 hi v l.length (kCells l) hs hown hx' ?_
    exact h v w (by simpa using hown) ⟨rfl, rfl, rfl, Nat.le_refl _, fun _ _ _ => rfl⟩
  | some ad =>
    refine wpList_append_own w hgd s x _ ho B 22 i _ 1 24 Tryz.underlying38 hi hz0 hz1 hz2 rfl (by decide) v l.length (kCells l) hs hown ad m.length c (kCells m) hx (kCells_length m) (ks_cells hsrc) (kCells_one m) (by simp only [maxLen]; omega) (by omega) hB ?_
    intro v' w' h1 h2 _
    refine h v' w' ?_ h2
    unfold KOwn
    rw [List.length_append, ← kCells_append]
    exact h1

set_option maxHeartbeats 1600000 in
theorem growK {w : World} {n : Nat} (hn : n ≤ 1000000) : Calls Tryz.prog 128 #[.slice none 0 0, .int .i64 (n : Int)] w fun e w' => ∃ v, e = .returned v ∧ KOwn w' w.heap.size v [] ∧ Below w.heap.size w w' := by
  by_cases h0 : n = 0
  · subst h0
    go_enter Tryz.func128, Tryz.ntmps128
    go_wp2
    go_ret
    exact ⟨_, rfl, World.ownsRow_nil _ _ _ _, Below.refl _ _⟩
  · obtain ⟨i, hi, hz0, hz1, hz2⟩ := info_parts info_key
    have hr := Lib.run_append_nil_zeros (P := Tryz.prog) w 38 3 38 22 i _ .i64 .i64 Tryz.underlying38 Tryz.underlying3 hi hz0 n (by omega) (by rw [hz1]; decide) (by omega) (by rw [hz2]; omega)
    have hge := grownCap_ge w n 0 22
    have hcm := grownCap_le_maxLen w n 0 22 (by unfold maxLen; omega)
    generalize grownCap w n 0 22 = G at hr hge hcm
    have hown : Hid (KOwn (w.drew.alloc (.cells (Builtin.zeroCells (.slice none 0 0 : Value).cells n ++ Builtin.zeroCells (.slice none 0 0 : Value).cells (G - n)) 22)) w.heap.size (.slice (some ⟨w.heap.size, 0, none⟩) 0 G) []) := Lib.hid (by
      refine ⟨rfl, .inr ⟨w.heap.size, G, _, rfl, Nat.le_refl _, heap_alloc_new w.drew _, Nat.zero_le _, hcm, ?_, by simp [kCells]⟩⟩
      rw [Array.size_append, size_zeroCells, size_zeroCells]
      show n * 1 + (G - n) * 1 = G * 1
      omega)
    have hbel : Hid (Below w.heap.size w (w.drew.alloc (.cells (Builtin.zeroCells (.slice none 0 0 : Value).cells n ++ Builtin.zeroCells (.slice none 0 0 : Value).cells (G - n)) 22))) := Lib.hid ((Below.refl w.heap.size w).drew.alloc (Nat.le_refl _) _)
    generalize w.drew.alloc (.cells (Builtin.zeroCells (.slice none 0 0 : Value).cells n ++ Builtin.zeroCells (.slice none 0 0 : Value).cells (G - n)) 22) = w1 at hr hown hbel
    have b1 : (0 : Int) < (n : Int) := by omega
    have b2 : IntKind.i64.wrap (n : Int) = (n : Int) := by rw [IntKind.wrap_i64]; omega
    have hG : G ≤ 9223372036854775807 := by unfold maxLen at hcm; omega
    clear hi hz0 hz1 hz2 hcm
    go_enter Tryz.func128, Tryz.ntmps128
    go_wp2_with (at_builtin; refine Lib.wpList_append_run _ rfl (.tmp 20) (.tmp 21) 38 3 rfl _ _ rfl rfl _ _ hr ?_)
    go_ret
    exact ⟨_, rfl, hown.out, hbel.out⟩

/-- A slice of such; slices that lie beside each other. -/
structure SlK where
  q : Option Addr
  c : Nat
  l : List Kb
structure SlK.Ok (w : World) (x : SlK) : Prop where
  at_ : Kbs w x.q x.l
  h1 : x.l.length ≤ x.c
  h2 : x.c ≤ 9223372036854775807
  z : x.q = none → x.c = 0
def totK : List SlK → Nat
  | [] => 0
  | x :: L => x.l.length + totK L
theorem totK_take : ∀ {L : List SlK} {j : Nat} {x : SlK}, L[j]? = some x → totK (L.take (j + 1)) = totK (L.take j) + x.l.length ∧ totK (L.take (j + 1)) ≤ totK L
  | y :: L, 0, x, h => by
    simp only [List.getElem?_cons_zero, Option.some.injEq] at h
    subst h
    simp [totK]
  | y :: L, j + 1, x, h => by
    obtain ⟨h1, h2⟩ := totK_take (L := L) (j := j) (x := x) (by simpa using h)
    simp only [List.take_succ_cons, totK] at h1 h2 ⊢
    omega
  | [], j, x, h => by simp at h
theorem totK_flat : ∀ (L : List SlK), (L.flatMap SlK.l).length = totK L
  | [] => rfl
  | x :: L => by rw [List.flatMap_cons, List.length_append, totK_flat L]; rfl
theorem SlK.Ok.below {w w' : World} {x : SlK} (h : x.Ok w) (hb : Below w.heap.size w w') : x.Ok w' := ⟨h.at_.below hb, h.h1, h.h2, h.z⟩

set_option maxHeartbeats 3200000 in
theorem concatK {w : World} {b m : Nat} {L : List SlK} (hm : m = L.length) (hm0 : m ≤ 1000) (hc : ∀ i x, L[i]? = some x → w.cell? ⟨b, i, none⟩ = some (.slice x.q x.l.length x.c)) (ho : ∀ x ∈ L, x.Ok w) (ht : totK L ≤ 100000) :
    Calls Tryz.prog 99 #[.slice (some ⟨b, 0, none⟩) m m] w fun e w' => ∃ v, e = .returned v ∧ KOwn w' w.heap.size v (L.flatMap SlK.l) ∧ Below w.heap.size w w' := by
  have HM := Lib.hid hm
  have HC := Lib.hid hc
  have HO := Lib.hid ho
  have HT := Lib.hid ht
  clear hm hc ho ht
  go_enter Tryz.func99, Tryz.ntmps99
  go_wp2
  go_loopw [3, 11] (fun t i wr => ∃ j : Nat, i = .int .i64 j ∧ t = .int .i64 (totK (L.take j) : Nat) ∧ j ≤ m ∧ wr = w) (fun _ i _ => m - (intOf i).toNat)
  case atStart => exact ⟨0, rfl, rfl, Nat.zero_le _, rfl⟩
  case round =>
    obtain ⟨j, rfl, rfl, hj, hwr⟩ := hrel
    obtain rfl : w = wr := hwr.symm
    clear hwr
    by_cases hlt : j < m
    · obtain ⟨x, hx⟩ : ∃ x, L[j]? = some x := ⟨_, List.getElem?_eq_getElem (by have := HM.out; omega)⟩
      have c0 := HC.out j x hx
      obtain ⟨t1, t2⟩ := totK_take hx
      have hti : (j : Int) < (m : Int) := by omega
      have ht3 := HT.out
      obtain ⟨T0, hT0⟩ : ∃ y, y = totK (L.take j) := ⟨_, rfl⟩
      obtain ⟨T1, hT1⟩ : ∃ y, y = totK (L.take (j + 1)) := ⟨_, rfl⟩
      rw [← hT0, ← hT1] at t1
      rw [← hT1] at t2
      have HT1 := Lib.hid hT1
      rw [← hT0]
      have hxl := (HO.out x (List.mem_of_getElem? hx)).h1
      obtain ⟨xn, hxn⟩ : ∃ y, y = x.l.length := ⟨_, rfl⟩
      rw [← hxn] at t1 c0 hxl
      have hsum : (T0 : Int) + (xn : Int) = (T1 : Int) := by omega
      have hT1b : T1 ≤ 100000 := by omega
      have hneg : decide ((T1 : Int) < 0) = false := decide_eq_false (by omega)
      clear hx hT0 hT1 t2 ht3 hxn t1
      go_wp2
      go_roundw
      case rel => exact ⟨j + 1, by go_num, by rw [← HT1.out], by omega, by trivial⟩
      case measure => simp [intOf]; omega
    · have hjm : j = m := by omega
      subst hjm
      have hall : Hid (L.take j = L) := Lib.hid (List.take_of_length_le (by have := HM.out; omega))
      have HG := Lib.hid (growK (w := w) (n := totK (L.take j)) (by rw [hall.out]; have := HT.out; omega))
      go_wp2_with fail
      refine HG.out.mono ?_
      rintro e w1 ⟨v, rfl, hv, hb⟩
      have HV := Lib.hid hv
      have HB := Lib.hid hb
      clear hv hb HG
      go_wp2
      go_loopw [6, 27] (fun u i w2 => ∃ j' : Nat, i = .int .i64 j' ∧ j' ≤ j ∧ KOwn w2 w.heap.size u ((L.take j').flatMap SlK.l) ∧ Below w.heap.size w w2) (fun _ i _ => j - (intOf i).toNat)
      case atStart => exact ⟨0, rfl, Nat.zero_le _, HV.out, HB.out⟩
      case round =>
        obtain ⟨j', rfl, hj', hv2, hb2⟩ := hrel
        have HV2 := Lib.hid hv2
        have HB2 := Lib.hid hb2
        clear hv2 hb2 HV HB
        by_cases hlt : j' < j
        · obtain ⟨x, hx⟩ : ∃ x, L[j']? = some x := ⟨_, List.getElem?_eq_getElem (by have := HM.out; omega)⟩
          have c0' := HC.out j' x hx
          have hbl := World.block_lt_of_cell? _ _ c0'
          have c0 : wr.cell? ⟨b, j', none⟩ = some (.slice x.q x.l.length x.c) := by rw [HB2.out.cell (p := ⟨b, j', none⟩) hbl]; exact c0'
          have HXO := Lib.hid ((HO.out x (List.mem_of_getElem? hx)).below HB2.out)
          have HTL : Hid ((L.take j').flatMap SlK.l ++ x.l = (L.take (j' + 1)).flatMap SlK.l ∧ ((L.take j').flatMap SlK.l).length + x.l.length ≤ 1000000) := Lib.hid (by
            refine ⟨?_, ?_⟩
            · rw [List.take_add_one, hx, List.flatMap_append]
              simp
            · obtain ⟨h1, h2⟩ := totK_take hx
              rw [totK_flat]
              have := HT.out
              omega)
          have hti : (j' : Int) < (j : Int) := by omega
          have hsz := HB2.out.size
          clear hx c0' hbl
          go_wp2_with (at_builtin; refine app_slK rfl (.tmp 31) (.tmp 32) rfl rfl HV2.out (m := x.l) rfl rfl HXO.out.at_ HXO.out.z HTL.out.2 hsz ?_; intro v3 w3 hv3 hg3; have HV3 := Lib.hid hv3; have HB3 := Lib.hid (HB2.out.grown hg3 hsz (fun k hk => (World.ownsRow.lt HV2.out k hk).1)); clear hv3 hg3)
          go_roundw
          case rel => exact ⟨j' + 1, by go_num, by omega, by rw [← HTL.out.1]; exact HV3.out, HB3.out⟩
          case measure => simp [intOf]; omega
        · have hje : j' = j := by omega
          have hti : decide ((j' : Int) < (j : Int)) = false := decide_eq_false (by omega)
          go_wp2
          go_ret
          exact ⟨_, rfl, by rw [← hall.out, ← hje]; exact HV2.out, HB2.out⟩

/-- append(own, a slice). -/
theorem app_slV {w : World} {ops : Array Oper} {rest : List Oper} {o : Oper} {a : Act} {Q : Exit → Act → World → Prop} (hgd : o.guard = none) (s x : Operand)
    (ho : o.op = .call { callee := .builtin .append, args := #[s, x], argTypes := #[80, 80] })
    {B : Nat} {v : Value} {l m : List Vl} (hs : a.eval s = v) (hown : VOwn w B v l) {p : Option Addr} {n c : Nat} (hn : n = m.length) (hx : a.eval x = .slice p n c) (hsrc : Vls w p m) (hp : p = none → c = 0)
    (hlen : l.length + m.length ≤ 1000000) (hB : B ≤ w.heap.size)
    (h : ∀ v' w', VOwn w' B v' (l ++ m) → w.grownBy w' v.ownBlock → wpList Tryz.prog ops Q rest (a.put o.dst v') w') : wpList Tryz.prog ops Q (o :: rest) a w := by
  subst hn
  obtain ⟨i, hi, hz0, hz1, hz2⟩ := info_parts info_val
  cases p with
  | none =>
    obtain rfl : m = [] := by
      rcases m with _ | ⟨u, m⟩
      · rfl
      · obtain ⟨b, o, hp, _⟩ := hsrc (by simp)
        cases hp
    obtain rfl := hp rfl
    have hx' : a.eval x = .slice none 0 0 := hx
    refine wpList_append_own_none hgd s x _ ho B 89 i 3 Tryz.underlying80 hi v l.length (vCells l) hs hown hx' ?_
    exact h v w (by simpa using hown) ⟨rfl, rfl, rfl, Nat.le_refl _, fun _ _ _ => rfl⟩
  | some ad =>
    refine wpList_append_own w hgd s x _ ho B 89 i _ 3 40 Tryz.underlying80 hi hz0 hz1 hz2 rfl (by decide) v l.length (vCells l) hs hown ad m.length c (vCells m) hx (vCells_length m) (vs_cells hsrc) (vCells_one m) (by simp only [maxLen]; omega) (by omega) hB ?_
    intro v' w' h1 h2 _
    refine h v' w' ?_ h2
    unfold VOwn
    rw [List.length_append, ← vCells_append]
    exact h1

set_option maxHeartbeats 1600000 in
theorem growV {w : World} {n : Nat} (hn : n ≤ 1000000) : Calls Tryz.prog 129 #[.slice none 0 0, .int .i64 (n : Int)] w fun e w' => ∃ v, e = .returned v ∧ VOwn w' w.heap.size v [] ∧ Below w.heap.size w w' := by
  by_cases h0 : n = 0
  · subst h0
    go_enter Tryz.func129, Tryz.ntmps129
    go_wp2
    go_ret
    exact ⟨_, rfl, World.ownsRow_nil _ _ _ _, Below.refl _ _⟩
  · obtain ⟨i, hi, hz0, hz1, hz2⟩ := info_parts info_val
    have hr := Lib.run_append_nil_zeros (P := Tryz.prog) w 80 3 80 89 i _ .i64 .i64 Tryz.underlying80 Tryz.underlying3 hi hz0 n (by omega) (by rw [hz1]; decide) (by omega) (by rw [hz2]; omega)
    have hge := grownCap_ge w n 0 89
    have hcm := grownCap_le_maxLen w n 0 89 (by unfold maxLen; omega)
    generalize grownCap w n 0 89 = G at hr hge hcm
    have hown : Hid (VOwn (w.drew.alloc (.cells (Builtin.zeroCells (.agg #[.slice none 0 0, .int .i64 0, .int .i64 0] : Value).cells n ++ Builtin.zeroCells (.agg #[.slice none 0 0, .int .i64 0, .int .i64 0] : Value).cells (G - n)) 89)) w.heap.size (.slice (some ⟨w.heap.size, 0, none⟩) 0 G) []) := Lib.hid (by
      refine ⟨rfl, .inr ⟨w.heap.size, G, _, rfl, Nat.le_refl _, heap_alloc_new w.drew _, Nat.zero_le _, hcm, ?_, by simp [vCells]⟩⟩
      rw [Array.size_append, size_zeroCells, size_zeroCells]
      show n * 3 + (G - n) * 3 = G * 3
      omega)
    have hbel : Hid (Below w.heap.size w (w.drew.alloc (.cells (Builtin.zeroCells (.agg #[.slice none 0 0, .int .i64 0, .int .i64 0] : Value).cells n ++ Builtin.zeroCells (.agg #[.slice none 0 0, .int .i64 0, .int .i64 0] : Value).cells (G - n)) 89))) := Lib.hid ((Below.refl w.heap.size w).drew.alloc (Nat.le_refl _) _)
    generalize w.drew.alloc (.cells (Builtin.zeroCells (.agg #[.slice none 0 0, .int .i64 0, .int .i64 0] : Value).cells n ++ Builtin.zeroCells (.agg #[.slice none 0 0, .int .i64 0, .int .i64 0] : Value).cells (G - n)) 89) = w1 at hr hown hbel
    have b1 : (0 : Int) < (n : Int) := by omega
    have b2 : IntKind.i64.wrap (n : Int) = (n : Int) := by rw [IntKind.wrap_i64]; omega
    have hG : G ≤ 9223372036854775807 := by unfold maxLen at hcm; omega
    clear hi hz0 hz1 hz2 hcm
    go_enter Tryz.func129, Tryz.ntmps129
    go_wp2_with (at_builtin; refine Lib.wpList_append_run _ rfl (.tmp 20) (.tmp 21) 80 3 rfl _ _ rfl rfl _ _ hr ?_)
    go_ret
    exact ⟨_, rfl, hown.out, hbel.out⟩

/-- A slice of such; slices that lie beside each other. -/
structure SlV where
  q : Option Addr
  c : Nat
  l : List Vl
structure SlV.Ok (w : World) (x : SlV) : Prop where
  at_ : Vls w x.q x.l
  h1 : x.l.length ≤ x.c
  h2 : x.c ≤ 9223372036854775807
  z : x.q = none → x.c = 0
def totV : List SlV → Nat
  | [] => 0
  | x :: L => x.l.length + totV L
theorem totV_take : ∀ {L : List SlV} {j : Nat} {x : SlV}, L[j]? = some x → totV (L.take (j + 1)) = totV (L.take j) + x.l.length ∧ totV (L.take (j + 1)) ≤ totV L
  | y :: L, 0, x, h => by
    simp only [List.getElem?_cons_zero, Option.some.injEq] at h
    subst h
    simp [totV]
  | y :: L, j + 1, x, h => by
    obtain ⟨h1, h2⟩ := totV_take (L := L) (j := j) (x := x) (by simpa using h)
    simp only [List.take_succ_cons, totV] at h1 h2 ⊢
    omega
  | [], j, x, h => by simp at h
theorem totV_flat : ∀ (L : List SlV), (L.flatMap SlV.l).length = totV L
  | [] => rfl
  | x :: L => by rw [List.flatMap_cons, List.length_append, totV_flat L]; rfl
theorem SlV.Ok.below {w w' : World} {x : SlV} (h : x.Ok w) (hb : Below w.heap.size w w') : x.Ok w' := ⟨h.at_.below hb, h.h1, h.h2, h.z⟩

set_option maxHeartbeats 3200000 in
theorem concatV {w : World} {b m : Nat} {L : List SlV} (hm : m = L.length) (hm0 : m ≤ 1000) (hc : ∀ i x, L[i]? = some x → w.cell? ⟨b, i, none⟩ = some (.slice x.q x.l.length x.c)) (ho : ∀ x ∈ L, x.Ok w) (ht : totV L ≤ 100000) :
    Calls Tryz.prog 100 #[.slice (some ⟨b, 0, none⟩) m m] w fun e w' => ∃ v, e = .returned v ∧ VOwn w' w.heap.size v (L.flatMap SlV.l) ∧ Below w.heap.size w w' := by
  have HM := Lib.hid hm
  have HC := Lib.hid hc
  have HO := Lib.hid ho
  have HT := Lib.hid ht
  clear hm hc ho ht
  go_enter Tryz.func100, Tryz.ntmps100
  go_wp2
  go_loopw [3, 11] (fun t i wr => ∃ j : Nat, i = .int .i64 j ∧ t = .int .i64 (totV (L.take j) : Nat) ∧ j ≤ m ∧ wr = w) (fun _ i _ => m - (intOf i).toNat)
  case atStart => exact ⟨0, rfl, rfl, Nat.zero_le _, rfl⟩
  case round =>
    obtain ⟨j, rfl, rfl, hj, hwr⟩ := hrel
    obtain rfl : w = wr := hwr.symm
    clear hwr
    by_cases hlt : j < m
    · obtain ⟨x, hx⟩ : ∃ x, L[j]? = some x := ⟨_, List.getElem?_eq_getElem (by have := HM.out; omega)⟩
      have c0 := HC.out j x hx
      obtain ⟨t1, t2⟩ := totV_take hx
      have hti : (j : Int) < (m : Int) := by omega
      have ht3 := HT.out
      obtain ⟨T0, hT0⟩ : ∃ y, y = totV (L.take j) := ⟨_, rfl⟩
      obtain ⟨T1, hT1⟩ : ∃ y, y = totV (L.take (j + 1)) := ⟨_, rfl⟩
      rw [← hT0, ← hT1] at t1
      rw [← hT1] at t2
      have HT1 := Lib.hid hT1
      rw [← hT0]
      have hxl := (HO.out x (List.mem_of_getElem? hx)).h1
      obtain ⟨xn, hxn⟩ : ∃ y, y = x.l.length := ⟨_, rfl⟩
      rw [← hxn] at t1 c0 hxl
      have hsum : (T0 : Int) + (xn : Int) = (T1 : Int) := by omega
      have hT1b : T1 ≤ 100000 := by omega
      have hneg : decide ((T1 : Int) < 0) = false := decide_eq_false (by omega)
      clear hx hT0 hT1 t2 ht3 hxn t1
      go_wp2
      go_roundw
      case rel => exact ⟨j + 1, by go_num, by rw [← HT1.out], by omega, by trivial⟩
      case measure => simp [intOf]; omega
    · have hjm : j = m := by omega
      subst hjm
      have hall : Hid (L.take j = L) := Lib.hid (List.take_of_length_le (by have := HM.out; omega))
      have HG := Lib.hid (growV (w := w) (n := totV (L.take j)) (by rw [hall.out]; have := HT.out; omega))
      go_wp2_with fail
      refine HG.out.mono ?_
      rintro e w1 ⟨v, rfl, hv, hb⟩
      have HV := Lib.hid hv
      have HB := Lib.hid hb
      clear hv hb HG
      go_wp2
      go_loopw [6, 27] (fun u i w2 => ∃ j' : Nat, i = .int .i64 j' ∧ j' ≤ j ∧ VOwn w2 w.heap.size u ((L.take j').flatMap SlV.l) ∧ Below w.heap.size w w2) (fun _ i _ => j - (intOf i).toNat)
      case atStart => exact ⟨0, rfl, Nat.zero_le _, HV.out, HB.out⟩
      case round =>
        obtain ⟨j', rfl, hj', hv2, hb2⟩ := hrel
        have HV2 := Lib.hid hv2
        have HB2 := Lib.hid hb2
        clear hv2 hb2 HV HB
        by_cases hlt : j' < j
        · obtain ⟨x, hx⟩ : ∃ x, L[j']? = some x := ⟨_, List.getElem?_eq_getElem (by have := HM.out; omega)⟩
          have c0' := HC.out j' x hx
          have hbl := World.block_lt_of_cell? _ _ c0'
          have c0 : wr.cell? ⟨b, j', none⟩ = some (.slice x.q x.l.length x.c) := by rw [HB2.out.cell (p := ⟨b, j', none⟩) hbl]; exact c0'
          have HXO := Lib.hid ((HO.out x (List.mem_of_getElem? hx)).below HB2.out)
          have HTL : Hid ((L.take j').flatMap SlV.l ++ x.l = (L.take (j' + 1)).flatMap SlV.l ∧ ((L.take j').flatMap SlV.l).length + x.l.length ≤ 1000000) := Lib.hid (by
            refine ⟨?_, ?_⟩
            · rw [List.take_add_one, hx, List.flatMap_append]
              simp
            · obtain ⟨h1, h2⟩ := totV_take hx
              rw [totV_flat]
              have := HT.out
              omega)
          have hti : (j' : Int) < (j : Int) := by omega
          have hsz := HB2.out.size
          clear hx c0' hbl
          go_wp2_with (at_builtin; refine app_slV rfl (.tmp 31) (.tmp 32) rfl rfl HV2.out (m := x.l) rfl rfl HXO.out.at_ HXO.out.z HTL.out.2 hsz ?_; intro v3 w3 hv3 hg3; have HV3 := Lib.hid hv3; have HB3 := Lib.hid (HB2.out.grown hg3 hsz (fun k hk => (World.ownsRow.lt HV2.out k hk).1)); clear hv3 hg3)
          go_roundw
          case rel => exact ⟨j' + 1, by go_num, by omega, by rw [← HTL.out.1]; exact HV3.out, HB3.out⟩
          case measure => simp [intOf]; omega
        · have hje : j' = j := by omega
          have hti : decide ((j' : Int) < (j : Int)) = false := decide_eq_false (by omega)
          go_wp2
          go_ret
          exact ⟨_, rfl, by rw [← hall.out, ← hje]; exact HV2.out, HB2.out⟩

/-- append(own, a slice). -/
theorem app_slI {w : World} {ops : Array Oper} {rest : List Oper} {o : Oper} {a : Act} {Q : Exit → Act → World → Prop} (hgd : o.guard = none) (s x : Operand)
    (ho : o.op = .call { callee := .builtin .append, args := #[s, x], argTypes := #[33, 33] })
    {B : Nat} {v : Value} {l m : List Int} (hs : a.eval s = v) (hown : IOwn w B v l) {p : Option Addr} {n c : Nat} (hn : n = m.length) (hx : a.eval x = .slice p n c) (hsrc : Ks w p m) (hp : p = none → c = 0)
    (hlen : l.length + m.length ≤ 1000000) (hB : B ≤ w.heap.size)
    (h : ∀ v' w', IOwn w' B v' (l ++ m) → w.grownBy w' v.ownBlock → wpList Tryz.prog ops Q rest (a.put o.dst v') w') : wpList Tryz.prog ops Q (o :: rest) a w := by
  subst hn
  obtain ⟨i, hi, hz0, hz1, hz2⟩ := info_parts info_int1
  cases p with
  | none =>
    obtain rfl : m = [] := by
      rcases m with _ | ⟨u, m⟩
      · rfl
      · obtain ⟨b, o, hp, _⟩ := hsrc (by simp)
        cases hp
    obtain rfl := hp rfl
    have hx' : a.eval x = .slice none 0 0 := hx
    refine wpList_append_own_none hgd s x _ ho B 3 i 1 Tryz.underlying33 hi v l.length (iCells l) hs hown hx' ?_
    exact h v w (by simpa using hown) ⟨rfl, rfl, rfl, Nat.le_refl _, fun _ _ _ => rfl⟩
  | some ad =>
    refine wpList_append_own w hgd s x _ ho B 3 i _ 1 8 Tryz.underlying33 hi hz0 hz1 hz2 rfl (by decide) v l.length (iCells l) hs hown ad m.length c (iCells m) hx (iCells_length m) (is_cells hsrc) (iCells_one m) (by simp only [maxLen]; omega) (by omega) hB ?_
    intro v' w' h1 h2 _
    refine h v' w' ?_ h2
    unfold IOwn
    rw [List.length_append, ← iCells_append]
    exact h1

set_option maxHeartbeats 1600000 in
theorem growI {w : World} {n : Nat} (hn : n ≤ 1000000) : Calls Tryz.prog 153 #[.slice none 0 0, .int .i64 (n : Int)] w fun e w' => ∃ v, e = .returned v ∧ IOwn w' w.heap.size v [] ∧ Below w.heap.size w w' := by
  by_cases h0 : n = 0
  · subst h0
    go_enter Tryz.func153, Tryz.ntmps153
    go_wp2
    go_ret
    exact ⟨_, rfl, World.ownsRow_nil _ _ _ _, Below.refl _ _⟩
  · obtain ⟨i, hi, hz0, hz1, hz2⟩ := info_parts info_int1
    have hr := Lib.run_append_nil_zeros (P := Tryz.prog) w 33 3 33 3 i _ .i64 .i64 Tryz.underlying33 Tryz.underlying3 hi hz0 n (by omega) (by rw [hz1]; decide) (by omega) (by rw [hz2]; omega)
    have hge := grownCap_ge w n 0 3
    have hcm := grownCap_le_maxLen w n 0 3 (by unfold maxLen; omega)
    generalize grownCap w n 0 3 = G at hr hge hcm
    have hown : Hid (IOwn (w.drew.alloc (.cells (Builtin.zeroCells (.int .i64 0 : Value).cells n ++ Builtin.zeroCells (.int .i64 0 : Value).cells (G - n)) 3)) w.heap.size (.slice (some ⟨w.heap.size, 0, none⟩) 0 G) []) := Lib.hid (by
      refine ⟨rfl, .inr ⟨w.heap.size, G, _, rfl, Nat.le_refl _, heap_alloc_new w.drew _, Nat.zero_le _, hcm, ?_, by simp [iCells]⟩⟩
      rw [Array.size_append, size_zeroCells, size_zeroCells]
      show n * 1 + (G - n) * 1 = G * 1
      omega)
    have hbel : Hid (Below w.heap.size w (w.drew.alloc (.cells (Builtin.zeroCells (.int .i64 0 : Value).cells n ++ Builtin.zeroCells (.int .i64 0 : Value).cells (G - n)) 3))) := Lib.hid ((Below.refl w.heap.size w).drew.alloc (Nat.le_refl _) _)
    generalize w.drew.alloc (.cells (Builtin.zeroCells (.int .i64 0 : Value).cells n ++ Builtin.zeroCells (.int .i64 0 : Value).cells (G - n)) 3) = w1 at hr hown hbel
    have b1 : (0 : Int) < (n : Int) := by omega
    have b2 : IntKind.i64.wrap (n : Int) = (n : Int) := by rw [IntKind.wrap_i64]; omega
    have hG : G ≤ 9223372036854775807 := by unfold maxLen at hcm; omega
    clear hi hz0 hz1 hz2 hcm
    go_enter Tryz.func153, Tryz.ntmps153
    go_wp2_with (at_builtin; refine Lib.wpList_append_run _ rfl (.tmp 20) (.tmp 21) 33 3 rfl _ _ rfl rfl _ _ hr ?_)
    go_ret
    exact ⟨_, rfl, hown.out, hbel.out⟩

/-- A slice of such; slices that lie beside each other. -/
structure SlI where
  q : Option Addr
  c : Nat
  l : List Int
structure SlI.Ok (w : World) (x : SlI) : Prop where
  at_ : Ks w x.q x.l
  h1 : x.l.length ≤ x.c
  h2 : x.c ≤ 9223372036854775807
  z : x.q = none → x.c = 0
def totI : List SlI → Nat
  | [] => 0
  | x :: L => x.l.length + totI L
theorem totI_take : ∀ {L : List SlI} {j : Nat} {x : SlI}, L[j]? = some x → totI (L.take (j + 1)) = totI (L.take j) + x.l.length ∧ totI (L.take (j + 1)) ≤ totI L
  | y :: L, 0, x, h => by
    simp only [List.getElem?_cons_zero, Option.some.injEq] at h
    subst h
    simp [totI]
  | y :: L, j + 1, x, h => by
    obtain ⟨h1, h2⟩ := totI_take (L := L) (j := j) (x := x) (by simpa using h)
    simp only [List.take_succ_cons, totI] at h1 h2 ⊢
    omega
  | [], j, x, h => by simp at h
theorem totI_flat : ∀ (L : List SlI), (L.flatMap SlI.l).length = totI L
  | [] => rfl
  | x :: L => by rw [List.flatMap_cons, List.length_append, totI_flat L]; rfl
theorem SlI.Ok.below {w w' : World} {x : SlI} (h : x.Ok w) (hb : Below w.heap.size w w') : x.Ok w' := ⟨h.at_.below hb, h.h1, h.h2, h.z⟩

set_option maxHeartbeats 3200000 in
theorem concatI {w : World} {b m : Nat} {L : List SlI} (hm : m = L.length) (hm0 : m ≤ 1000) (hc : ∀ i x, L[i]? = some x → w.cell? ⟨b, i, none⟩ = some (.slice x.q x.l.length x.c)) (ho : ∀ x ∈ L, x.Ok w) (ht : totI L ≤ 100000) :
    Calls Tryz.prog 127 #[.slice (some ⟨b, 0, none⟩) m m] w fun e w' => ∃ v, e = .returned v ∧ IOwn w' w.heap.size v (L.flatMap SlI.l) ∧ Below w.heap.size w w' := by
  have HM := Lib.hid hm
  have HC := Lib.hid hc
  have HO := Lib.hid ho
  have HT := Lib.hid ht
  clear hm hc ho ht
  go_enter Tryz.func127, Tryz.ntmps127
  go_wp2
  go_loopw [3, 11] (fun t i wr => ∃ j : Nat, i = .int .i64 j ∧ t = .int .i64 (totI (L.take j) : Nat) ∧ j ≤ m ∧ wr = w) (fun _ i _ => m - (intOf i).toNat)
  case atStart => exact ⟨0, rfl, rfl, Nat.zero_le _, rfl⟩
  case round =>
    obtain ⟨j, rfl, rfl, hj, hwr⟩ := hrel
    obtain rfl : w = wr := hwr.symm
    clear hwr
    by_cases hlt : j < m
    · obtain ⟨x, hx⟩ : ∃ x, L[j]? = some x := ⟨_, List.getElem?_eq_getElem (by have := HM.out; omega)⟩
      have c0 := HC.out j x hx
      obtain ⟨t1, t2⟩ := totI_take hx
      have hti : (j : Int) < (m : Int) := by omega
      have ht3 := HT.out
      obtain ⟨T0, hT0⟩ : ∃ y, y = totI (L.take j) := ⟨_, rfl⟩
      obtain ⟨T1, hT1⟩ : ∃ y, y = totI (L.take (j + 1)) := ⟨_, rfl⟩
      rw [← hT0, ← hT1] at t1
      rw [← hT1] at t2
      have HT1 := Lib.hid hT1
      rw [← hT0]
      have hxl := (HO.out x (List.mem_of_getElem? hx)).h1
      obtain ⟨xn, hxn⟩ : ∃ y, y = x.l.length := ⟨_, rfl⟩
      rw [← hxn] at t1 c0 hxl
      have hsum : (T0 : Int) + (xn : Int) = (T1 : Int) := by omega
      have hT1b : T1 ≤ 100000 := by omega
      have hneg : decide ((T1 : Int) < 0) = false := decide_eq_false (by omega)
      clear hx hT0 hT1 t2 ht3 hxn t1
      go_wp2
      go_roundw
      case rel => exact ⟨j + 1, by go_num, by rw [← HT1.out], by omega, by trivial⟩
      case measure => simp [intOf]; omega
    · have hjm : j = m := by omega
      subst hjm
      have hall : Hid (L.take j = L) := Lib.hid (List.take_of_length_le (by have := HM.out; omega))
      have HG := Lib.hid (growI (w := w) (n := totI (L.take j)) (by rw [hall.out]; have := HT.out; omega))
      go_wp2_with fail
      refine HG.out.mono ?_
      rintro e w1 ⟨v, rfl, hv, hb⟩
      have HV := Lib.hid hv
      have HB := Lib.hid hb
      clear hv hb HG
      go_wp2
      go_loopw [6, 27] (fun u i w2 => ∃ j' : Nat, i = .int .i64 j' ∧ j' ≤ j ∧ IOwn w2 w.heap.size u ((L.take j').flatMap SlI.l) ∧ Below w.heap.size w w2) (fun _ i _ => j - (intOf i).toNat)
      case atStart => exact ⟨0, rfl, Nat.zero_le _, HV.out, HB.out⟩
      case round =>
        obtain ⟨j', rfl, hj', hv2, hb2⟩ := hrel
        have HV2 := Lib.hid hv2
        have HB2 := Lib.hid hb2
        clear hv2 hb2 HV HB
        by_cases hlt : j' < j
        · obtain ⟨x, hx⟩ : ∃ x, L[j']? = some x := ⟨_, List.getElem?_eq_getElem (by have := HM.out; omega)⟩
          have c0' := HC.out j' x hx
          have hbl := World.block_lt_of_cell? _ _ c0'
          have c0 : wr.cell? ⟨b, j', none⟩ = some (.slice x.q x.l.length x.c) := by rw [HB2.out.cell (p := ⟨b, j', none⟩) hbl]; exact c0'
          have HXO := Lib.hid ((HO.out x (List.mem_of_getElem? hx)).below HB2.out)
          have HTL : Hid ((L.take j').flatMap SlI.l ++ x.l = (L.take (j' + 1)).flatMap SlI.l ∧ ((L.take j').flatMap SlI.l).length + x.l.length ≤ 1000000) := Lib.hid (by
            refine ⟨?_, ?_⟩
            · rw [List.take_add_one, hx, List.flatMap_append]
              simp
            · obtain ⟨h1, h2⟩ := totI_take hx
              rw [totI_flat]
              have := HT.out
              omega)
          have hti : (j' : Int) < (j : Int) := by omega
          have hsz := HB2.out.size
          clear hx c0' hbl
          go_wp2_with (at_builtin; refine app_slI rfl (.tmp 31) (.tmp 32) rfl rfl HV2.out (m := x.l) rfl rfl HXO.out.at_ HXO.out.z HTL.out.2 hsz ?_; intro v3 w3 hv3 hg3; have HV3 := Lib.hid hv3; have HB3 := Lib.hid (HB2.out.grown hg3 hsz (fun k hk => (World.ownsRow.lt HV2.out k hk).1)); clear hv3 hg3)
          go_roundw
          case rel => exact ⟨j' + 1, by go_num, by omega, by rw [← HTL.out.1]; exact HV3.out, HB3.out⟩
          case measure => simp [intOf]; omega
        · have hje : j' = j := by omega
          have hti : decide ((j' : Int) < (j : Int)) = false := decide_eq_false (by omega)
          go_wp2
          go_ret
          exact ⟨_, rfl, by rw [← hall.out, ← hje]; exact HV2.out, HB2.out⟩

end Go.Proofs.YtfpdcfomfikkiaaGreatDoor
