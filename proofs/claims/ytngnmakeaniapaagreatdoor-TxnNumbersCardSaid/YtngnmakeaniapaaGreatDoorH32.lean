/-
  pager: Pin, Unpin.
  What PagerPins says of a pager, plain.
-/
import Derived.Test.YtngnmakeaniapaaGreatDoorH31
import Derived.Test.YtngnmakeaniapaaGreatDoorH30
set_option linter.unusedVariables false
set_option maxRecDepth 100000
namespace Go.Proofs.YtngnmakeaniapaaGreatDoor
open Go.RowKit

def isPP : Nat → Obj → Bool
  | _, .cells _ t _ => t == 183 || t == 140
  | _, _ => false
theorem isPP_ofGr (i : Nat) (o : Obj) (h : isPP i o = true) : ofGr i o = true := by
  cases o with
  | cells c t f =>
    simp only [isPP, ofGr, Bool.or_eq_true] at h ⊢
    rcases h with h | h <;> simp [h]
  | _ => cases h
theorem isPP_ofGrP {P : Nat} (i : Nat) (o : Obj) (h : isPP i o = true) : ofGrP P i o = true := by
  cases o with
  | cells c t f => exact isPP_ofGr i _ h
  | _ => cases h
theorem isPin_PP (i : Nat) (o : Obj) (h : isTy 183 i o = true) : isPP i o = true := by
  cases o with
  | cells c t f => simp only [isTy, isPP, Bool.or_eq_true] at h ⊢; simp [h]
  | _ => cases h
theorem isPgr_PP (i : Nat) (o : Obj) (h : isTy 140 i o = true) : isPP i o = true := by
  cases o with
  | cells c t f => simp only [isTy, isPP, Bool.or_eq_true] at h ⊢; simp [h]
  | _ => cases h

/-- A pin counts more, or less. -/
def incAt (ps : List (Int × Int)) (i : Nat) (d : Int) : List (Int × Int) := ps.modify i fun x => (x.1, x.2 + d)
theorem incAt_length (ps : List (Int × Int)) (i : Nat) (d : Int) : (incAt ps i d).length = ps.length := by simp [incAt]
theorem incAt_last (ps : List (Int × Int)) (a b d : Int) : incAt (ps ++ [(a, b)]) ps.length d = ps ++ [(a, b + d)] := by
  induction ps with
  | nil => rfl
  | cons y ps ih => exact congrArg (y :: ·) ih
theorem pcells_inc (ps : List (Int × Int)) (i : Nat) (d : Int) {x : Int × Int} (hx : ps[i]? = some x) : pcells (incAt ps i d) = (pcells ps).set (i * 2 + 1) (.int .i64 (x.2 + d)) := by
  induction ps generalizing i with
  | nil => simp at hx
  | cons y ps ih =>
    cases i with
    | zero =>
      simp at hx
      subst hx
      rfl
    | succ i =>
      have e : pcells (incAt (y :: ps) (i + 1) d) = .int .i64 y.1 :: .int .i64 y.2 :: pcells (incAt ps i d) := rfl
      have e2 : pcells (y :: ps) = .int .i64 y.1 :: .int .i64 y.2 :: pcells ps := rfl
      rw [e, e2, ih i (by simpa using hx), show (i + 1) * 2 + 1 = i * 2 + 1 + 1 + 1 by omega]
      rfl
theorem PinsIn.inc {w w' : World} {g cap : Nat} {ps : List (Int × Int)} {cur : Array Value} (h : PinsIn w g cap ps cur) {i : Nat} {d : Int} {x : Int × Int} (hx : ps[i]? = some x)
    (hb : w'.heap[g]? = some (.cells (cur.setIfInBounds (i * 2 + 1) (.int .i64 (x.2 + d))) 183 (0, 0))) : PinsIn w' g cap (incAt ps i d) (cur.setIfInBounds (i * 2 + 1) (.int .i64 (x.2 + d))) := by
  refine ⟨hb, by rw [incAt_length]; exact h.le, h.mx, by simpa using h.size, ?_⟩
  rw [incAt_length, pcells_inc ps i d hx, Array.toList_setIfInBounds, ← h.is, List.take_set]

/-- append(pins, one pin) -/
theorem app_pin {w : World} {ops : Array Oper} {rest : List Oper} {o : Oper} {a : Act} {Q : Exit → Act → World → Prop} (hgd : o.guard = none) (s x : Operand)
    (ho : o.op = .call { callee := .builtin .append, args := #[s, x], argTypes := #[136, 136] })
    {B : Nat} {v : Value} {ps : List (Int × Int)} (hs : a.eval s = v) (hown : w.ownsRow B 183 2 v ps.length (pcells ps)) {b c : Nat} {y z : Int} (hx : a.eval x = .slice (some ⟨b, 0, none⟩) 1 c) (h0 : w.cell? ⟨b, 0, none⟩ = some (.int .i64 y)) (h1 : w.cell? ⟨b, 1, none⟩ = some (.int .i64 z)) (hlen : ps.length ≤ 1000000000) (hB : B ≤ w.heap.size)
    (h : ∀ v' w', w'.ownsRow B 183 2 v' (ps ++ [(y, z)]).length (pcells (ps ++ [(y, z)])) → w.grownBy w' v.ownBlock → wpList Tryz.prog ops Q rest (a.put o.dst v') w') : wpList Tryz.prog ops Q (o :: rest) a w := by
  obtain ⟨i, hi, hz0, hz1, hz2⟩ := info_parts (show (Tryz.prog.info? 183).map (fun i => (i.zero, i.size, i.bytes)) = some (some (.agg #[.int .i64 0, .int .i64 0]), 2, 16) from by kernel_rfl)
  refine wpList_append_own w hgd s x _ ho B 183 i (.agg #[.int .i64 0, .int .i64 0]) 2 16 Tryz.underlying136 hi hz0 hz1 hz2 rfl (by decide) v ps.length (pcells ps) hs hown ⟨b, 0, none⟩ 1 c [.int .i64 y, .int .i64 z] hx rfl
    (fun j u hj => by
      rw [Addr.add_lit, Nat.zero_add]
      match j, hj with
      | 0, hj => cases hj; exact h0
      | 1, hj => cases hj; exact h1
      | j + 2, hj => simp at hj) (fun u hu => by simp only [List.mem_cons, List.not_mem_nil, or_false] at hu; rcases hu with rfl | rfl <;> rfl) (by simp only [maxLen]; omega) (by omega) hB ?_
  intro v' w' h1 h2 _
  refine h v' w' ?_ h2
  have e : pcells (ps ++ [(y, z)]) = pcells ps ++ [.int .i64 y, .int .i64 z] := by simp [pcells]
  rw [List.length_append, e]
  exact h1

section
variable {w w' : World} {B P pd lm fm pl um wm la : Nat} {v v' : Value} {X Y : PG}

theorem GrIs.repin (h : GrIs w B P pd lm fm pl um wm la v X) (hk : Keeps isPP w w') (hb : w'.heap[P]? = some (.cells (grCells pd pl la v' Y) 140 (0, 0))) (hp : w'.ownsRow B 183 2 v' Y.pins.length (pcells Y.pins)) (hS : Y.S = X.S) (hF : Y.F = X.F) (hL : Y.L = X.L) (g0 : Y.g ≤ 1152921504606846976) : GrIs w' B P pd lm fm pl um wm la v' Y :=
  ⟨hb, by rw [hS]; exact h.disk.keeps hk (fun _ _ _ => rfl) (fun _ _ _ => rfl) (fun _ _ _ => rfl) (fun _ _ => rfl) (fun _ _ => rfl), by rw [hF]; exact h.list.keeps hk (fun _ => rfl) (fun _ _ => rfl) (fun _ _ => rfl), by rw [hL]; exact h.mla.keeps hk (fun _ _ => rfl), hp, h.bP, h.bu, h.bw, h.ba, h.nlm, h.nfm, h.nla, g0, h.mP⟩

theorem pin_ne_P (h : GrIs w B P pd lm fm pl um wm la v X) {g : Nat} {cs : Array Value} {f : Nat × Nat} (hg : w.heap[g]? = some (.cells cs 183 f)) : P ≠ g := by
  rintro rfl
  rw [h.blk] at hg
  cases hg

/-- A pin's count has changed. -/
theorem GrIs.inc (h : GrIs w B P pd lm fm pl um wm la v X) {g cap : Nat} {cur : Array Value} (hv : v = .slice (some ⟨g, 0, none⟩) X.pins.length cap) (hgB : B ≤ g) (hp : PinsIn w g cap X.pins cur) {i : Nat} {d : Int} {x : Int × Int} (hx : X.pins[i]? = some x) :
    GrIs (w.setCell ⟨g, i * 2 + 1, none⟩ (.int .i64 (x.2 + d))) B P pd lm fm pl um wm la v { X with pins := incAt X.pins i d } ∧ Below B w (w.setCell ⟨g, i * 2 + 1, none⟩ (.int .i64 (x.2 + d))) ∧ Keeps (ofGrP P) w (w.setCell ⟨g, i * 2 + 1, none⟩ (.int .i64 (x.2 + d))) ∧ ∃ cur', PinsIn (w.setCell ⟨g, i * 2 + 1, none⟩ (.int .i64 (x.2 + d))) g cap (incAt X.pins i d) cur' := by
  obtain ⟨b1, g1⟩ := cell_set (i := i * 2 + 1) (v := .int .i64 (x.2 + d)) hp.blk
  have hk : Keeps isPP w (w.setCell ⟨g, i * 2 + 1, none⟩ (.int .i64 (x.2 + d))) := Keeps.of_grown g1 hp.blk rfl
  have hpi := hp.inc (d := d) hx b1
  refine ⟨h.repin hk (grown_at g1 h.blk (pin_ne_P h hp.blk)) ?_ rfl rfl rfl h.g0, (Below.refl B w).grown g1 h.base (fun k hk => by cases hk; exact hgB), hk.mono isPP_ofGrP, _, hpi⟩
  have := hpi.own hgB
  rw [incAt_length] at this
  show World.ownsRow _ _ _ _ _ (incAt X.pins i d).length _
  rw [hv, incAt_length]
  exact this

def PG.pin (X : PG) : PG := match pidx X.pins X.g with
  | some i => { X with pins := incAt X.pins i 1 }
  | none => { X with pins := X.pins ++ [((X.g : Int), 1)] }

set_option maxHeartbeats 3200000 in
theorem grPin_old (h : GrIs w B P pd lm fm pl um wm la v X) {i : Nat} {x : Int × Int} (hi : pidx X.pins X.g = some i) (hx : X.pins[i]? = some x) (ht : -1000000000 ≤ x.2 ∧ x.2 ≤ 1000000000) :
    Calls Tryz.prog 66 #[.pointer (some ⟨P, 0, none⟩)] w fun e w' => e = .returned (.tuple #[.int .i64 X.g, .int .i64 0]) ∧ GrStep w w' B P pd { X with pins := incAt X.pins i 1 } := by
  have HM := Lib.hid h.made
  have c2 := h.c2
  have hp := grPinned h X.g
  have e : pidxI X.pins X.g = i := by unfold pidxI; rw [hi]
  rw [e] at hp
  have HP := Lib.hid hp
  rcases pinsIn_of h.pins with ⟨_, h0⟩ | ⟨g, cap, cur, hv, hgB, hin⟩
  · rw [h0] at hx; simp at hx
  · have H := Lib.hid h
    have HIN := Lib.hid hin
    have HGB := Lib.hid hgB
    have HV := Lib.hid hv
    have HX := Lib.hid hx
    have hlt : i < X.pins.length := (List.getElem?_eq_some_iff.1 hx).1
    have hle := hin.le
    have hmx : cap ≤ 9223372036854775807 := by have := hin.mx; unfold maxLen at this; omega
    obtain ⟨m, hm⟩ : ∃ m, m = X.pins.length := ⟨_, rfl⟩
    have HC : Hid (∀ w', Below w.heap.size w w' → w'.cell? ⟨P, 7, none⟩ = some (.slice (some ⟨g, 0, none⟩) m cap) ∧ w'.cell? ⟨g, i * 2 + 1, none⟩ = some (.int .i64 x.2) ∧ (∀ j, w'.frozen? ⟨g, j, none⟩ = false) ∧ PinsIn w' g cap X.pins cur) := Lib.hid fun w' hb => by
      have hb' : w'.heap[g]? = some (.cells cur 183 (0, 0)) := (hb.block _ (Array.getElem?_eq_some_iff.1 hin.blk).1).trans hin.blk
      refine ⟨by rw [hm, ← hv]; exact (h.below hb).c7, ?_, fun j => Joins.unfrozen_of_block hb' j, hb', hin.le, hin.mx, hin.size, hin.is⟩
      rw [Joins.cell_of_block hb', hin.get (by omega)]
      exact (pcells_get hx).2
    rw [← hm] at hlt hle
    clear h hp e hi hx hin hgB hv hm
    obtain ⟨y, hy⟩ : ∃ y, y = x.2 := ⟨_, rfl⟩
    rw [← hy] at ht HC
    have HY := Lib.hid hy
    have HG : Hid (∀ w1, Below w.heap.size w w1 → GrStep w (w1.setCell ⟨g, i * 2 + 1, none⟩ (.int .i64 (y + 1))) B P pd { X with pins := incAt X.pins i 1 }) := Lib.hid fun w1 hb => by
      obtain ⟨q1, q2, q3, _⟩ := (H.out.below hb).inc HV.out HGB.out (HC.out _ hb).2.2.2 (d := 1) HX.out
      rw [← HY.out] at q1 q2 q3
      exact ⟨⟨_, _, _, _, _, _, _, q1⟩, (hb.mono H.out.base).trans q2, (Keeps.below hb).trans q3⟩
    clear hy
    have hi0 : (0 : Int) ≤ (i : Int) := by omega
    have hi1 : (i : Int) < (m : Int) := by omega
    have hd0 : decide ((i : Int) < 0) = false := decide_eq_false (by omega)
    generalize (X.g : Int) = gg at *
    go_enter Tryz.func66, Tryz.ntmps66
    go_wp2_with fail
    refine HM.out.mono ?_; rintro e w1 ⟨rfl, rfl⟩
    go_wp2_with fail
    refine HP.out.mono ?_; rintro e w1 ⟨rfl, hb1⟩
    obtain ⟨c7, cx, uf, _⟩ := HC.out _ hb1
    have HS := Lib.hid (HG.out _ hb1)
    clear hb1
    go_wp2
    go_ret2
    exact ⟨rfl, HS.out⟩

theorem own_slice_pin {w : World} {B : Nat} {v : Value} {n : Nat} {xs : List Value} (h : w.ownsRow B 183 2 v n xs) : ∃ q c, v = .slice q n c ∧ n ≤ c ∧ c ≤ 9223372036854775807 := by
  rcases h.2 with ⟨rfl, h0⟩ | ⟨g, cap, cur, rfl, _, _, h1, h2, _⟩
  · exact ⟨none, 0, by rw [h0], by omega, by omega⟩
  · exact ⟨_, _, rfl, h1, by unfold maxLen at h2; omega⟩

theorem own_is_pin {w : World} {B : Nat} {v : Value} {n : Nat} {xs : List Value} (h : w.ownsRow B 183 2 v n xs) {b : Nat} (hb : v.ownBlock = some b) : B ≤ b ∧ ∃ cur, w.heap[b]? = some (.cells cur 183 (0, 0)) := by
  rcases h.2 with ⟨rfl, _⟩ | ⟨g, cap, cur, rfl, h1, h2, _⟩
  · cases hb
  · cases hb
    exact ⟨h1, _, h2⟩

/-- Behind the append of a pin, in memory. -/
structure PinNew (w w2 : World) (B P pd : Nat) (X : PG) (gg : Int) (g2 cap2 n : Nat) : Prop where
  c7 : ∃ v, w2.cell? ⟨P, 7, none⟩ = some v
  uP : ∀ j, w2.frozen? ⟨P, j, none⟩ = false
  c1 : w2.cell? ⟨g2, n * 2 + 1, none⟩ = some (.int .i64 0)
  ug : ∀ j, w2.frozen? ⟨g2, j, none⟩ = false
  ne : P ≠ g2
  le : n + 1 ≤ cap2
  mx : cap2 ≤ 9223372036854775807
  fin : GrStep w ((w2.setCell ⟨P, 7, none⟩ (.slice (some ⟨g2, 0, none⟩) (n + 1) cap2)).setCell ⟨g2, n * 2 + 1, none⟩ (.int .i64 1)) B P pd { X with pins := X.pins ++ [(gg, 1)] }

theorem pin_new (h : GrIs w' B P pd lm fm pl um wm la v X) (hb0 : Below B w w') (hk0 : Keeps (ofGrP P) w w') {n : Nat} (hn : n = X.pins.length) {gg : Int} {v2 : Value} {w2 : World}
    (ho : w2.ownsRow B 183 2 v2 (X.pins ++ [(gg, 0)]).length (pcells (X.pins ++ [(gg, 0)]))) (hg : w'.grownBy w2 v.ownBlock) : ∃ g2 cap2, v2 = .slice (some ⟨g2, 0, none⟩) (n + 1) cap2 ∧ PinNew w w2 B P pd X gg g2 cap2 n := by
  have hl : (X.pins ++ [(gg, 0)]).length = n + 1 := by rw [List.length_append, hn]; rfl
  rcases pinsIn_of ho with ⟨_, h0⟩ | ⟨g2, cap2, cur2, hv2, hgB, hin⟩
  · simp at h0
  · have hk : Keeps (isTy 183) w' w2 := Keeps.grown hg fun b o hb ho' => by
      obtain ⟨_, cur, hc⟩ := own_is_pin h.pins hb
      rw [hc] at ho'
      cases ho'
      simp [isTy]
    have hbl : Below B w' w2 := (Below.refl B w').grown hg h.base fun k hk => (own_is_pin h.pins hk).1
    have hP2 := hk.stay h.blk rfl
    have hne : P ≠ g2 := by
      rintro rfl
      rw [hin.blk] at hP2
      cases hP2
    have hx : (X.pins ++ [(gg, 0)])[n]? = some (gg, 0) := by rw [hn]; simp
    refine ⟨g2, cap2, by rw [hv2, hl], ⟨_, (Joins.cell_of_block hP2 7).trans rfl⟩, fun j => Joins.unfrozen_of_block hP2 j, ?_, fun j => Joins.unfrozen_of_block hin.blk j, hne, by have := hin.le; omega, by have := hin.mx; unfold maxLen at this; omega, ?_⟩
    · rw [Joins.cell_of_block hin.blk, hin.get (by omega)]
      exact (pcells_get hx).2
    · obtain ⟨b3, g3⟩ := cell_set (i := 7) (v := v2) hP2
      have hk3 : Keeps (isTy 140) w2 (w2.setCell ⟨P, 7, none⟩ v2) := Keeps.of_grown g3 hP2 (by simp [isTy])
      have h3 : GrIs (w2.setCell ⟨P, 7, none⟩ v2) B P pd lm fm pl um wm la v2 { X with pins := X.pins ++ [(gg, 0)] } :=
        h.repin ((hk.mono isPin_PP).trans (hk3.mono isPgr_PP)) (by simpa [grCells] using b3) (pins_keeps ho hk3 (fun _ _ _ => rfl)) rfl rfl rfl h.g0
      have hin3 : PinsIn (w2.setCell ⟨P, 7, none⟩ v2) g2 cap2 (X.pins ++ [(gg, 0)]) cur2 := ⟨hk3.stay hin.blk rfl, hin.le, hin.mx, hin.size, hin.is⟩
      obtain ⟨q1, q2, q3, _⟩ := h3.inc (i := n) (d := 1) (x := (gg, 0)) hv2 hgB hin3 hx
      have e : incAt (X.pins ++ [(gg, 0)]) n 1 = X.pins ++ [(gg, 1)] := by
        rw [hn]
        exact incAt_last _ _ _ _
      have hb3 : Below B w2 (w2.setCell ⟨P, 7, none⟩ v2) := (Below.refl B w2).grown g3 (Nat.le_trans h.base hk.size) fun k hk => by cases hk; exact h.bP
      rw [← hl, ← hv2]
      simp only [Int.zero_add] at q1 q2 q3
      rw [show ({ ({ X with pins := X.pins ++ [(gg, 0)] } : PG) with pins := incAt (X.pins ++ [(gg, 0)]) n 1 } : PG) = { X with pins := X.pins ++ [(gg, 1)] } by rw [e]] at q1
      exact ⟨⟨_, _, _, _, _, _, _, q1⟩, ((hb0.trans hbl).trans hb3).trans q2, ((hk0.trans (hk.mono isPin_ofGrP)).trans (hk3.mono isPager_ofGrP)).trans q3⟩

set_option maxHeartbeats 3200000 in
theorem grPin_new (h : GrIs w B P pd lm fm pl um wm la v X) (hi : pidx X.pins X.g = none) (hlen : X.pins.length ≤ 1000000) :
    Calls Tryz.prog 66 #[.pointer (some ⟨P, 0, none⟩)] w fun e w' => e = .returned (.tuple #[.int .i64 X.g, .int .i64 0]) ∧ GrStep w w' B P pd { X with pins := X.pins ++ [((X.g : Int), 1)] } := by
  have HM := Lib.hid h.made
  have c2 := h.c2
  have hp := grPinned h X.g
  have e : pidxI X.pins X.g = -1 := by unfold pidxI; rw [hi]
  rw [e] at hp
  have HP := Lib.hid hp
  have H := Lib.hid h
  obtain ⟨q, n, c, hpa⟩ := pinsAt h.pins
  obtain rfl := hpa.hv
  have hn63 : n ≤ 9223372036854775807 := by have := hpa.hc; have := hpa.hnc; omega
  have HN := Lib.hid hpa.hn
  have HLN := Lib.hid hlen
  have HC : Hid (∀ w', Below w.heap.size w w' → w'.cell? ⟨P, 7, none⟩ = some (.slice q n c) ∧ w'.cell? ⟨P, 1, none⟩ = some (.pointer (some ⟨pl, 0, none⟩)) ∧ ∀ j, w'.frozen? ⟨P, j, none⟩ = false) := Lib.hid fun w' hb => ⟨(h.below hb).c7, (h.below hb).c1, (h.below hb).soft⟩
  clear h hp e hi hpa hlen
  obtain ⟨gg, hgg⟩ : ∃ gg : Int, gg = (X.g : Int) := ⟨_, rfl⟩
  rw [← hgg] at c2 HP ⊢
  have HGG := Lib.hid hgg
  clear hgg
  go_enter Tryz.func66, Tryz.ntmps66
  go_wp2_with fail
  refine HM.out.mono ?_; rintro e w1 ⟨rfl, rfl⟩
  go_wp2_with fail
  refine HP.out.mono ?_; rintro e w1 ⟨rfl, hb1⟩
  have HB1 := Lib.hid hb1
  obtain ⟨c7, _, uf⟩ := HC.out _ hb1
  obtain ⟨c7', _, uf'⟩ := HC.out (w1.alloc (.cells #[.int .i64 gg, .int .i64 0] 183)) (hb1.alloc hb1.size _)
  have H1 := Lib.hid (H.out.below (hb1.alloc hb1.size (.cells #[.int .i64 gg, .int .i64 0] 183)))
  have hbx := heap_alloc_new w1 (.cells #[.int .i64 gg, .int .i64 0] 183)
  have HBX := Lib.hid hbx
  have HBL := Lib.hid ((hb1.alloc hb1.size (.cells #[.int .i64 gg, .int .i64 0] 183)).mono H.out.base)
  have HKL := Lib.hid (Keeps.below (K := ofGrP P) (hb1.alloc hb1.size (.cells #[.int .i64 gg, .int .i64 0] 183)))
  clear hb1 hbx
  go_wp2_with (at_builtin; refine app_pin rfl (.tmp 28) (.tmp 31) rfl rfl H1.out.pins rfl ((Joins.cell_of_block HBX.out 0).trans rfl) ((Joins.cell_of_block HBX.out 1).trans rfl) (by have := HLN.out; omega) H1.out.base ?_; intro v2 w2 ho2 hg2; obtain ⟨g2, cap2, rfl, hpn⟩ := pin_new (w := w) H1.out HBL.out HKL.out HN.out ho2 hg2; have HPN := Lib.hid hpn; obtain ⟨v7, k7⟩ := hpn.c7; have kP := hpn.uP; have k1 := hpn.c1; have kg := hpn.ug; have kn := hpn.ne; have kl := hpn.le; have km := hpn.mx; have kn' := hpn.ne.symm; clear ho2 hg2 hpn)
  go_ret2
  exact ⟨rfl, HPN.out.fin⟩

set_option maxHeartbeats 800000 in
theorem grUnpin_none (h : GrIs w B P pd lm fm pl um wm la v X) {gen : Int} (hi : pidx X.pins gen = none) :
    Calls Tryz.prog 70 #[.pointer (some ⟨P, 0, none⟩), .int .i64 gen] w fun e w' => e = .returned (.int .i64 13) ∧ Below w.heap.size w w' := by
  have HM := Lib.hid h.made
  have hp := grPinned h gen
  have e : pidxI X.pins gen = -1 := by unfold pidxI; rw [hi]
  rw [e] at hp
  have HP := Lib.hid hp
  clear h hp e hi
  go_enter Tryz.func70, Tryz.ntmps70
  go_wp2_with fail
  refine HM.out.mono ?_; rintro e w1 ⟨rfl, rfl⟩
  go_wp2_with fail
  refine HP.out.mono ?_; rintro e w1 ⟨rfl, hb1⟩
  have HB := Lib.hid hb1
  clear hb1
  go_wp2
  go_ret
  exact ⟨rfl, HB.out⟩

/-- What Unpin stands on. -/
structure UnOn (w : World) (B P pd lm fm pl um wm la g cap m i : Nat) (v : Value) (y : Int) (X : PG) : Prop where
  c7 : ∀ w', Below w.heap.size w w' → w'.cell? ⟨P, 7, none⟩ = some (.slice (some ⟨g, 0, none⟩) m cap)
  cx : ∀ w', Below w.heap.size w w' → w'.cell? ⟨g, i * 2 + 1, none⟩ = some (.int .i64 y)
  uf : ∀ w', Below w.heap.size w w' → ∀ j, w'.frozen? ⟨g, j, none⟩ = false
  ne : g ≠ P
  lt : i < m
  le : m ≤ cap
  mx : cap ≤ 9223372036854775807
  ln : m = X.pins.length
  gB : B ≤ g
  vv : v = .slice (some ⟨g, 0, none⟩) X.pins.length cap
  inc : ∀ w', Below w.heap.size w w' → GrIs (w'.setCell ⟨g, i * 2 + 1, none⟩ (.int .i64 (y - 1))) B P pd lm fm pl um wm la v { X with pins := incAt X.pins i (-1) } ∧ Below B w (w'.setCell ⟨g, i * 2 + 1, none⟩ (.int .i64 (y - 1))) ∧ Keeps (ofGrP P) w (w'.setCell ⟨g, i * 2 + 1, none⟩ (.int .i64 (y - 1))) ∧ ∃ cur', PinsIn (w'.setCell ⟨g, i * 2 + 1, none⟩ (.int .i64 (y - 1))) g cap (incAt X.pins i (-1)) cur'

theorem unOn (h : GrIs w B P pd lm fm pl um wm la v X) {i : Nat} {x : Int × Int} (hx : X.pins[i]? = some x) : ∃ g cap m, UnOn w B P pd lm fm pl um wm la g cap m i v x.2 X := by
  rcases pinsIn_of h.pins with ⟨_, h0⟩ | ⟨g, cap, cur, hv, hgB, hin⟩
  · rw [h0] at hx; simp at hx
  · have hlt : i < X.pins.length := (List.getElem?_eq_some_iff.1 hx).1
    have hb' : ∀ w', Below w.heap.size w w' → PinsIn w' g cap X.pins cur := fun w' hb => ⟨(hb.block _ (Array.getElem?_eq_some_iff.1 hin.blk).1).trans hin.blk, hin.le, hin.mx, hin.size, hin.is⟩
    refine ⟨g, cap, X.pins.length, fun w' hb => by rw [← hv]; exact (h.below hb).c7, fun w' hb => ?_, fun w' hb j => Joins.unfrozen_of_block (hb' w' hb).blk j, (pin_ne_P h hin.blk).symm, hlt, hin.le, by have := hin.mx; unfold maxLen at this; omega, rfl, hgB, hv, fun w' hb => ?_⟩
    · rw [Joins.cell_of_block (hb' w' hb).blk, hin.get (by omega)]
      exact (pcells_get hx).2
    · obtain ⟨q1, q2, q3, q4⟩ := (h.below hb).inc hv hgB (hb' w' hb) (d := -1) hx
      exact ⟨q1, (hb.mono h.base).trans q2, (Keeps.below hb).trans q3, q4⟩

set_option maxHeartbeats 3200000 in
theorem grUnpin_less (h : GrIs w B P pd lm fm pl um wm la v X) {gen : Int} {i : Nat} {x : Int × Int} (hi : pidx X.pins gen = some i) (hx : X.pins[i]? = some x) (ht : 2 ≤ x.2 ∧ x.2 ≤ 1000000000) :
    Calls Tryz.prog 70 #[.pointer (some ⟨P, 0, none⟩), .int .i64 gen] w fun e w' => e = .returned (.int .i64 0) ∧ GrStep w w' B P pd ({ X with pins := incAt X.pins i (-1) } : PG).settle := by
  have HM := Lib.hid h.made
  have hp := grPinned h gen
  have e : pidxI X.pins gen = i := by unfold pidxI; rw [hi]
  rw [e] at hp
  have HP := Lib.hid hp
  obtain ⟨g, cap, m, hu⟩ := unOn h hx
  obtain ⟨y, hy⟩ : ∃ y, y = x.2 := ⟨_, rfl⟩
  rw [← hy] at hu ht
  have HU := Lib.hid hu
  have hlt := hu.lt
  have hle := hu.le
  have hmx := hu.mx
  have hi0 : (0 : Int) ≤ (i : Int) := by omega
  have hi1 : (i : Int) < (m : Int) := by omega
  have hd0 : decide ((i : Int) < 0) = false := decide_eq_false (by omega)
  have hz : ((y - 1 : Int) == 0) = false := by rw [beq_eq_false_iff_ne]; omega
  have hgne := hu.ne
  have hgne' := hu.ne.symm
  clear h hp e hi hx hu hy
  go_enter Tryz.func70, Tryz.ntmps70
  go_wp2_with fail
  refine HM.out.mono ?_; rintro e w1 ⟨rfl, rfl⟩
  go_wp2_with fail
  refine HP.out.mono ?_; rintro e w1 ⟨rfl, hb1⟩
  have c7 := HU.out.c7 _ hb1
  have cx := HU.out.cx _ hb1
  have uf := HU.out.uf _ hb1
  obtain ⟨q1, q2, q3, _⟩ := HU.out.inc _ hb1
  have HST := Lib.hid (grSettle q1)
  have Q2 := Lib.hid q2
  have Q3 := Lib.hid q3
  clear hb1 q1 q2 q3
  go_wp2_with fail
  refine HST.out.mono ?_; rintro e w4 ⟨rfl, hs4⟩
  have HS4 := Lib.hid (GrStep.of Q2.out Q3.out hs4)
  clear hs4
  go_wp2
  go_ret
  exact ⟨rfl, HS4.out⟩

theorem incAt_erase (ps : List (Int × Int)) (i : Nat) (d : Int) : (incAt ps i d).eraseIdx i = ps.eraseIdx i := by
  induction ps generalizing i with
  | nil => simp [incAt]
  | cons y ps ih =>
    cases i with
    | zero => rfl
    | succ i => exact congrArg (y :: ·) (ih i)

set_option maxHeartbeats 3200000 in
theorem grUnpin_gone (h : GrIs w B P pd lm fm pl um wm la v X) {gen : Int} {i : Nat} {x : Int × Int} (hi : pidx X.pins gen = some i) (hx : X.pins[i]? = some x) (ht : x.2 = 1) :
    Calls Tryz.prog 70 #[.pointer (some ⟨P, 0, none⟩), .int .i64 gen] w fun e w' => e = .returned (.int .i64 0) ∧ GrStep w w' B P pd ({ X with pins := X.pins.eraseIdx i } : PG).settle := by
  have HM := Lib.hid h.made
  have hp := grPinned h gen
  have e : pidxI X.pins gen = i := by unfold pidxI; rw [hi]
  rw [e] at hp
  have HP := Lib.hid hp
  obtain ⟨g, cap, m, hu⟩ := unOn h hx
  rw [ht] at hu
  have HU := Lib.hid hu
  have hlt := hu.lt
  have hle := hu.le
  have hmx := hu.mx
  have hi0 : (0 : Int) ≤ (i : Int) := by omega
  have hi1 : (i : Int) < (m : Int) := by omega
  have hd0 : decide ((i : Int) < 0) = false := decide_eq_false (by omega)
  have hgne := hu.ne
  have hgne' := hu.ne.symm
  have HBS := Lib.hid h.base
  clear h hp e hi hx hu ht
  go_enter Tryz.func70, Tryz.ntmps70
  go_wp2_with fail
  refine HM.out.mono ?_; rintro e w1 ⟨rfl, rfl⟩
  go_wp2_with fail
  refine HP.out.mono ?_; rintro e w1 ⟨rfl, hb1⟩
  have c7 := HU.out.c7 _ hb1
  have cx := HU.out.cx _ hb1
  have uf := HU.out.uf _ hb1
  obtain ⟨q1, q2, q3, cur', q4⟩ := HU.out.inc _ hb1
  have hdel := del_any q4 (i := i) (by rw [incAt_length, ← HU.out.ln]; exact hlt)
  rw [incAt_length, ← HU.out.ln, incAt_erase] at hdel
  have HDEL := Lib.hid hdel
  have Q1 := Lib.hid q1
  have Q2 := Lib.hid q2
  have Q3 := Lib.hid q3
  have Q4 := Lib.hid q4.blk
  clear hb1 q1 q2 q3 q4 hdel
  simp only [show (1 : Int) - 1 = 0 from rfl] at Q1 Q2 Q3 Q4 HDEL
  go_wp2_with fail
  refine HDEL.out.mono ?_; rintro e w3 ⟨rfl, cur2, hg3, hin3⟩
  have hk3 : Keeps (isTy 183) _ w3 := Keeps.of_grown hg3 Q4.out (by simp [isTy])
  have hP3 := hk3.stay Q1.out.blk rfl
  have c73 := (Joins.cell_of_block hP3 7)
  have u3 : ∀ j, w3.frozen? ⟨P, j, none⟩ = false := fun j => Joins.unfrozen_of_block hP3 j
  have HFIN : Hid (∀ w4, w4 = w3.setCell ⟨P, 7, none⟩ (.slice (some ⟨g, 0, none⟩) (m - 1) cap) → GrIs w4 B P pd lm fm pl um wm la (.slice (some ⟨g, 0, none⟩) (m - 1) cap) { X with pins := X.pins.eraseIdx i } ∧ Below B w w4 ∧ Keeps (ofGrP P) w w4) := Lib.hid (by
    rintro w4 rfl
    obtain ⟨b4, g4⟩ := cell_set (i := 7) (v := .slice (some ⟨g, 0, none⟩) (m - 1) cap) hP3
    have hk4 : Keeps (isTy 140) w3 (w3.setCell ⟨P, 7, none⟩ (.slice (some ⟨g, 0, none⟩) (m - 1) cap)) := Keeps.of_grown g4 hP3 (by simp [isTy])
    have hl : (X.pins.eraseIdx i).length = m - 1 := by rw [List.length_eraseIdx_of_lt (by rw [← HU.out.ln]; exact hlt), HU.out.ln]
    have hown := hin3.own HU.out.gB
    rw [hl] at hown
    refine ⟨Q1.out.repin ((hk3.mono isPin_PP).trans (hk4.mono isPgr_PP)) (by simpa [grCells] using b4) (by show World.ownsRow _ _ _ _ _ (X.pins.eraseIdx i).length _; rw [hl]; exact pins_keeps hown hk4 (fun _ _ _ => rfl)) rfl rfl rfl Q1.out.g0, ?_, (Q3.out.trans (hk3.mono isPin_ofGrP)).trans (hk4.mono isPager_ofGrP)⟩
    exact (Q2.out.grown hg3 (Nat.le_trans HBS.out Q3.out.size) (fun k hk => by cases hk; exact HU.out.gB)).grown g4 (Nat.le_trans HBS.out (Nat.le_trans Q3.out.size hk3.size)) (fun k hk => by cases hk; exact Q1.out.bP))
  have c73' : w3.cell? ⟨P, 7, none⟩ = some v := c73.trans rfl
  clear c73 hg3 hin3 hk3 hP3
  have HFG := Lib.hid (HFIN.out _ rfl)
  have HST := Lib.hid (grSettle HFG.out.1)
  go_wp2_with fail
  refine HST.out.mono ?_; rintro e w5 ⟨rfl, hs5⟩
  have HS5 := Lib.hid (GrStep.of HFG.out.2.1 HFG.out.2.2 hs5)
  clear hs5
  go_wp2
  go_ret
  exact ⟨rfl, HS5.out⟩
end

end Go.Proofs.YtngnmakeaniapaaGreatDoor

set_option linter.unusedVariables false
set_option maxRecDepth 100000
namespace Go.Proofs.YtngnmakeaniapaaGreatDoor
open Go.RowKit

/-- The page of a round of the first. -/
def pnPage (j : Nat) : List UInt8 := pageB 5 (2 + j) 3 [UInt8.ofNat j]
theorem pnPage_length (j : Nat) : (pnPage j).length = 512 := pageB_length (by simp)

/-- What stays through the law; m pages are there to be read; g the generation; the pins. -/
structure PnC (X : PG) (g m : Nat) (ops : Int) (ps : List (Int × Int)) : Prop where
  lo : X.F.lo = 2
  hi : X.F.hi = 100
  g : X.g = g
  n : X.n = 1
  d : X.d = 1
  fl : X.failed = false
  ps : X.pins = ps
  left : X.S.left = -1
  ops : X.S.ops ≤ ops
  size : X.S.size = 100
  rd : ∀ j, j < m → X.S.read ((2 + j : Nat) : Int) = pnPage j

/-- The pages from a on are in use up to b; those from l on are laid; those ahead of a wait. -/
structure PnX (X : PG) (g m a l b : Nat) (ops : Int) (ps : List (Int × Int)) : Prop where
  c : PnC X g m ops ps
  us : ∀ x, X.F.used x = (decide ((a : Int) ≤ x) && decide (x < (b : Int)))
  L : ∀ x, X.L x = (decide ((l : Int) ≤ x) && decide (x < (b : Int)))
  w1 : ∀ x, (X.F.waits x).isSome = (decide ((2 : Int) ≤ x) && decide (x < (a : Int)))
  w2 : ∀ x w, X.F.waits x = some w → 4 ≤ w ∧ w ≤ (g : Int) + 1 ∧ (l = b → w ≤ (g : Int))
  al : 2 ≤ a ∧ a ≤ l ∧ l ≤ b ∧ b < 100

theorem PnX.least {X : PG} {g m a l b : Nat} {ops : Int} {ps : List (Int × Int)} (h : PnX X g m a l b ops ps) : X.F.least = some (b : Int) := by
  obtain ⟨a1, a2, a3, a4⟩ := h.al
  have hw : ∀ x : Int, (a : Int) ≤ x → X.F.waits x = none := fun x hx => by
    have := h.w1 x
    rw [decide_eq_false (show ¬ x < (a : Int) by omega), Bool.and_false] at this
    cases hw : X.F.waits x with
    | none => rfl
    | some w => rw [hw] at this; cases this
  refine FL.least_is ?_ fun j h1 h2 h3 => ?_
  · unfold FL.st FL.has
    rw [h.us, hw _ (by omega), h.c.lo, h.c.hi, decide_eq_true (show (2 : Int) ≤ (b : Int) by omega), decide_eq_true (show (b : Int) < 100 by omega), decide_eq_false (show ¬ (b : Int) < (b : Int) by omega), Bool.and_false]
    rfl
  · obtain ⟨h4, h5, _⟩ := FL.free_used h3
    have hlo := h.c.lo
    by_cases hja : j < (a : Int)
    · have := h.w1 j
      rw [h5, decide_eq_true (show (2 : Int) ≤ j by omega), decide_eq_true hja] at this
      cases this
    · rw [h.us, decide_eq_true (show (a : Int) ≤ j by omega), decide_eq_true h2] at h4
      cases h4

theorem PnX.st {X : PG} {g m a l b : Nat} {ops : Int} {ps : List (Int × Int)} (h : PnX X g m a l b ops ps) {x : Int} (h1 : (a : Int) ≤ x) (h2 : x < (b : Int)) : X.F.st x = 2 := by
  obtain ⟨a1, a2, a3, a4⟩ := h.al
  refine FL.st_two.2 ⟨FL.has_iff.2 ?_, ?_⟩
  · rw [h.c.lo, h.c.hi]; omega
  · rw [h.us, decide_eq_true h1, decide_eq_true h2]; rfl
theorem PnX.st_any {X : PG} {g m a l b : Nat} {ops : Int} {ps : List (Int × Int)} (h : PnX X g m a l b ops ps) {x : Int} (h1 : (2 : Int) ≤ x) (h2 : x < (b : Int)) : X.F.st x ≠ 0 := by
  obtain ⟨a1, a2, a3, a4⟩ := h.al
  have hh : X.F.has x = true := FL.has_iff.2 (by rw [h.c.lo, h.c.hi]; omega)
  unfold FL.st
  rw [if_pos hh]
  split
  · decide
  · split <;> decide
theorem PnX.laid {X : PG} {g m a l b : Nat} {ops : Int} {ps : List (Int × Int)} (h : PnX X g m a l b ops ps) (k : Int) (hk : X.L k = true) : X.F.st k = 2 := by
  rw [h.L, Bool.and_eq_true, decide_eq_true_iff, decide_eq_true_iff] at hk
  exact h.st (by have := h.al; omega) hk.2

theorem PnX.lay {X : PG} {g m a l b : Nat} {ops : Int} {ps : List (Int × Int)} (h : PnX X g m a l b ops ps) (hb : b + 1 < 100) {pg : List UInt8} (hp : pg.length = 512) {m' : Nat} (hm : m' = m ∧ m + 2 ≤ b ∨ m' = m + 1 ∧ b = 2 + m ∧ pg = pnPage m) : PnX (X.lay (b : Int) pg) g m' a l (b + 1) (ops + 1) ps := by
  obtain ⟨⟨c1, c2, c3, c4, c5, c6, c7, c8, c9, c10, c11⟩, h2, h3, h4, h5, a1, a2, a3, a4⟩ := h
  refine ⟨⟨c1, c2, c3, c4, c5, c6, c7, SD.tick_left c8, by show X.S.ops + 1 ≤ _; omega, c10, fun j hj => ?_⟩, fun x => ?_, fun x => ?_, h4, fun x w hx => ⟨(h5 x w hx).1, (h5 x w hx).2.1, fun e => by omega⟩, by omega⟩
  · rw [PG.lay_read X hp]
    rcases hm with ⟨rfl, hmb⟩ | ⟨rfl, rfl, rfl⟩
    · rw [if_neg (by omega)]
      exact c11 j hj
    · by_cases hjm : j = m
      · rw [if_pos (by omega), hjm]
      · rw [if_neg (by omega)]
        exact c11 j (by omega)
  · show (if x = (b : Int) then true else X.F.used x) = _
    rw [h2]
    by_cases hx : x = (b : Int)
    · rw [if_pos hx, decide_eq_true (by omega), decide_eq_true (by omega)]; rfl
    · rw [if_neg hx]
      by_cases h1 : x < (b : Int)
      · rw [decide_eq_true h1, decide_eq_true (show x < ((b + 1 : Nat) : Int) by omega)]
      · rw [decide_eq_false h1, decide_eq_false (show ¬ x < ((b + 1 : Nat) : Int) by omega)]
  · show (if x = (b : Int) then true else X.L x) = _
    rw [h3]
    by_cases hx : x = (b : Int)
    · rw [if_pos hx, decide_eq_true (by omega), decide_eq_true (by omega)]; rfl
    · rw [if_neg hx]
      by_cases h1 : x < (b : Int)
      · rw [decide_eq_true h1, decide_eq_true (show x < ((b + 1 : Nat) : Int) by omega)]
      · rw [decide_eq_false h1, decide_eq_false (show ¬ x < ((b + 1 : Nat) : Int) by omega)]

theorem PnX.drop {X : PG} {g m a l b : Nat} {ops : Int} {ps : List (Int × Int)} (h : PnX X g m a l b ops ps) (ha : a < l) (hlb : l < b) (hg : 3 ≤ g) : PnX (X.drop (a : Int)) g m (a + 1) l b ops ps ∧ X.dropE (a : Int) = 0 := by
  have hst := h.st (x := (a : Int)) (by omega) (by have := h.al; omega)
  obtain ⟨⟨c1, c2, c3, c4, c5, c6, c7, c8, c9, c10, c11⟩, h2, h3, h4, h5, a1, a2, a3, a4⟩ := h
  have hL : ¬ X.L (a : Int) = true := by
    rw [h3, decide_eq_false (show ¬ (l : Int) ≤ (a : Int) by omega)]
    simp
  unfold PG.drop PG.dropE
  rw [if_neg hL, if_pos hst, if_neg hL, if_pos hst]
  refine ⟨⟨⟨c1, c2, c3, c4, c5, c6, c7, c8, c9, c10, c11⟩, fun x => ?_, h3, fun x => ?_, fun x w hx => ?_, by omega⟩, rfl⟩
  · show (if x = (a : Int) then false else X.F.used x) = _
    rw [h2]
    by_cases hx : x = (a : Int)
    · rw [if_pos hx, decide_eq_false (show ¬ ((a + 1 : Nat) : Int) ≤ x by omega)]; rfl
    · rw [if_neg hx]
      by_cases h1 : (a : Int) ≤ x
      · rw [decide_eq_true h1, decide_eq_true (show ((a + 1 : Nat) : Int) ≤ x by omega)]
      · rw [decide_eq_false h1, decide_eq_false (show ¬ ((a + 1 : Nat) : Int) ≤ x by omega)]
  · show (if x = (a : Int) then some ((X.g : Int) + 1) else X.F.waits x).isSome = _
    by_cases hx : x = (a : Int)
    · rw [if_pos hx, decide_eq_true (by omega), decide_eq_true (by omega)]; rfl
    · rw [if_neg hx, h4]
      by_cases h1 : x < (a : Int)
      · rw [decide_eq_true h1, decide_eq_true (show x < ((a + 1 : Nat) : Int) by omega)]
      · rw [decide_eq_false h1, decide_eq_false (show ¬ x < ((a + 1 : Nat) : Int) by omega)]
  · have hx' : (if x = (a : Int) then some ((X.g : Int) + 1) else X.F.waits x) = some w := hx
    by_cases e : x = (a : Int)
    · rw [if_pos e, c3] at hx'
      cases hx'
      exact ⟨by omega, by omega, fun e => by omega⟩
    · rw [if_neg e] at hx'
      exact h5 x w hx'

theorem PnX.follows {X : PG} {g m a l b : Nat} {ops : Int} {ps : List (Int × Int)} (h : PnX X g m a l b ops ps) {r : Nat} (h1 : a ≤ r) (h2 : r < b) (hg : g ≤ 1000) : Follows X r 1 1 := by
  obtain ⟨a1, a2, a3, a4⟩ := h.al
  refine ⟨.inr ⟨by omega, h.st (by omega) (by omega)⟩, ?_, by rw [h.c.n]; decide, by rw [h.c.d]; decide⟩
  rw [h.c.g]
  exact MRight.mk' (by omega)

/-- A commit, where what waits is kept: by a pin of 3, or as nothing waits. -/
theorem PnX.commit {X : PG} {g m a l b : Nat} {ops : Int} {ps : List (Int × Int)} (h : PnX X g m a l b ops ps) (hk : ps = [(3, 1)] ∨ a = 2) (r : Nat) : PnX (X.commit r 1 1) (g + 1) m a b b (ops + 3) ps := by
  obtain ⟨⟨c1, c2, c3, c4, c5, c6, c7, c8, c9, c10, c11⟩, h2, h3, h4, h5, a1, a2, a3, a4⟩ := h
  have hw : ∀ x, (X.commit r 1 1).F.waits x = X.F.waits x := fun x => by
    show (match X.F.waits x with | some g => if decide (g ≤ (X.com0 r 1 1).low) then none else some g | none => none) = _
    cases hx : X.F.waits x with
    | none => rfl
    | some w =>
      have h6 := (h5 x w hx).1
      rcases hk with hk | hk
      · have e : (X.com0 r 1 1).low = 3 := by unfold PG.low; rw [show (X.com0 r 1 1).pins = X.pins from rfl, c7, hk]
        simp only [e]
        rw [decide_eq_false (by omega)]
        rfl
      · have := h4 x
        rw [hx, hk] at this
        exfalso
        have hh : (decide ((2 : Int) ≤ x) && decide (x < ((2 : Nat) : Int))) = true := this.symm
        rw [Bool.and_eq_true, decide_eq_true_iff, decide_eq_true_iff] at hh
        omega
  refine ⟨⟨c1, c2, by show X.g + 1 = _; omega, rfl, rfl, c6, c7, PG.comS_left c8 _ _ _, ?_, c10, fun j hj => ?_⟩, h2, fun x => ?_, fun x => by rw [hw]; exact h4 x, fun x w hx => by
    rw [hw] at hx
    have h6 := h5 x w hx
    exact ⟨h6.1, by omega, fun _ => by omega⟩, by omega⟩
  · show (X.comS r 1 1).ops ≤ _
    rw [PG.comS_ops]
    omega
  · show (X.comS r 1 1).read _ = _
    rw [PG.comS_read X r 1 1 (by omega)]
    exact c11 j hj
  · show false = _
    by_cases h1 : (b : Int) ≤ x
    · rw [decide_eq_false (show ¬ x < (b : Int) by omega), Bool.and_false]
    · rw [decide_eq_false h1]; rfl

/-- With another list of pins. -/
theorem PnX.pins {X : PG} {g m a l b : Nat} {ops : Int} {ps qs : List (Int × Int)} (h : PnX X g m a l b ops ps) : PnX { X with pins := qs } g m a l b ops qs :=
  ⟨⟨h.c.lo, h.c.hi, h.c.g, h.c.n, h.c.d, h.c.fl, rfl, h.c.left, h.c.ops, h.c.size, h.c.rd⟩, h.us, h.L, h.w1, h.w2, h.al⟩

theorem upFrom_used {X : PG} {g m a l b : Nat} {ops : Int} {ps : List (Int × Int)} (h : PnX X g m a l b ops ps) (hF : X.F.Ok) : X.F.nUsed = b - a ∧ X.F.nWaits = a - 2 := by
  obtain ⟨a1, a2, a3, a4⟩ := h.al
  constructor
  · rw [hF.used_len (upFrom_nodup a (b - a)) fun k => ?_, upFrom_length]
    rw [mem_upFrom, h.us, Bool.and_eq_true, decide_eq_true_iff, decide_eq_true_iff]
    omega
  · unfold FL.nWaits
    rw [countP_list (m := upFrom 2 (a - 2)) _ X.F.pages_nodup (upFrom_nodup 2 (a - 2)) fun k => ?_, upFrom_length]
    rw [mem_upFrom, h.w1, Bool.and_eq_true, decide_eq_true_iff, decide_eq_true_iff, FL.mem_pages, h.c.lo, h.c.hi]
    omega

/-- Behind the last Unpin nothing waits. -/
theorem settle_free {X : PG} {g m a l b : Nat} {ops : Int} {ps : List (Int × Int)} (h : PnX X g m a l b ops ps) (hps : X.pins = []) (hw : ∀ x w, X.F.waits x = some w → w ≤ (g : Int)) (hF : X.settle.F.Ok) : X.settle.F.nUsed = b - a ∧ X.settle.F.nWaits = 0 ∧ X.settle.F.nFree = 98 - (b - a : Nat) := by
  obtain ⟨a1, a2, a3, a4⟩ := h.al
  have hlow : X.low = (g : Int) := by unfold PG.low; rw [hps, h.c.g]
  have h0 : ∀ k, X.settle.F.waits k = none := fun k => by
    show (match X.F.waits k with | some g => if decide (g ≤ X.low) then none else some g | none => none) = none
    cases hk : X.F.waits k with
    | none => rfl
    | some w =>
      simp only
      rw [hlow, decide_eq_true (hw k w hk)]
      rfl
  have hu : X.settle.F.nUsed = b - a := by
    rw [hF.used_len (upFrom_nodup a (b - a)) fun k => ?_, upFrom_length]
    rw [mem_upFrom]
    show _ ↔ X.F.used k = true
    rw [h.us, Bool.and_eq_true, decide_eq_true_iff, decide_eq_true_iff]
    omega
  have hnw := FL.no_waits h0
  refine ⟨hu, hnw, ?_⟩
  unfold FL.nFree
  rw [hu, hnw]
  show X.F.hi - X.F.lo - _ - _ = _
  rw [h.c.lo, h.c.hi]
  omega

theorem PnX.new {S : SD} (hz : S.size = 100) (hl : S.left = -1) (ho : S.ops ≤ 10) : PnX (PG.new S 2 0 1 1) 2 0 2 2 2 10 [] := by
  have hf : ∀ x : Int, false = (decide ((2 : Int) ≤ x) && decide (x < (2 : Int))) := fun x => by
    by_cases h1 : (2 : Int) ≤ x
    · rw [decide_eq_false (show ¬ x < (2 : Int) by omega), Bool.and_false]
    · rw [decide_eq_false h1, Bool.false_and]
  exact ⟨⟨rfl, hz, rfl, rfl, rfl, rfl, rfl, hl, ho, hz, fun j hj => by omega⟩, fun x => hf x, fun x => hf x, fun x => hf x, fun x w hx => (by cases hx), by omega⟩

end Go.Proofs.YtngnmakeaniapaaGreatDoor

