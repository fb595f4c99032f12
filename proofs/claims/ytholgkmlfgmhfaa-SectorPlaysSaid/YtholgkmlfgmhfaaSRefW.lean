/-
  The document's disk: Write.
-/
import Derived.Test.YtholgkmlfgmhfaaSRefB
import Derived.Deep.RegionHeld3
set_option linter.unusedVariables false
set_option maxRecDepth 100000
namespace Go.Proofs.Ytholgkmlfgmhfaa
open Go.RowKit

theorem info_rw : (Try.prog.info? 69).map (fun i => (i.zero, i.size, i.bytes)) = some (some (.agg #[.int .i64 0, .slice none 0 0]), 2, 32) := by kernel_rfl

theorem step_rwrite {w : World} {ops : Array Oper} {o : Oper} {a : Act} {K : Act → World → Prop} {Q : Exit → Act → World → Prop} {E : Prop} (hgd : o.guard = none) (s x : Operand)
    (ho : o.op = .call { callee := .builtin .append, args := #[s, x], argTypes := #[40, 40] })
    {B : Nat} {v : Value} {n : Nat} {xs : List Value} (hs : a.eval s = v) (hown : w.ownsRow B 69 2 v n xs) {b c : Nat} {y z : Value} (hx : a.eval x = .slice (some ⟨b, 0, none⟩) 1 c)
    (h0 : w.cell? ⟨b, 0, none⟩ = some y) (h1 : w.cell? ⟨b, 1, none⟩ = some z) (hy : y.oneCell' = true) (hz : z.oneCell' = true) (hlen : n ≤ 1000000000) (hB : B ≤ w.heap.size)
    (h : ∀ v' w', w'.ownsRow B 69 2 v' (n + 1) (xs ++ [y, z]) → w.grownBy w' v.ownBlock → K (a.put o.dst v') w') : if Region.wanted o (yielded ops a.tmps) = true then Oper.wp Try.prog o a w K Q else E := by
  have hw : Region.wanted o (yielded ops a.tmps) = true := by simp [Region.wanted, hgd]
  rw [if_pos hw]
  obtain ⟨i, hi, hz0, hz1, hz2⟩ := info_parts info_rw
  obtain ⟨v', w', hr, r1, r2, _⟩ := run_append_own (P := Try.prog) w B 40 o.type 69 i (.agg #[.int .i64 0, .slice none 0 0]) 2 32 Try.underlying40 hi hz0 hz1 hz2 rfl (by decide) v n xs hown ⟨b, 0, none⟩ 1 c [y, z] rfl
    (fun j u hj => by
      rw [Addr.add_lit, Nat.zero_add]
      match j, hj with
      | 0, hj => cases hj; exact h0
      | 1, hj => cases hj; exact h1
      | j + 2, hj => simp at hj)
    (fun u hu => by
      simp only [List.mem_cons, List.not_mem_nil, or_false] at hu
      rcases hu with rfl | rfl
      · exact hy
      · exact hz) (by simp only [maxLen]; omega) (by omega) hB
  exact Lib.wp_append_run w s x 40 40 ho v _ hs hx v' w' hr (h v' w' r1 r2)

theorem rw_tail {w1 w2 w4 : World} {B p : Nat} {lv wv v' : Value} {Ls : List Bl} {ms : List (Int × Bl)} {S : SD} {k : Int} {b : List UInt8} {zq : Option Addr} {zc : Nat} (h : RefIs w1 B p lv wv Ls ms S) (hBw : B ≤ w1.heap.size) (hb : Below w1.heap.size w1 w2)
    (hu : U w2 zq (pad b)) (hz1 : 512 ≤ zc) (hz2 : zc ≤ 9223372036854775807) (hk0 : 0 ≤ k) (hk1 : k < S.size) (h5 : b.length ≤ 512) (hwl : S.waits.length < S.ops) {o : Obj} (hg : (w2.alloc o).grownBy w4 wv.ownBlock)
    (ho : w4.ownsRow B 69 2 v' (ms.length + 1) (rcells ms ++ [.int .i64 k, .slice zq 512 zc])) :
    RefStep w1 (w4.setCell ⟨p, 1, none⟩ v') B p { S with waits := S.waits ++ [⟨k, pad b⟩] } ∧ w4.heap[p]? = some (.cells #[lv, wv, .int .i64 S.left, .int .i64 S.ops] 42 (0, 0)) := by
  obtain ⟨h1, h2, h3, h4, h5', h6, h7, h8, h9, h10⟩ := h
  have hA : Below w1.heap.size w1 (w2.alloc o) := hb.alloc hb.size _
  have h22 : Below w2.heap.size w2 (w2.alloc o) := sbox1 w2 o
  have own_at : ∀ i, wv.ownBlock = some i → i < w1.heap.size ∧ B ≤ i ∧ ∃ c, w1.heap[i]? = some (.cells c 69 (0, 0)) := fun i hi => by
    rcases h5'.2 with ⟨rfl, _⟩ | ⟨g, cap, cur, rfl, hgB, hg, _⟩
    · simp [Value.ownBlock] at hi
    · simp only [Value.ownBlock, Option.some.injEq] at hi
      subst hi
      exact ⟨(Array.getElem?_eq_some_iff.1 hg).1, hgB, _, hg⟩
  have st4 : ∀ {i : Nat} {ob : Obj}, w1.heap[i]? = some ob → wv.ownBlock ≠ some i → w4.heap[i]? = some ob := fun {i ob} h hne => by
    have hi := (Array.getElem?_eq_some_iff.1 h).1
    rw [hg.block i (Nat.lt_of_lt_of_le hi hA.size) (fun e => hne e.symm), hA.block i hi]
    exact h
  have k4 : Keeps ofRef (w2.alloc o) w4 := Keeps.grown hg fun i ob hi hob => by
    obtain ⟨hlt, _, c, hc⟩ := own_at i hi
    rw [hA.block i hlt, hc] at hob
    cases hob
    exact ofRef_write _ _
  have np : wv.ownBlock ≠ some p := fun e => by
    obtain ⟨_, _, c, hc⟩ := own_at p e
    rw [h1] at hc
    simp at hc
  have p4 := st4 h1 np
  obtain ⟨p5, g5⟩ := cell_set (i := 1) (v := v') p4
  have B4 : B ≤ w4.heap.size := Nat.le_trans hBw (Nat.le_trans hA.size hg.size)
  have q5 := ref_step g5 p4 (ofRef_own _ _) h2 B4
  have b4 : Below B w1 w4 := (hA.mono hBw).grown hg (Nat.le_trans hBw hA.size) fun i hi => (own_at i hi).2.1
  have hk : Keeps ofRef w1 (w4.setCell ⟨p, 1, none⟩ v') := ((Keeps.below hA).trans k4).trans q5.2
  have hk2 : Keeps ofRef w2 (w4.setCell ⟨p, 1, none⟩ v') := ((Keeps.below h22).trans k4).trans q5.2
  refine ⟨⟨⟨lv, v', Ls, ms ++ [(k, ⟨zq, zc, pad b⟩)], by simpa using p5, h2, h3, ?_, ?_, fun x hx => ⟨(h6 x hx).1.keeps hk ofRef_u8, (h6 x hx).2⟩, ?_, ?_, h9, ?_⟩, b4.trans q5.1, hk⟩, p4⟩
  · refine row_on h4 fun g c hg' _ => grown_at g5 (st4 hg' fun e => ?_) (obj_ne (st4 hg' fun e => ?_) p4 (by intro e; simp at e))
    all_goals
      obtain ⟨_, _, c', hc⟩ := own_at g e
      rw [hg'] at hc
      simp at hc
  · have e : rcells (ms ++ [(k, ⟨zq, zc, pad b⟩)]) = rcells ms ++ [.int .i64 k, .slice zq 512 zc] := by simp [rcells, blv, pad_length h5]
    rw [e, List.length_append]
    exact row_on ho fun i c h _ => grown_at g5 h (obj_ne h p4 (by intro e; simp at e))
  · intro x hx
    rcases List.mem_append.1 hx with hx | hx
    · exact ⟨(h7 x hx).1.keeps hk ofRef_u8, (h7 x hx).2⟩
    · obtain rfl := List.mem_singleton.1 hx
      exact ⟨hu.keeps hk2 ofRef_u8, pad_length h5, hz1, hz2⟩
  · show S.waits ++ [_] = _
    rw [h8, List.map_append]
    rfl
  · obtain ⟨k1, k2, k3, k4, k5, k6⟩ := h10
    refine ⟨k1, k2, k3, fun x hx => ?_, ?_, k6⟩
    · rcases List.mem_append.1 hx with hx | hx
      · exact k4 x hx
      · obtain rfl := List.mem_singleton.1 hx
        exact ⟨pad_length h5, hk0, hk1⟩
    · show ((S.waits ++ [_]).length : Int) ≤ S.ops
      rw [List.length_append]
      simp only [List.length_singleton]
      omega

set_option maxHeartbeats 800000 in
theorem rwrite_bad {w : World} {B p : Nat} {S : SD} (h : RefAt w B p S) {k : Int} (q : Option Addr) (n c : Nat) (hk : ¬ (0 ≤ k ∧ k < S.size ∧ n ≤ 512)) :
    Calls Try.prog 12 #[.pointer (some ⟨p, 0, none⟩), .int .i64 k, .slice q n c] w fun e w' => e = .returned (.int .i64 2) ∧ w = w' := by
  obtain ⟨lv, wv, Ls, ms, h⟩ := h
  obtain ⟨lq, ln, lc, wq, wn, wc, rfl, rfl, hm⟩ := h.mem
  have hsz : (ln : Int) = S.size := by rw [hm.lh]; exact h.ln
  have c0 := hm.c0
  rw [← hsz] at hk
  clear h hm hsz
  by_cases h0 : k < 0
  · have d0 : decide (k < 0) = true := decide_eq_true h0
    go_enter Try.func12, Try.ntmps12
    go_wp2
    go_ret
    exact ⟨rfl, rfl⟩
  · have d0 : decide (k < 0) = false := decide_eq_false h0
    by_cases h1 : (ln : Int) ≤ k
    · have d1 : decide ((ln : Int) ≤ k) = true := decide_eq_true h1
      go_enter Try.func12, Try.ntmps12
      go_wp2
      go_ret
      exact ⟨rfl, rfl⟩
    · have d1 : decide ((ln : Int) ≤ k) = false := decide_eq_false h1
      have d2 : decide ((512 : Int) < (n : Int)) = true := decide_eq_true (by omega)
      go_enter Try.func12, Try.ntmps12
      go_wp2
      go_ret
      exact ⟨rfl, rfl⟩

set_option maxHeartbeats 800000 in
theorem rwrite_cut {w : World} {B p : Nat} {S : SD} (h : RefAt w B p S) (h0 : S.left = 0) {k : Int} (hk0 : 0 ≤ k) (hk1 : k < S.size) (q : Option Addr) (n c : Nat) (h5 : n ≤ 512) :
    Calls Try.prog 12 #[.pointer (some ⟨p, 0, none⟩), .int .i64 k, .slice q n c] w fun e w' => e = .returned (.int .i64 17) ∧ w = w' := by
  have HD := Lib.hid (rdone_cut h h0)
  obtain ⟨lv, wv, Ls, ms, h⟩ := h
  obtain ⟨lq, ln, lc, wq, wn, wc, rfl, rfl, hm⟩ := h.mem
  have hsz : (ln : Int) = S.size := by rw [hm.lh]; exact h.ln
  have c0 := hm.c0
  rw [← hsz] at hk1
  clear h hm hsz
  have d0 : decide (k < 0) = false := decide_eq_false (by omega)
  have d1 : decide ((ln : Int) ≤ k) = false := decide_eq_false (by omega)
  have d2 : decide ((512 : Int) < (n : Int)) = false := decide_eq_false (by omega)
  go_enter Try.func12, Try.ntmps12
  go_wp2_with fail
  refine HD.out.mono ?_; rintro e w1 ⟨rfl, rfl⟩
  go_wp2
  go_ret
  exact ⟨rfl, rfl⟩

set_option maxHeartbeats 3200000 in
theorem rwrite_any {w : World} {B p : Nat} {S : SD} (h : RefAt w B p S) (h0 : S.left ≠ 0) (hl : -1 ≤ S.left) (hu : S.left ≤ 9223372036854775807) (ho : S.ops ≤ 999999999) {k : Int} (hk0 : 0 ≤ k) (hk1 : k < S.size)
    {q : Option Addr} {n : Nat} (c : Nat) {b : List UInt8} (hb : ∀ w', Below B w w' → Keeps ofRef w w' → Bs w' q b) (hn : n = b.length) (h5 : b.length ≤ 512) (hq : q = none → c = 0) :
    Calls Try.prog 12 #[.pointer (some ⟨p, 0, none⟩), .int .i64 k, .slice q n c] w fun e w' => e = .returned (.int .i64 0) ∧ RefStep w w' B p (S.write k b) := by
  have HD := Lib.hid (rdone_any h h0 hl hu (by omega))
  have hwn := h.ok.n
  have c0 : ∃ lq ln lc, w.cell? ⟨p, 0, none⟩ = some (.slice lq ln lc) ∧ (ln : Int) = S.size := by
    obtain ⟨lv, wv, Ls, ms, h⟩ := h
    obtain ⟨lq, ln, lc, wq, wn, wc, rfl, rfl, hm⟩ := h.mem
    exact ⟨lq, ln, lc, hm.c0, by rw [hm.lh]; exact h.ln⟩
  obtain ⟨lq0, ln0, lc0, c0, hsz⟩ := c0
  have d0 : decide (k < 0) = false := decide_eq_false (by omega)
  have d1 : decide ((ln0 : Int) ≤ k) = false := decide_eq_false (by omega)
  have d2 : decide ((512 : Int) < (n : Int)) = false := decide_eq_false (by omega)
  have HBY := Lib.hid hb
  have HN := Lib.hid hn
  clear h hb hsz hn
  go_enter Try.func12, Try.ntmps12
  go_wp2_with fail
  refine HD.out.mono ?_; rintro e w1 ⟨rfl, hs⟩
  obtain ⟨lv, wv, Ls, ms, h1⟩ := hs.disk
  have HS1 := Lib.hid hs
  have HB0 := Lib.hid hs.disk.base
  obtain ⟨lq, ln, lc, wq, wn, wc, rfl, rfl, hm⟩ := h1.mem
  have H1 := Lib.hid h1
  have HP1 : Hid (∀ w', Below w1.heap.size w1 w' → w'.cell? ⟨p, 1, none⟩ = some (.slice wq wn wc)) := Lib.hid fun w' hb => by
    have hp := World.block_lt_of_cell? _ _ hm.c1
    rw [hb.cell (p := ⟨p, 1, none⟩) hp]
    exact hm.c1
  have HWO := Lib.hid h1.wo
  have HZ : Hid (∀ w', Below w1.heap.size w1 w' → Calls Try.prog 31 #[.slice q n c] w' (ZPost w' (pad b))) := Lib.hid fun w' hb => rzeros_any (HBY.out w' (hs.below.trans (hb.mono hs.disk.base)) (hs.keeps.trans (Keeps.below hb))) c HN.out (by rw [HN.out]; exact h5) hq
  have hl9 : ms.length ≤ 1000000000 := by
    have := h1.ok.n
    rw [h1.ws, List.length_map] at this
    have e : S.tick.ops = S.ops + 1 := rfl
    omega
  have hk0' : 0 ≤ k := hk0
  have hk1' : k < S.tick.size := hk1
  have hwl : S.tick.waits.length < S.tick.ops := by show (S.waits.length : Int) < S.ops + 1; omega
  have p1 := HP1.out _ (Below.refl _ _)
  clear hs h1 hm c0 HD hk0 hk1 hl hu ho h0
  go_wp2_with fail
  refine wp_region_held_drew (S := fun _ => True) (by kernel_rfl) trivial (fun _ => ?_)
  refine wpAnyH_take (i := 0) (v := ?_) rfl (by kernel_rfl) (by kernel_rfl) (by kernel_rfl) (fun _ _ _ h => h) (Or.inl ⟨by rfl, ?_⟩) trivial ?_
  rotate_left
  · intro w hSw; go_simp; try with_reducible rfl
  simp only [Act.put, List.getElem_toArray, List.getElem_cons_zero, List.setIfInBounds_toArray, List.set_cons_zero, List.set_cons_succ]
  refine wpAnyH_take (i := 1) (v := ?_) rfl (by kernel_rfl) (by kernel_rfl) (by kernel_rfl) (fun _ _ _ h => h) (Or.inl ⟨by rfl, ?_⟩) trivial ?_
  rotate_left
  · intro w hSw; go_simp; try with_reducible rfl
  simp only [Act.put, List.getElem_toArray, List.getElem_cons_zero, List.getElem_cons_succ, List.setIfInBounds_toArray, List.set_cons_zero, List.set_cons_succ]
  refine wpAnyH_take (i := 2) (v := ?_) rfl (by kernel_rfl) (by kernel_rfl) (by kernel_rfl) (fun _ _ _ h => h) (Or.inl ⟨by rfl, ?_⟩) trivial ?_
  rotate_left
  · intro w hSw; go_simp; try with_reducible rfl
  simp only [Act.put, List.getElem_toArray, List.getElem_cons_zero, List.getElem_cons_succ, List.setIfInBounds_toArray, List.set_cons_zero, List.set_cons_succ]
  refine wpAnyH_take (i := 3) (v := ?_) rfl (by kernel_rfl) (by kernel_rfl) (by kernel_rfl) (fun _ _ _ h => h) (Or.inl ⟨by rfl, ?_⟩) trivial ?_
  rotate_left
  · intro w hSw; go_simp; try with_reducible rfl
  simp only [Act.put, List.getElem_toArray, List.getElem_cons_zero, List.getElem_cons_succ, List.setIfInBounds_toArray, List.set_cons_zero, List.set_cons_succ]
  refine wpAnyH_take (i := 5) (v := ?_) rfl (by kernel_rfl) (by kernel_rfl) (by kernel_rfl) (fun _ _ _ h => h) (Or.inl ⟨by rfl, ?_⟩) trivial ?_
  rotate_left
  · intro w hSw; go_simp; try with_reducible rfl
  simp only [Act.put, List.getElem_toArray, List.getElem_cons_zero, List.getElem_cons_succ, List.setIfInBounds_toArray, List.set_cons_zero, List.set_cons_succ]
  refine wpAnyH_take (i := 6) (v := ?_) rfl (by kernel_rfl) (by kernel_rfl) (by kernel_rfl) (fun _ _ _ h => h) (Or.inl ⟨by rfl, ?_⟩) trivial ?_
  rotate_left
  · intro w hSw; go_simp; try with_reducible rfl
  simp only [Act.put, List.getElem_toArray, List.getElem_cons_zero, List.getElem_cons_succ, List.setIfInBounds_toArray, List.set_cons_zero, List.set_cons_succ]
  refine wpAnyH_ready (rs := [4, 7]) (by kernel_rfl) (by simp) ?_
  refine AllReadyH.cons rfl (fun K hK => ?_) (AllReadyH.cons rfl (fun K hK => ?_) AllReadyH.nil)
  · go_simp
    refine hK.out _ _ trivial (fun _ => ?_)
    clear hK K
    try simp only [Act.put, List.getElem_toArray, List.getElem_cons_zero, List.getElem_cons_succ, List.setIfInBounds_toArray, List.set_cons_zero, List.set_cons_succ]
    refine wpAnyH_ready (rs := [7]) (by kernel_rfl) (by simp) ?_
    refine AllReadyH.cons rfl (fun K hK => ?_) AllReadyH.nil
    go_simp
    refine (HZ.out _ (Below.refl _ _).drew).mono ?_; rintro e w2 ⟨z, rfl, hz, hb2⟩
    have HB2 : Hid (Below w1.heap.size w1 w2) := Lib.hid ((Below.refl _ _).drew.trans hb2)
    obtain ⟨zq, zc, rfl, hu, hz1, hz2, hz3⟩ := U.own hz
    rw [pad_length h5] at hz1 ⊢
    have HU := Lib.hid hu
    have q1 := HP1.out _ HB2.out
    have q3 : (w2.alloc (.cells #[.int .i64 k, .slice zq 512 zc] 69)).cell? ⟨p, 1, none⟩ = some (.slice wq wn wc) := HP1.out _ (HB2.out.alloc HB2.out.size _)
    clear hz hb2 hu
    dsimp only
    refine hK.out _ _ trivial (fun _ => ?_)
    clear hK K
    try simp only [Act.put, List.getElem_toArray, List.getElem_cons_zero, List.getElem_cons_succ, List.setIfInBounds_toArray, List.set_cons_zero, List.set_cons_succ]
    refine wpAnyH_take (i := 8) (v := ?_) rfl (by kernel_rfl) (by kernel_rfl) (by kernel_rfl) (fun _ _ _ h => h) (Or.inl ⟨by rfl, ?_⟩) trivial ?_
    rotate_left
    · intro w hSw; go_simp; try with_reducible rfl
    simp only [Act.put, List.getElem_toArray, List.getElem_cons_zero, List.getElem_cons_succ, List.setIfInBounds_toArray, List.set_cons_zero, List.set_cons_succ]
    refine wpAnyH_ready (rs := [9]) (by kernel_rfl) (by simp) ?_
    refine AllReadyH.cons rfl (fun K hK => ?_) AllReadyH.nil
    go_simp
    refine hK.out _ _ trivial (fun _ => ?_)
    clear hK K
    try simp only [Act.put, List.getElem_toArray, List.getElem_cons_zero, List.getElem_cons_succ, List.setIfInBounds_toArray, List.set_cons_zero, List.set_cons_succ]
    refine wpAnyH_ready (rs := [10]) (by kernel_rfl) (by simp) ?_
    refine AllReadyH.cons rfl (fun K hK => ?_) AllReadyH.nil
    refine step_rwrite rfl (.tmp 30) (.tmp 35) rfl rfl (row_on HWO.out fun g c hg _ => by rw [(HB2.out.alloc HB2.out.size _).block g (Array.getElem?_eq_some_iff.1 hg).1]; exact hg) rfl ((Joins.cell_of_block (heap_alloc_new w2 _) 0).trans rfl) ((Joins.cell_of_block (heap_alloc_new w2 _) 1).trans rfl) rfl rfl hl9 (Nat.le_trans HB0.out (Nat.le_trans HB2.out.size (sbox1 _ _).size)) ?_
    intro v' w4 hw hg
    obtain ⟨vp, vc, rfl, _⟩ := row_slice hw
    have HT := Lib.hid (rw_tail H1.out HB0.out HB2.out HU.out hz1 hz2 hk0' hk1' h5 hwl (o := .cells #[.int .i64 k, .slice zq 512 zc] 69) ⟨hg.os, hg.tape, hg.output, hg.size, hg.block⟩ hw)
    have u4 : w4.frozen? ⟨p, 1, none⟩ = false := Joins.unfrozen_of_block HT.out.2 _
    have u5 : w4.cell? ⟨p, 1, none⟩ = some (.slice wq wn wc) := (Joins.cell_of_block HT.out.2 1).trans rfl
    clear hw hg
    refine hK.out _ _ trivial (fun _ => ?_)
    clear hK K
    try simp only [Act.put, List.getElem_toArray, List.getElem_cons_zero, List.getElem_cons_succ, List.setIfInBounds_toArray, List.set_cons_zero, List.set_cons_succ]
    refine wpAnyH_take (i := 11) (v := ?_) rfl (by kernel_rfl) (by kernel_rfl) (by kernel_rfl) (fun _ _ _ h => h) (Or.inl ⟨by rfl, ?_⟩) trivial ?_
    rotate_left
    · intro w hSw; go_simp; try with_reducible rfl
    simp only [Act.put, List.getElem_toArray, List.getElem_cons_zero, List.getElem_cons_succ, List.setIfInBounds_toArray, List.set_cons_zero, List.set_cons_succ]
    refine wpAnyH_take (i := 12) (v := ?_) rfl (by kernel_rfl) (by kernel_rfl) (by kernel_rfl) (fun _ _ _ h => h) (Or.inl ⟨by rfl, ?_⟩) trivial ?_
    rotate_left
    · intro w hSw; go_simp; try with_reducible rfl
    simp only [Act.put, List.getElem_toArray, List.getElem_cons_zero, List.getElem_cons_succ, List.setIfInBounds_toArray, List.set_cons_zero, List.set_cons_succ]
    refine wpAnyH_ready (rs := [13]) (by kernel_rfl) (by simp) ?_
    refine AllReadyH.cons rfl (fun K hK => ?_) AllReadyH.nil
    go_simp
    refine hK.out _ _ trivial (fun _ => ?_)
    clear hK K
    try simp only [Act.put, List.getElem_toArray, List.getElem_cons_zero, List.getElem_cons_succ]
    refine wpAnyH_done (by kernel_rfl) ?_ _
    have HT1 := Lib.hid HT.out.1
    clear u4 u5 HT q1 q3
    go_wp2
    go_ret
    exact ⟨rfl, HT1.out.disk, HS1.out.below.trans HT1.out.below, HS1.out.keeps.trans HT1.out.keeps⟩
  · skip
    go_simp
    refine (HZ.out _ (Below.refl _ _).drew).mono ?_; rintro e w2 ⟨z, rfl, hz, hb2⟩
    have HB2 : Hid (Below w1.heap.size w1 w2) := Lib.hid ((Below.refl _ _).drew.trans hb2)
    obtain ⟨zq, zc, rfl, hu, hz1, hz2, hz3⟩ := U.own hz
    rw [pad_length h5] at hz1 ⊢
    have HU := Lib.hid hu
    have q1 := HP1.out _ HB2.out
    have q3 : (w2.alloc (.cells #[.int .i64 k, .slice zq 512 zc] 69)).cell? ⟨p, 1, none⟩ = some (.slice wq wn wc) := HP1.out _ (HB2.out.alloc HB2.out.size _)
    clear hz hb2 hu
    dsimp only
    refine hK.out _ _ trivial (fun _ => ?_)
    clear hK K
    try simp only [Act.put, List.getElem_toArray, List.getElem_cons_zero, List.getElem_cons_succ, List.setIfInBounds_toArray, List.set_cons_zero, List.set_cons_succ]
    refine wpAnyH_take (i := 8) (v := ?_) rfl (by kernel_rfl) (by kernel_rfl) (by kernel_rfl) (fun _ _ _ h => h) (Or.inl ⟨by rfl, ?_⟩) trivial ?_
    rotate_left
    · intro w hSw; go_simp; try with_reducible rfl
    simp only [Act.put, List.getElem_toArray, List.getElem_cons_zero, List.getElem_cons_succ, List.setIfInBounds_toArray, List.set_cons_zero, List.set_cons_succ]
    refine wpAnyH_ready (rs := [4, 9]) (by kernel_rfl) (by simp) ?_
    refine AllReadyH.cons rfl (fun K hK => ?_) (AllReadyH.cons rfl (fun K hK => ?_) AllReadyH.nil)
    · go_simp
      refine hK.out _ _ trivial (fun _ => ?_)
      clear hK K
      try simp only [Act.put, List.getElem_toArray, List.getElem_cons_zero, List.getElem_cons_succ, List.setIfInBounds_toArray, List.set_cons_zero, List.set_cons_succ]
      refine wpAnyH_ready (rs := [9]) (by kernel_rfl) (by simp) ?_
      refine AllReadyH.cons rfl (fun K hK => ?_) AllReadyH.nil
      go_simp
      refine hK.out _ _ trivial (fun _ => ?_)
      clear hK K
      try simp only [Act.put, List.getElem_toArray, List.getElem_cons_zero, List.getElem_cons_succ, List.setIfInBounds_toArray, List.set_cons_zero, List.set_cons_succ]
      refine wpAnyH_ready (rs := [10]) (by kernel_rfl) (by simp) ?_
      refine AllReadyH.cons rfl (fun K hK => ?_) AllReadyH.nil
      refine step_rwrite rfl (.tmp 30) (.tmp 35) rfl rfl (row_on HWO.out fun g c hg _ => by rw [(HB2.out.alloc HB2.out.size _).block g (Array.getElem?_eq_some_iff.1 hg).1]; exact hg) rfl ((Joins.cell_of_block (heap_alloc_new w2 _) 0).trans rfl) ((Joins.cell_of_block (heap_alloc_new w2 _) 1).trans rfl) rfl rfl hl9 (Nat.le_trans HB0.out (Nat.le_trans HB2.out.size (sbox1 _ _).size)) ?_
      intro v' w4 hw hg
      obtain ⟨vp, vc, rfl, _⟩ := row_slice hw
      have HT := Lib.hid (rw_tail H1.out HB0.out HB2.out HU.out hz1 hz2 hk0' hk1' h5 hwl (o := .cells #[.int .i64 k, .slice zq 512 zc] 69) ⟨hg.os, hg.tape, hg.output, hg.size, hg.block⟩ hw)
      have u4 : w4.frozen? ⟨p, 1, none⟩ = false := Joins.unfrozen_of_block HT.out.2 _
      have u5 : w4.cell? ⟨p, 1, none⟩ = some (.slice wq wn wc) := (Joins.cell_of_block HT.out.2 1).trans rfl
      clear hw hg
      refine hK.out _ _ trivial (fun _ => ?_)
      clear hK K
      try simp only [Act.put, List.getElem_toArray, List.getElem_cons_zero, List.getElem_cons_succ, List.setIfInBounds_toArray, List.set_cons_zero, List.set_cons_succ]
      refine wpAnyH_take (i := 11) (v := ?_) rfl (by kernel_rfl) (by kernel_rfl) (by kernel_rfl) (fun _ _ _ h => h) (Or.inl ⟨by rfl, ?_⟩) trivial ?_
      rotate_left
      · intro w hSw; go_simp; try with_reducible rfl
      simp only [Act.put, List.getElem_toArray, List.getElem_cons_zero, List.getElem_cons_succ, List.setIfInBounds_toArray, List.set_cons_zero, List.set_cons_succ]
      refine wpAnyH_take (i := 12) (v := ?_) rfl (by kernel_rfl) (by kernel_rfl) (by kernel_rfl) (fun _ _ _ h => h) (Or.inl ⟨by rfl, ?_⟩) trivial ?_
      rotate_left
      · intro w hSw; go_simp; try with_reducible rfl
      simp only [Act.put, List.getElem_toArray, List.getElem_cons_zero, List.getElem_cons_succ, List.setIfInBounds_toArray, List.set_cons_zero, List.set_cons_succ]
      refine wpAnyH_ready (rs := [13]) (by kernel_rfl) (by simp) ?_
      refine AllReadyH.cons rfl (fun K hK => ?_) AllReadyH.nil
      go_simp
      refine hK.out _ _ trivial (fun _ => ?_)
      clear hK K
      try simp only [Act.put, List.getElem_toArray, List.getElem_cons_zero, List.getElem_cons_succ]
      refine wpAnyH_done (by kernel_rfl) ?_ _
      have HT1 := Lib.hid HT.out.1
      clear u4 u5 HT q1 q3
      go_wp2
      go_ret
      exact ⟨rfl, HT1.out.disk, HS1.out.below.trans HT1.out.below, HS1.out.keeps.trans HT1.out.keeps⟩
    · go_simp
      refine hK.out _ _ trivial (fun _ => ?_)
      clear hK K
      try simp only [Act.put, List.getElem_toArray, List.getElem_cons_zero, List.getElem_cons_succ, List.setIfInBounds_toArray, List.set_cons_zero, List.set_cons_succ]
      refine wpAnyH_ready (rs := [4]) (by kernel_rfl) (by simp) ?_
      refine AllReadyH.cons rfl (fun K hK => ?_) AllReadyH.nil
      go_simp
      refine hK.out _ _ trivial (fun _ => ?_)
      clear hK K
      try simp only [Act.put, List.getElem_toArray, List.getElem_cons_zero, List.getElem_cons_succ, List.setIfInBounds_toArray, List.set_cons_zero, List.set_cons_succ]
      refine wpAnyH_ready (rs := [10]) (by kernel_rfl) (by simp) ?_
      refine AllReadyH.cons rfl (fun K hK => ?_) AllReadyH.nil
      refine step_rwrite rfl (.tmp 30) (.tmp 35) rfl rfl (row_on HWO.out fun g c hg _ => by rw [(HB2.out.alloc HB2.out.size _).block g (Array.getElem?_eq_some_iff.1 hg).1]; exact hg) rfl ((Joins.cell_of_block (heap_alloc_new w2 _) 0).trans rfl) ((Joins.cell_of_block (heap_alloc_new w2 _) 1).trans rfl) rfl rfl hl9 (Nat.le_trans HB0.out (Nat.le_trans HB2.out.size (sbox1 _ _).size)) ?_
      intro v' w4 hw hg
      obtain ⟨vp, vc, rfl, _⟩ := row_slice hw
      have HT := Lib.hid (rw_tail H1.out HB0.out HB2.out HU.out hz1 hz2 hk0' hk1' h5 hwl (o := .cells #[.int .i64 k, .slice zq 512 zc] 69) ⟨hg.os, hg.tape, hg.output, hg.size, hg.block⟩ hw)
      have u4 : w4.frozen? ⟨p, 1, none⟩ = false := Joins.unfrozen_of_block HT.out.2 _
      have u5 : w4.cell? ⟨p, 1, none⟩ = some (.slice wq wn wc) := (Joins.cell_of_block HT.out.2 1).trans rfl
      clear hw hg
      refine hK.out _ _ trivial (fun _ => ?_)
      clear hK K
      try simp only [Act.put, List.getElem_toArray, List.getElem_cons_zero, List.getElem_cons_succ, List.setIfInBounds_toArray, List.set_cons_zero, List.set_cons_succ]
      refine wpAnyH_take (i := 11) (v := ?_) rfl (by kernel_rfl) (by kernel_rfl) (by kernel_rfl) (fun _ _ _ h => h) (Or.inl ⟨by rfl, ?_⟩) trivial ?_
      rotate_left
      · intro w hSw; go_simp; try with_reducible rfl
      simp only [Act.put, List.getElem_toArray, List.getElem_cons_zero, List.getElem_cons_succ, List.setIfInBounds_toArray, List.set_cons_zero, List.set_cons_succ]
      refine wpAnyH_take (i := 12) (v := ?_) rfl (by kernel_rfl) (by kernel_rfl) (by kernel_rfl) (fun _ _ _ h => h) (Or.inl ⟨by rfl, ?_⟩) trivial ?_
      rotate_left
      · intro w hSw; go_simp; try with_reducible rfl
      simp only [Act.put, List.getElem_toArray, List.getElem_cons_zero, List.getElem_cons_succ, List.setIfInBounds_toArray, List.set_cons_zero, List.set_cons_succ]
      refine wpAnyH_ready (rs := [13]) (by kernel_rfl) (by simp) ?_
      refine AllReadyH.cons rfl (fun K hK => ?_) AllReadyH.nil
      go_simp
      refine hK.out _ _ trivial (fun _ => ?_)
      clear hK K
      try simp only [Act.put, List.getElem_toArray, List.getElem_cons_zero, List.getElem_cons_succ]
      refine wpAnyH_done (by kernel_rfl) ?_ _
      have HT1 := Lib.hid HT.out.1
      clear u4 u5 HT q1 q3
      go_wp2
      go_ret
      exact ⟨rfl, HT1.out.disk, HS1.out.below.trans HT1.out.below, HS1.out.keeps.trans HT1.out.keeps⟩

end Go.Proofs.Ytholgkmlfgmhfaa
