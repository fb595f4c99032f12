/-
  record.ReadNode: its contract.
-/
import Derived.Test.YtekaedafhiddeaaRdE
set_option linter.unusedVariables false
set_option maxRecDepth 100000
namespace Go.Proofs.Ytekaedafhiddeaa
open Go.RowKit

theorem run_str {w : World} (ty : TypeId) {B : Nat} {v : Value} {l : List ByteArray} (u : ByteArray) (hown : SOwn w B v l) {ad : Addr} {c : Nat} (hsrc : w.cell? ad = some (.string u)) (hlen : l.length ≤ 100000) (hB : B ≤ w.heap.size) :
    ∃ v' w', (Builtin.append_ #[22, 22] ty #[v, .slice (some ad) 1 c]).run Try.prog w = .ok v' w' ∧ SOwn w' B v' (l ++ [u]) ∧ Below B w w' := by
  obtain ⟨i, hi, hz0, hz1, hz2⟩ := info_parts info_str
  have hcells : ∀ j y, [Value.string u][j]? = some y → w.cell? (ad.add j) = some y := by
    intro j y hj
    match j, hj with
    | 0, hj =>
      obtain rfl : Value.string u = y := by simpa using hj
      simpa [Addr.add] using hsrc
    | j + 1, hj => simp at hj
  obtain ⟨v', w', hr, h1, h2, _⟩ := run_append_own (P := Try.prog) w B 22 ty 9 i (.string ⟨#[]⟩) 1 16 Try.underlying22 hi hz0 hz1 hz2 rfl (by decide) v l.length (l.map Value.string) hown ad 1 c [.string u] rfl hcells (by intro x hx; obtain rfl := List.mem_singleton.1 hx; rfl) (by simp only [maxLen]; omega) (by omega) hB
  refine ⟨v', w', hr, ?_, (Below.refl B w).grown h2 hB fun k hk => (World.ownsRow.lt hown k hk).1⟩
  unfold SOwn
  rw [List.length_append, List.map_append]
  exact h1
theorem step_str {w : World} {ops : Array Oper} {o : Oper} {a : Act} {K : Act → World → Prop} {Q : Exit → Act → World → Prop} {E : Prop} (hg : o.guard = none) (s x : Operand)
    (ho : o.op = .call { callee := .builtin .append, args := #[s, x], argTypes := #[22, 22] })
    {B : Nat} {v : Value} {l : List ByteArray} (u : ByteArray) (hs : a.eval s = v) (hown : SOwn w B v l) {ad : Addr} {n c : Nat} (hn : n = 1) (hx : a.eval x = .slice (some ad) n c) (hsrc : w.cell? ad = some (.string u)) (hlen : l.length ≤ 100000) (hB : B ≤ w.heap.size)
    (h : ∀ v' w', SOwn w' B v' (l ++ [u]) → Below B w w' → K (a.put o.dst v') w') : if Region.wanted o (yielded ops a.tmps) = true then Oper.wp Try.prog o a w K Q else E := by
  have hw : Region.wanted o (yielded ops a.tmps) = true := by simp [Region.wanted, hg]
  rw [if_pos hw]
  subst hn
  obtain ⟨v', w', hr, r1, r2⟩ := run_str o.type u hown (c := c) hsrc hlen hB
  exact Lib.wp_append_run w s x 22 22 ho v _ hs hx v' w' hr (h v' w' r1 r2)

/-- What ReadNode tells. -/
structure RnPost (w : World) (l : List UInt8) (id : Int) (e : Ending) (w' : World) : Prop where
  yes : ∀ ls ps, nodeS (l, decide (4096 < l.length)) = ((ls, ps), ([], false)) → nodeR id ls ps = true → ∃ x : Nd, e = .returned (.tuple #[x.cell, .int .i64 0]) ∧ x.Ok w' ∧ x.id = id ∧ x.ls = ls ∧ x.ps.map Pr.c = ps
  no : ((nodeS (l, decide (4096 < l.length))).2 ≠ ([], false) ∨ nodeR id (nodeS (l, decide (4096 < l.length))).1.1 (nodeS (l, decide (4096 < l.length))).1.2 = false) → e = .returned (.tuple #[.agg #[.int .i64 0, .slice none 0 0, .slice none 0 0], .int .i64 11])
  bl : Below w.heap.size w w'

set_option maxHeartbeats 4000000 in
theorem readNode_any {w : World} {p : Option Addr} {l : List UInt8} (hl : Bs w p l) {n c : Nat} (hn : n = l.length) (hnc : n ≤ c) (hc : c ≤ 9223372036854775807) (hp : p = none → c = 0) (hlo : ∀ a, p = some a → a.block < w.heap.size) (hlen : l.length ≤ 100000)
    {id : Int} (i1 : -9223372036854775808 ≤ id) (i2 : id ≤ 9223372036854775807) :
    Calls Try.prog 8 #[.slice p n c, .int .i64 id] w (RnPost w l id) := by
  have hst := store_flt
  have hnot : ∀ (x : Bool) (w : World), (Op.unary .not (.bool x)).run Try.prog w = .ok (.bool (!x)) w := fun _ _ => rfl
  obtain ⟨bw, hbw⟩ : ∃ b, decide (4096 < l.length) = b := ⟨_, rfl⟩
  have hbi : decide ((4096 : Int) < (n : Int)) = bw := by rw [← hbw, hn, decide_eq_decide]; omega
  have hbn : decide (4096 < n) = bw := by rw [← hbw, hn]
  obtain ⟨W, hW⟩ : ∃ W, W = ((w.alloc (.cells #[.int .i64 0, .slice none 0 0, .slice none 0 0] 25)).alloc (.cells #[.slice p n c, .bool bw] 68)).alloc (.cells #[.int .i64 id, .slice none 0 0, .slice none 0 0] 25) := ⟨_, rfl⟩
  have HWB : Hid (Below w.heap.size w W) := Lib.hid (by rw [hW]; exact box3_below (Below.refl _ _))
  have HWs : Hid (W.heap.size = w.heap.size + 3) := Lib.hid (by rw [hW]; simp)
  have HK0 : Hid (W.heap[w.heap.size]? = some (.cells #[.int .i64 0, .slice none 0 0, .slice none 0 0] 25 (0, 0))) := Lib.hid (by rw [hW]; exact (boxes3 w _ _ _ _ _ _).1)
  have HK2 : Hid (W.heap[w.heap.size + 2]? = some (.cells #[.int .i64 id, .slice none 0 0, .slice none 0 0] 25 (0, 0))) := Lib.hid (by rw [hW]; exact (boxes3 w _ _ _ _ _ _).2.2.1)
  have HRD : Hid (RdC W (w.heap.size + 1) (l, bw)) := Lib.hid ⟨p, n, c, by rw [hW]; exact (boxes3 w _ _ _ _ _ _).2.1, hl.below HWB.out, hn, hnc, hc, hp, fun a ha => by have := hlo a ha; omega⟩
  have hcl := cntS_len 8 (l, bw)
  have HCN : Hid (Calls Try.prog 28 #[.pointer (some ⟨w.heap.size + 1, 0, none⟩), .int .i64 8] W fun e w' => e = .returned (.int .i64 ((cntS 8 (l, bw)).1 : Nat)) ∧ RdC w' (w.heap.size + 1) (cntS 8 (l, bw)).2 ∧ W.grownBy w' (some (w.heap.size + 1))) := Lib.hid (count_any2 HRD.out 8 (by omega))
  have HX : Hid (nodeS (l, bw) = (((labsS (cntS 8 (l, bw)).1 (cntS 8 (l, bw)).2).1, (recS (labsS (cntS 8 (l, bw)).1 (cntS 8 (l, bw)).2).2).1), (recS (labsS (cntS 8 (l, bw)).1 (cntS 8 (l, bw)).2).2).2)) := Lib.hid rfl
  have HRP : Hid (∀ e w', ((∀ ls ps, nodeS (l, bw) = ((ls, ps), ([], false)) → nodeR id ls ps = true → ∃ x : Nd, e = .returned (.tuple #[x.cell, .int .i64 0]) ∧ x.Ok w' ∧ x.id = id ∧ x.ls = ls ∧ x.ps.map Pr.c = ps) ∧
      (((nodeS (l, bw)).2 ≠ ([], false) ∨ nodeR id (nodeS (l, bw)).1.1 (nodeS (l, bw)).1.2 = false) → e = .returned (.tuple #[.agg #[.int .i64 0, .slice none 0 0, .slice none 0 0], .int .i64 11])) ∧ Below w.heap.size w w') → RnPost w l id e w') := Lib.hid fun e w' h => ⟨by rw [hbw]; exact h.1, by rw [hbw]; exact h.2.1, h.2.2⟩
  generalize cntS 8 (l, bw) = X1 at *
  obtain ⟨n8, sa⟩ := X1
  dsimp only at hcl HCN HX
  obtain ⟨ls, s2, hls⟩ : ∃ ls s2, labsS n8 sa = (ls, s2) := ⟨_, _, rfl⟩
  rw [hls] at HX
  dsimp only at HX
  have HLS0 := Lib.hid hls
  have hsa : sa.1.length ≤ 100000 := by omega
  have HSA := Lib.hid hsa
  have hn8 : n8 ≤ 8 := hcl.1
  clear hl hn hp hlo hlen hcl hls hsa
  go_enter Try.func8, Try.ntmps8
  go_wp2_with fail
  rw [← hW]
  refine HCN.out.mono ?_
  rintro e w0 ⟨rfl, hr0, hg0⟩
  have HR0 := Lib.hid hr0
  have HG0 := Lib.hid hg0
  have HN0 : Hid (w0.heap[w.heap.size + 2]? = some (.cells #[.int .i64 id, .slice none 0 0, .slice none 0 0] 25 (0, 0))) := Lib.hid (by rw [hg0.block _ (by have := HWs.out; omega) (fun e => by have := Option.some.inj e; omega)]; exact HK2.out)
  have HB0 : Hid (Below (w.heap.size + 1) W w0) := Lib.hid (gb_low hg0 (by have := HWs.out; omega))
  replace hW := Lib.hid hW
  clear hr0 hg0 HCN
  go_wp2_with fail
  go_loopw [16] (fun i wr => ∃ (j : Nat) (sj : RS) (la : List ByteArray) (qa : Option Addr) (ma ca : Nat), i = .int .i64 j ∧ j ≤ n8 ∧ wr.heap[w.heap.size + 2]? = some (.cells #[.int .i64 id, .slice qa ma ca, .slice none 0 0] 25 (0, 0)) ∧ SOwn wr (w.heap.size + 3) (.slice qa ma ca) la ∧ la.length = j ∧ la ++ (labsS (n8 - j) sj).1 = ls ∧ (labsS (n8 - j) sj).2 = s2 ∧ sj.1.length ≤ 100000 ∧ RdC wr (w.heap.size + 1) sj ∧ (∀ s ∈ la, s.size ≤ 100000) ∧ Below (w.heap.size + 1) W wr) (fun i _ => n8 - (intOf i).toNat)
  case atStart => exact ⟨0, sa, [], none, 0, 0, rfl, by omega, HN0.out, SOwn.nil _ _, rfl, by rw [Nat.sub_zero, HLS0.out]; rfl, by rw [Nat.sub_zero, HLS0.out], HSA.out, HR0.out, by simp, HB0.out⟩
  case round =>
    obtain ⟨j, sj, la, qa, ma, ca, rfl, hj, hnbk, hso, hll, hq1, hq2, hsl, hrd, hlss, hbw2⟩ := hrel
    obtain ⟨w1, hw1⟩ : ∃ x, x = wr := ⟨_, rfl⟩
    subst hw1
    have HNB := Lib.hid hnbk
    have HSO := Lib.hid hso
    have HLL := Lib.hid hll
    have HP1 := Lib.hid hq1
    have HP2 := Lib.hid hq2
    have HSL := Lib.hid hsl
    have HRJ := Lib.hid hrd
    have HLS := Lib.hid hlss
    have HBW := Lib.hid hbw2
    have hnb : w.heap.size + 2 < w1.heap.size := (Array.getElem?_eq_some_iff.1 hnbk).1
    clear hnbk hso hll hq1 hq2 hsl hrd hlss hbw2 HN0 HB0 HR0 HG0 HRD
    by_cases hlt : j < n8
    · obtain ⟨k, hk⟩ : ∃ k, n8 - j = k + 1 := ⟨n8 - j - 1, by omega⟩
      have hk2 : n8 - (j + 1) = k := by omega
      have htl := txtS_len sj
      have HTX : Hid (Calls Try.prog 29 #[.pointer (some ⟨w.heap.size + 1, 0, none⟩)] w1.drew fun e w' => e = .returned (.string (txtS sj).1) ∧ RdC w' (w.heap.size + 1) (txtS sj).2 ∧ w1.drew.grownBy w' (some (w.heap.size + 1))) := Lib.hid (text_any (w := w1.drew) HRJ.out HSL.out)
      have HQ1 : Hid (la ++ ((txtS sj).1 :: (labsS k (txtS sj).2).1) = ls) := Lib.hid (by have h := HP1.out; rw [hk] at h; exact h)
      have HQ2 : Hid ((labsS k (txtS sj).2).2 = s2) := Lib.hid (by have h := HP2.out; rw [hk] at h; exact h)
      have HK2 := Lib.hid hk2
      clear HP1 HP2 hk hk2
      generalize txtS sj = X at *
      obtain ⟨t, sk⟩ := X
      dsimp only at htl HTX HQ1 HQ2
      have HTL : Hid (t.size ≤ 100000 ∧ sk.1.length ≤ 100000) := Lib.hid (by have := HSL.out; omega)
      clear htl
      have k1 : ∀ N, (w1.drewN N).cell? ⟨w.heap.size + 2, 1, none⟩ = some (.slice qa ma ca) := fun N => (rd_at HNB.out 1).1
      have k1' : w1.drew.cell? ⟨w.heap.size + 2, 1, none⟩ = some (.slice qa ma ca) := (rd_at HNB.out 1).1
      have hnbd : w.heap.size + 2 < w1.drew.heap.size := hnb
      go_wp2_with fail
      refine wp_region_any (by kernel_rfl) ?_
      change wpAny _ _ _ _ _ _ _ (World.drew _)
      refine wpAny_take (i := 0) (v := ?_) rfl (by kernel_rfl) (by kernel_rfl) (by kernel_rfl) (fun _ _ _ h => h) (Or.inl ⟨by rfl, ?_⟩) ?_
      rotate_left
      · intro w; go_simp; try with_reducible rfl
      simp only [Act.put, List.getElem_toArray, List.getElem_cons_zero, List.setIfInBounds_toArray, List.set_cons_zero, List.set_cons_succ]
      refine wpAny_ready (rs := [1, 2]) (by kernel_rfl) (by simp) ?_
      refine AllReady.cons rfl (fun K hK => ?_) (AllReady.cons rfl (fun K hK => ?_) AllReady.nil)
      · go_simp
        refine hK _ _ ?_
        clear hK K
        refine wpAny_ready (rs := [2]) (by kernel_rfl) (by simp) ?_
        refine AllReady.cons rfl (fun K hK => ?_) AllReady.nil
        go_simp
        refine HTX.out.mono ?_
        rintro e w2 ⟨rfl, hr2, hg2⟩
        have HR2 := Lib.hid hr2
        have HG2 := Lib.hid hg2
        have HN2 : Hid (w2.heap[w.heap.size + 2]? = some (.cells #[.int .i64 id, .slice qa ma ca, .slice none 0 0] 25 (0, 0))) := Lib.hid (by rw [hg2.block _ hnb (fun e => by have := Option.some.inj e; omega)]; exact HNB.out)
        have HS2 := Lib.hid (SOwn.gb (w := w1.drew) HSO.out hg2 (by omega))
        obtain ⟨n1, n1f⟩ := rd_at HN2.out 1
        simp only [List.getElem?_toArray, List.getElem?_cons_zero, List.getElem?_cons_succ] at n1
        have hnb2 : w.heap.size + 2 < w2.heap.size := (Array.getElem?_eq_some_iff.1 HN2.out).1
        clear hr2 hg2
        dsimp only
        refine hK _ _ ?_
        clear hK K
        refine wpAny_ready (rs := [3]) (by kernel_rfl) (by simp) ?_
        refine AllReady.cons rfl (fun K hK => ?_) AllReady.nil
        go_simp
        refine hK _ _ ?_
        clear hK K
        refine wpAny_ready (rs := [4]) (by kernel_rfl) (by simp) ?_
        refine AllReady.cons rfl (fun K hK => ?_) AllReady.nil
        refine step_str rfl (.tmp 19) (.tmp 21) rfl t rfl (HS2.out.below ((Below.refl _ _).alloc (Nat.le_refl _) _)) rfl rfl (Joins.cell_of_block (heap_alloc_new w2 (.cells #[.string t] 9)) 0) (by have := HLL.out; omega) (by simp; omega) ?_
        intro v4 w4 ho4 hb4
        obtain ⟨m4, hm4⟩ : ∃ m4, m4 = (la ++ [t]).length := ⟨_, rfl⟩
        obtain ⟨q4, c4, rfl, _⟩ := ho4.form hm4
        have HO4 := Lib.hid ho4
        have HM4 := Lib.hid hm4
        have HB4 : Hid (Below (w.heap.size + 3) w2 w4) := Lib.hid (((Below.refl _ _).alloc (by omega) _).trans hb4)
        have HN4 : Hid (w4.heap[w.heap.size + 2]? = some (.cells #[.int .i64 id, .slice qa ma ca, .slice none 0 0] 25 (0, 0))) := Lib.hid (by rw [HB4.out.block _ (by omega)]; exact HN2.out)
        obtain ⟨x1, x1f⟩ := rd_at HN4.out 1
        simp only [List.getElem?_toArray, List.getElem?_cons_zero, List.getElem?_cons_succ] at x1
        have hnb4 : w.heap.size + 2 < w4.heap.size := (Array.getElem?_eq_some_iff.1 HN4.out).1
        clear ho4 hb4 hm4
        refine hK _ _ ?_
        clear hK K
        refine wpAny_take (i := 5) (v := ?_) rfl (by kernel_rfl) (by kernel_rfl) (by kernel_rfl) (fun _ _ _ h => h) (Or.inl ⟨by rfl, ?_⟩) ?_
        rotate_left
        · intro w; go_simp; try with_reducible rfl
        simp only [Act.put, List.getElem_toArray, List.getElem_cons_zero, List.getElem_cons_succ, List.setIfInBounds_toArray, List.set_cons_zero, List.set_cons_succ]
        refine wpAny_ready (rs := [6]) (by kernel_rfl) (by simp) ?_
        refine AllReady.cons rfl (fun K hK => ?_) AllReady.nil
        go_simp
        refine hK _ _ ?_
        clear hK K
        refine wpAny_done (by kernel_rfl) ?_ _
        obtain ⟨w5, hw5⟩ : ∃ w5, w5 = w4.setCell ⟨w.heap.size + 2, 1, none⟩ (.slice q4 m4 c4) := ⟨_, rfl⟩
        have HG5 : w4.grownBy w5 (some (w.heap.size + 2)) := by rw [hw5]; exact gb_set (gb_refl _ _) 1 _
        have HL5 : Below (w.heap.size + 2) w4 w5 := gb_low HG5 (by omega)
        have HN5 : w5.heap[w.heap.size + 2]? = some (.cells #[.int .i64 id, .slice q4 m4 c4, .slice none 0 0] 25 (0, 0)) := by rw [hw5]; simp [World.setCell, Array.getElem?_modify, HN4.out]
        have HB15 : Below (w.heap.size + 1) w1 w5 := (((Below.refl _ _).drew.trans (gb_low HG2.out (by have : w1.drew.heap.size = w1.heap.size := rfl; omega))).trans (HB4.out.mono (by omega))).trans (HL5.mono (by omega))
        have HR5 : RdC w5 (w.heap.size + 1) sk := (HR2.out.below HB4.out (by omega)).below HL5 (by omega)
        have HS5 := HO4.out.gb HG5 (by omega)
        have HREL : Hid (∃ (j' : Nat) (sj : RS) (la : List ByteArray) (qa : Option Addr) (ma ca : Nat), (Value.int .i64 ((j : Int) + 1)) = .int .i64 j' ∧ j' ≤ n8 ∧ w5.heap[w.heap.size + 2]? = some (.cells #[.int .i64 id, .slice qa ma ca, .slice none 0 0] 25 (0, 0)) ∧ SOwn w5 (w.heap.size + 3) (.slice qa ma ca) la ∧ la.length = j' ∧ la ++ (labsS (n8 - j') sj).1 = ls ∧ (labsS (n8 - j') sj).2 = s2 ∧ sj.1.length ≤ 100000 ∧ RdC w5 (w.heap.size + 1) sj ∧ (∀ s ∈ la, s.size ≤ 100000) ∧ Below (w.heap.size + 1) W w5) := Lib.hid ⟨j + 1, sk, la ++ [t], q4, m4, c4, by go_num, by omega, HN5, HS5, by rw [List.length_append, HLL.out]; rfl, by rw [HK2.out, List.append_assoc]; exact HQ1.out, by rw [HK2.out]; exact HQ2.out, HTL.out.2, HR5, fun s hs => by
          rcases List.mem_append.1 hs with h | h
          · exact HLS.out s h
          · obtain rfl := List.mem_singleton.1 h; exact HTL.out.1, HBW.out.trans HB15⟩
        rw [← hw5]
        clear hw5 HG5 HL5 HN5 HB15 HR5 HS5
        go_wp2
        go_roundw
        case rel => exact HREL.out
        case measure => simp [intOf]; omega
      · go_simp
        refine HTX.out.mono ?_
        rintro e w2 ⟨rfl, hr2, hg2⟩
        have HR2 := Lib.hid hr2
        have HG2 := Lib.hid hg2
        have HN2 : Hid (w2.heap[w.heap.size + 2]? = some (.cells #[.int .i64 id, .slice qa ma ca, .slice none 0 0] 25 (0, 0))) := Lib.hid (by rw [hg2.block _ hnb (fun e => by have := Option.some.inj e; omega)]; exact HNB.out)
        have HS2 := Lib.hid (SOwn.gb (w := w1.drew) HSO.out hg2 (by omega))
        obtain ⟨n1, n1f⟩ := rd_at HN2.out 1
        simp only [List.getElem?_toArray, List.getElem?_cons_zero, List.getElem?_cons_succ] at n1
        have hnb2 : w.heap.size + 2 < w2.heap.size := (Array.getElem?_eq_some_iff.1 HN2.out).1
        clear hr2 hg2
        dsimp only
        refine hK _ _ ?_
        clear hK K
        refine wpAny_ready (rs := [1, 3]) (by kernel_rfl) (by simp) ?_
        refine AllReady.cons rfl (fun K hK => ?_) (AllReady.cons rfl (fun K hK => ?_) AllReady.nil)
        · go_simp
          refine hK _ _ ?_
          clear hK K
          refine wpAny_ready (rs := [3]) (by kernel_rfl) (by simp) ?_
          refine AllReady.cons rfl (fun K hK => ?_) AllReady.nil
          go_simp
          refine hK _ _ ?_
          clear hK K
          refine wpAny_ready (rs := [4]) (by kernel_rfl) (by simp) ?_
          refine AllReady.cons rfl (fun K hK => ?_) AllReady.nil
          refine step_str rfl (.tmp 19) (.tmp 21) rfl t rfl (HS2.out.below ((Below.refl _ _).alloc (Nat.le_refl _) _)) rfl rfl (Joins.cell_of_block (heap_alloc_new w2 (.cells #[.string t] 9)) 0) (by have := HLL.out; omega) (by simp; omega) ?_
          intro v4 w4 ho4 hb4
          obtain ⟨m4, hm4⟩ : ∃ m4, m4 = (la ++ [t]).length := ⟨_, rfl⟩
          obtain ⟨q4, c4, rfl, _⟩ := ho4.form hm4
          have HO4 := Lib.hid ho4
          have HM4 := Lib.hid hm4
          have HB4 : Hid (Below (w.heap.size + 3) w2 w4) := Lib.hid (((Below.refl _ _).alloc (by omega) _).trans hb4)
          have HN4 : Hid (w4.heap[w.heap.size + 2]? = some (.cells #[.int .i64 id, .slice qa ma ca, .slice none 0 0] 25 (0, 0))) := Lib.hid (by rw [HB4.out.block _ (by omega)]; exact HN2.out)
          obtain ⟨x1, x1f⟩ := rd_at HN4.out 1
          simp only [List.getElem?_toArray, List.getElem?_cons_zero, List.getElem?_cons_succ] at x1
          have hnb4 : w.heap.size + 2 < w4.heap.size := (Array.getElem?_eq_some_iff.1 HN4.out).1
          clear ho4 hb4 hm4
          refine hK _ _ ?_
          clear hK K
          refine wpAny_take (i := 5) (v := ?_) rfl (by kernel_rfl) (by kernel_rfl) (by kernel_rfl) (fun _ _ _ h => h) (Or.inl ⟨by rfl, ?_⟩) ?_
          rotate_left
          · intro w; go_simp; try with_reducible rfl
          simp only [Act.put, List.getElem_toArray, List.getElem_cons_zero, List.getElem_cons_succ, List.setIfInBounds_toArray, List.set_cons_zero, List.set_cons_succ]
          refine wpAny_ready (rs := [6]) (by kernel_rfl) (by simp) ?_
          refine AllReady.cons rfl (fun K hK => ?_) AllReady.nil
          go_simp
          refine hK _ _ ?_
          clear hK K
          refine wpAny_done (by kernel_rfl) ?_ _
          obtain ⟨w5, hw5⟩ : ∃ w5, w5 = w4.setCell ⟨w.heap.size + 2, 1, none⟩ (.slice q4 m4 c4) := ⟨_, rfl⟩
          have HG5 : w4.grownBy w5 (some (w.heap.size + 2)) := by rw [hw5]; exact gb_set (gb_refl _ _) 1 _
          have HL5 : Below (w.heap.size + 2) w4 w5 := gb_low HG5 (by omega)
          have HN5 : w5.heap[w.heap.size + 2]? = some (.cells #[.int .i64 id, .slice q4 m4 c4, .slice none 0 0] 25 (0, 0)) := by rw [hw5]; simp [World.setCell, Array.getElem?_modify, HN4.out]
          have HB15 : Below (w.heap.size + 1) w1 w5 := (((Below.refl _ _).drew.trans (gb_low HG2.out (by have : w1.drew.heap.size = w1.heap.size := rfl; omega))).trans (HB4.out.mono (by omega))).trans (HL5.mono (by omega))
          have HR5 : RdC w5 (w.heap.size + 1) sk := (HR2.out.below HB4.out (by omega)).below HL5 (by omega)
          have HS5 := HO4.out.gb HG5 (by omega)
          have HREL : Hid (∃ (j' : Nat) (sj : RS) (la : List ByteArray) (qa : Option Addr) (ma ca : Nat), (Value.int .i64 ((j : Int) + 1)) = .int .i64 j' ∧ j' ≤ n8 ∧ w5.heap[w.heap.size + 2]? = some (.cells #[.int .i64 id, .slice qa ma ca, .slice none 0 0] 25 (0, 0)) ∧ SOwn w5 (w.heap.size + 3) (.slice qa ma ca) la ∧ la.length = j' ∧ la ++ (labsS (n8 - j') sj).1 = ls ∧ (labsS (n8 - j') sj).2 = s2 ∧ sj.1.length ≤ 100000 ∧ RdC w5 (w.heap.size + 1) sj ∧ (∀ s ∈ la, s.size ≤ 100000) ∧ Below (w.heap.size + 1) W w5) := Lib.hid ⟨j + 1, sk, la ++ [t], q4, m4, c4, by go_num, by omega, HN5, HS5, by rw [List.length_append, HLL.out]; rfl, by rw [HK2.out, List.append_assoc]; exact HQ1.out, by rw [HK2.out]; exact HQ2.out, HTL.out.2, HR5, fun s hs => by
            rcases List.mem_append.1 hs with h | h
            · exact HLS.out s h
            · obtain rfl := List.mem_singleton.1 h; exact HTL.out.1, HBW.out.trans HB15⟩
          rw [← hw5]
          clear hw5 HG5 HL5 HN5 HB15 HR5 HS5
          go_wp2
          go_roundw
          case rel => exact HREL.out
          case measure => simp [intOf]; omega
        · go_simp
          refine hK _ _ ?_
          clear hK K
          refine wpAny_ready (rs := [1]) (by kernel_rfl) (by simp) ?_
          refine AllReady.cons rfl (fun K hK => ?_) AllReady.nil
          go_simp
          refine hK _ _ ?_
          clear hK K
          refine wpAny_ready (rs := [4]) (by kernel_rfl) (by simp) ?_
          refine AllReady.cons rfl (fun K hK => ?_) AllReady.nil
          refine step_str rfl (.tmp 19) (.tmp 21) rfl t rfl (HS2.out.below ((Below.refl _ _).alloc (Nat.le_refl _) _)) rfl rfl (Joins.cell_of_block (heap_alloc_new w2 (.cells #[.string t] 9)) 0) (by have := HLL.out; omega) (by simp; omega) ?_
          intro v4 w4 ho4 hb4
          obtain ⟨m4, hm4⟩ : ∃ m4, m4 = (la ++ [t]).length := ⟨_, rfl⟩
          obtain ⟨q4, c4, rfl, _⟩ := ho4.form hm4
          have HO4 := Lib.hid ho4
          have HM4 := Lib.hid hm4
          have HB4 : Hid (Below (w.heap.size + 3) w2 w4) := Lib.hid (((Below.refl _ _).alloc (by omega) _).trans hb4)
          have HN4 : Hid (w4.heap[w.heap.size + 2]? = some (.cells #[.int .i64 id, .slice qa ma ca, .slice none 0 0] 25 (0, 0))) := Lib.hid (by rw [HB4.out.block _ (by omega)]; exact HN2.out)
          obtain ⟨x1, x1f⟩ := rd_at HN4.out 1
          simp only [List.getElem?_toArray, List.getElem?_cons_zero, List.getElem?_cons_succ] at x1
          have hnb4 : w.heap.size + 2 < w4.heap.size := (Array.getElem?_eq_some_iff.1 HN4.out).1
          clear ho4 hb4 hm4
          refine hK _ _ ?_
          clear hK K
          refine wpAny_take (i := 5) (v := ?_) rfl (by kernel_rfl) (by kernel_rfl) (by kernel_rfl) (fun _ _ _ h => h) (Or.inl ⟨by rfl, ?_⟩) ?_
          rotate_left
          · intro w; go_simp; try with_reducible rfl
          simp only [Act.put, List.getElem_toArray, List.getElem_cons_zero, List.getElem_cons_succ, List.setIfInBounds_toArray, List.set_cons_zero, List.set_cons_succ]
          refine wpAny_ready (rs := [6]) (by kernel_rfl) (by simp) ?_
          refine AllReady.cons rfl (fun K hK => ?_) AllReady.nil
          go_simp
          refine hK _ _ ?_
          clear hK K
          refine wpAny_done (by kernel_rfl) ?_ _
          obtain ⟨w5, hw5⟩ : ∃ w5, w5 = w4.setCell ⟨w.heap.size + 2, 1, none⟩ (.slice q4 m4 c4) := ⟨_, rfl⟩
          have HG5 : w4.grownBy w5 (some (w.heap.size + 2)) := by rw [hw5]; exact gb_set (gb_refl _ _) 1 _
          have HL5 : Below (w.heap.size + 2) w4 w5 := gb_low HG5 (by omega)
          have HN5 : w5.heap[w.heap.size + 2]? = some (.cells #[.int .i64 id, .slice q4 m4 c4, .slice none 0 0] 25 (0, 0)) := by rw [hw5]; simp [World.setCell, Array.getElem?_modify, HN4.out]
          have HB15 : Below (w.heap.size + 1) w1 w5 := (((Below.refl _ _).drew.trans (gb_low HG2.out (by have : w1.drew.heap.size = w1.heap.size := rfl; omega))).trans (HB4.out.mono (by omega))).trans (HL5.mono (by omega))
          have HR5 : RdC w5 (w.heap.size + 1) sk := (HR2.out.below HB4.out (by omega)).below HL5 (by omega)
          have HS5 := HO4.out.gb HG5 (by omega)
          have HREL : Hid (∃ (j' : Nat) (sj : RS) (la : List ByteArray) (qa : Option Addr) (ma ca : Nat), (Value.int .i64 ((j : Int) + 1)) = .int .i64 j' ∧ j' ≤ n8 ∧ w5.heap[w.heap.size + 2]? = some (.cells #[.int .i64 id, .slice qa ma ca, .slice none 0 0] 25 (0, 0)) ∧ SOwn w5 (w.heap.size + 3) (.slice qa ma ca) la ∧ la.length = j' ∧ la ++ (labsS (n8 - j') sj).1 = ls ∧ (labsS (n8 - j') sj).2 = s2 ∧ sj.1.length ≤ 100000 ∧ RdC w5 (w.heap.size + 1) sj ∧ (∀ s ∈ la, s.size ≤ 100000) ∧ Below (w.heap.size + 1) W w5) := Lib.hid ⟨j + 1, sk, la ++ [t], q4, m4, c4, by go_num, by omega, HN5, HS5, by rw [List.length_append, HLL.out]; rfl, by rw [HK2.out, List.append_assoc]; exact HQ1.out, by rw [HK2.out]; exact HQ2.out, HTL.out.2, HR5, fun s hs => by
            rcases List.mem_append.1 hs with h | h
            · exact HLS.out s h
            · obtain rfl := List.mem_singleton.1 h; exact HTL.out.1, HBW.out.trans HB15⟩
          rw [← hw5]
          clear hw5 HG5 HL5 HN5 HB15 HR5 HS5
          go_wp2
          go_roundw
          case rel => exact HREL.out
          case measure => simp [intOf]; omega
    · obtain rfl : j = n8 := by omega
      have HLA : Hid (la = ls) := Lib.hid (by have h := HP1.out; rw [Nat.sub_self] at h; have h2 : la ++ [] = ls := h; simpa using h2)
      have HSJ : Hid (sj = s2) := Lib.hid (by have h := HP2.out; rw [Nat.sub_self] at h; exact h)
      have hla := HLA.out
      have hsj := HSJ.out
      clear HP1 HP2 HLA HSJ HLS0
      subst hla hsj
      have HPR : Hid (Calls Try.prog 30 #[.pointer (some ⟨w.heap.size + 1, 0, none⟩)] w1 (PrPost w1 (w.heap.size + 1) (recS sj).1 (recS sj).2)) := Lib.hid (propsRd_any HRJ.out HSL.out)
      generalize recS sj = X4 at *
      obtain ⟨ps, sd⟩ := X4
      dsimp only at HPR HX
      have HZ1 : Hid (w1.heap[w.heap.size]? = some (.cells #[.int .i64 0, .slice none 0 0, .slice none 0 0] 25 (0, 0))) := Lib.hid (by rw [HBW.out.block _ (by omega)]; exact HK0.out)
      go_wp2_with fail
      refine HPR.out.mono ?_
      rintro e w4 ⟨v4, r4, rfl, ho4, hm4, hok4, hr4, hg4⟩
      obtain ⟨n4, hn4⟩ : ∃ n4, n4 = r4.length := ⟨_, rfl⟩
      obtain ⟨p4, c4, rfl, _⟩ := ho4.form hn4
      have HO4 := Lib.hid ho4
      have HM4 := Lib.hid hm4
      have HOK4 := Lib.hid hok4
      have HR4 := Lib.hid hr4
      have HG4 := Lib.hid hg4
      have HZ4 : Hid (w4.heap[w.heap.size + 2]? = some (.cells #[.int .i64 id, .slice qa ma ca, .slice none 0 0] 25 (0, 0))) := Lib.hid (by
        rw [hg4.block (w.heap.size + 2) (by omega) (fun e => by have := Option.some.inj e; omega)]
        exact HNB.out)
      have HY4 : Hid (w4.heap[w.heap.size]? = some (.cells #[.int .i64 0, .slice none 0 0, .slice none 0 0] 25 (0, 0))) := Lib.hid (by
        rw [hg4.block w.heap.size (by omega) (fun e => by have := Option.some.inj e; omega)]
        exact HZ1.out)
      have hw4 : w.heap.size + 2 < w4.heap.size := (Array.getElem?_eq_some_iff.1 HZ4.out).1
      have HN4 := Lib.hid hn4
      have HS4 := Lib.hid (HSO.out.gb hg4 (by omega))
      obtain ⟨⟨z0, j0⟩, ⟨z1, j1⟩, ⟨z2, j2⟩⟩ : _ ∧ _ ∧ _ := ⟨rd_at HZ4.out 0, rd_at HZ4.out 1, rd_at HZ4.out 2⟩
      simp only [List.getElem?_toArray, List.getElem?_cons_zero, List.getElem?_cons_succ] at z0 z1 z2
      clear ho4 hm4 hok4 hr4 hg4 HPR hn4 HSO HRJ HZ1
      obtain ⟨w5, hw5⟩ : ∃ w5, w5 = w4.setCell ⟨w.heap.size + 2, 2, none⟩ (.slice p4 n4 c4) := ⟨_, rfl⟩
      have HG5 : Hid (w4.grownBy w5 (some (w.heap.size + 2))) := Lib.hid (by rw [hw5]; exact gb_set (gb_refl _ _) 2 _)
      have HL5 : Hid (Below (w.heap.size + 2) w4 w5) := Lib.hid (gb_low HG5.out (by omega))
      have HR5 := Lib.hid (HR4.out.below HL5.out (by omega))
      have HZ5 : Hid (w5.heap[w.heap.size + 2]? = some (.cells #[.int .i64 id, .slice qa ma ca, .slice p4 n4 c4] 25 (0, 0))) := Lib.hid (by rw [hw5]; simp [World.setCell, Array.getElem?_modify, HZ4.out])
      have HY5 : Hid (w5.heap[w.heap.size]? = some (.cells #[.int .i64 0, .slice none 0 0, .slice none 0 0] 25 (0, 0))) := Lib.hid (by rw [HL5.out.block _ (by omega)]; exact HY4.out)
      have HO5 := Lib.hid (HO4.out.gb HG5.out (by omega))
      have HS5 := Lib.hid (HS4.out.gb HG5.out (by omega))
      have HOK5 : Hid (∀ x ∈ r4, x.Ok w5 ∧ x.From w1.heap.size) := Lib.hid fun x hx => ⟨pr_gb (HOK4.out x hx).1 (HOK4.out x hx).2 (by omega) HG5.out, (HOK4.out x hx).2⟩
      have HBW5 : Hid (Below w.heap.size w w5) := Lib.hid (HWB.out.trans ((HBW.out.mono (by omega)).trans (((gb_low HG4.out (by omega)).mono (by omega)).trans (HL5.out.mono (by omega)))))
      have hps : ∀ (v : World), POwn v w1.heap.size (.slice p4 n4 c4) r4 → (∀ x ∈ r4, x.Ok v) → PsOk v p4 n4 c4 r4 := fun v ho hk => by
        obtain ⟨p', c', hv, h⟩ := ho.form HN4.out
        simp only [Value.slice.injEq] at hv
        obtain ⟨rfl, _, rfl⟩ := hv
        exact h hk
      have HPS := Lib.hid hps
      clear hps
      have hss : ∀ (v : World), SOwn v (w.heap.size + 3) (.slice qa ma ca) la → SsOk v qa ma ca la := fun v ho => by
        obtain ⟨p', c', hv, h⟩ := ho.form rfl
        simp only [Value.slice.injEq] at hv
        obtain ⟨rfl, rfl, rfl⟩ := hv
        exact h fun s hs => by have := HLS.out s hs; omega
      have HSS := Lib.hid hss
      clear hss
      have HED5 : Hid (Nd.Ok w5 ⟨id, qa, ma, ca, la, p4, n4, c4, r4⟩) := Lib.hid ⟨i1, i2, HSS.out _ HS5.out, HPS.out _ HO5.out fun x hx => (HOK5.out x hx).1⟩
      have HDN := Lib.hid (done_any HR5.out)
      have HER : Hid (Calls Try.prog 24 #[.agg #[.int .i64 id, .slice qa ma ca, .slice p4 n4 c4]] w5 fun e w' => e = .returned (.bool (nodeR id la ps)) ∧ Below w5.heap.size w5 w') := Lib.hid (by
        have h := nodeRight_any _ HED5.out
        rw [HM4.out] at h
        exact h)
      go_wp2_with fail
      rw [← hw5]
      replace hw5 := Lib.hid hw5
      clear z0 z1 z2 j0 j1 j2
      obtain ⟨⟨z0, j0⟩, ⟨z1, j1⟩, ⟨z2, j2⟩⟩ : _ ∧ _ ∧ _ := ⟨rd_at HZ5.out 0, rd_at HZ5.out 1, rd_at HZ5.out 2⟩
      simp only [List.getElem?_toArray, List.getElem?_cons_zero, List.getElem?_cons_succ] at z0 z1 z2
      obtain ⟨⟨y0, g0⟩, ⟨y1, g1⟩, ⟨y2, g2⟩⟩ : _ ∧ _ ∧ _ := ⟨rd_at HY5.out 0, rd_at HY5.out 1, rd_at HY5.out 2⟩
      simp only [List.getElem?_toArray, List.getElem?_cons_zero, List.getElem?_cons_succ] at y0 y1 y2
      have hw35 : w.heap.size + 2 < w5.heap.size := (Array.getElem?_eq_some_iff.1 HZ5.out).1
      refine HDN.out.mono ?_
      rintro e w' ⟨rfl, rfl⟩
      have hSD : (!sd.2 && sd.1.isEmpty) = true ↔ sd = ([], false) := by
        obtain ⟨a, b⟩ := sd
        cases b <;> cases a <;> simp
      have HSD := Lib.hid hSD
      clear hSD
      generalize (!sd.2 && sd.1.isEmpty) = dn at *
      obtain ⟨er, her⟩ : ∃ er, nodeR id la ps = er := ⟨_, rfl⟩
      rw [her] at HER
      have HERE := Lib.hid her
      clear her
      cases dn
      · go_wp2
        refine bodyPost_ret (v := .tuple #[.agg #[.int .i64 0, .slice none 0 0, .slice none 0 0], .int .i64 11]) (by simp [results, Try.results8, go_sem, y0, y1, y2]) rfl (HRP.out _ _ ⟨fun ls' ps' he _ => absurd (HSD.out.2 (by rw [HX.out] at he; exact congrArg Prod.snd he)) (by simp), fun _ => rfl, ?_⟩)
        exact (((HBW5.out.setCell (p := ⟨w.heap.size, 0, none⟩) (Nat.le_refl _) _).setCell (p := ⟨w.heap.size, 1, none⟩) (Nat.le_refl _) _).setCell (p := ⟨w.heap.size, 2, none⟩) (Nat.le_refl _) _)
      · have hsd := HSD.out.1 (by trivial)
        have HSD2 := Lib.hid hsd
        clear hsd HSD
        go_wp2_with fail
        refine HER.out.mono ?_
        rintro e w6 ⟨rfl, hb6⟩
        have HZ6 : Hid (w6.heap[w.heap.size + 2]? = some (.cells #[.int .i64 id, .slice qa ma ca, .slice p4 n4 c4] 25 (0, 0))) := Lib.hid (by rw [hb6.block _ hw35]; exact HZ5.out)
        have HY6 : Hid (w6.heap[w.heap.size]? = some (.cells #[.int .i64 0, .slice none 0 0, .slice none 0 0] 25 (0, 0))) := Lib.hid (by rw [hb6.block _ (by omega)]; exact HY5.out)
        have HB6 := Lib.hid hb6
        have HBW6 : Hid (Below w.heap.size w w6) := Lib.hid (HBW5.out.trans (hb6.mono (by omega)))
        clear y0 y1 y2 g0 g1 g2 z0 z1 z2 j0 j1 j2
        obtain ⟨⟨z0, j0⟩, ⟨z1, j1⟩, ⟨z2, j2⟩⟩ : _ ∧ _ ∧ _ := ⟨rd_at HZ6.out 0, rd_at HZ6.out 1, rd_at HZ6.out 2⟩
        simp only [List.getElem?_toArray, List.getElem?_cons_zero, List.getElem?_cons_succ] at z0 z1 z2
        obtain ⟨⟨y0, g0⟩, ⟨y1, g1⟩, ⟨y2, g2⟩⟩ : _ ∧ _ ∧ _ := ⟨rd_at HY6.out 0, rd_at HY6.out 1, rd_at HY6.out 2⟩
        simp only [List.getElem?_toArray, List.getElem?_cons_zero, List.getElem?_cons_succ] at y0 y1 y2
        have hw36 : w.heap.size + 2 < w6.heap.size := (Array.getElem?_eq_some_iff.1 HZ6.out).1
        have hw06 : w.heap.size < w6.heap.size := by omega
        clear hb6
        cases er
        · go_wp2
          refine bodyPost_ret (v := .tuple #[.agg #[.int .i64 0, .slice none 0 0, .slice none 0 0], .int .i64 11]) (by simp [results, Try.results8, go_sem, y0, y1, y2]) rfl (HRP.out _ _ ⟨fun ls' ps' he hr => ?_, fun _ => rfl, ?_⟩)
          · rw [HX.out] at he
            simp only [Prod.mk.injEq] at he
            obtain ⟨⟨rfl, rfl⟩, _⟩ := he
            rw [HERE.out] at hr
            cases hr
          · exact (((HBW6.out.setCell (p := ⟨w.heap.size, 0, none⟩) (Nat.le_refl _) _).setCell (p := ⟨w.heap.size, 1, none⟩) (Nat.le_refl _) _).setCell (p := ⟨w.heap.size, 2, none⟩) (Nat.le_refl _) _)
        · go_wp2
          have hgs := fun v1 v2 v3 => gb_set (gb_set (gb_set (gb_refl w6 w.heap.size) 0 v1) 1 v2) 2 v3
          refine bodyPost_ret (v := .tuple #[.agg #[.int .i64 id, .slice qa ma ca, .slice p4 n4 c4], .int .i64 0]) (by simp [results, Try.results8, go_sem, y0, y1, y2]) rfl (HRP.out _ _ ⟨fun ls' ps' he hr => ?_, fun h => ?_, ?_⟩)
          · rw [HX.out] at he
            simp only [Prod.mk.injEq] at he
            obtain ⟨⟨rfl, rfl⟩, _⟩ := he
            refine ⟨⟨id, qa, ma, ca, la, p4, n4, c4, r4⟩, rfl, ⟨i1, i2, ?_, ?_⟩, rfl, rfl, HM4.out⟩
            · exact HSS.out _ ((HS5.out.below HB6.out).gb (hgs _ _ _) (by omega))
            · exact HPS.out _ ((HO5.out.below HB6.out).gb (hgs _ _ _) (by omega)) fun x hx => pr_gb ((HOK5.out x hx).1.below HB6.out) (HOK5.out x hx).2 (by omega) (hgs _ _ _)
          · exfalso
            rw [HX.out] at h
            dsimp only at h
            rw [HSD2.out, HERE.out] at h
            simp at h
          · exact (((HBW6.out.setCell (p := ⟨w.heap.size, 0, none⟩) (Nat.le_refl _) _).setCell (p := ⟨w.heap.size, 1, none⟩) (Nat.le_refl _) _).setCell (p := ⟨w.heap.size, 2, none⟩) (Nat.le_refl _) _)

end Go.Proofs.Ytekaedafhiddeaa
