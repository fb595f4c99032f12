/-
  node.putNumber, putText, putVal: contracts.
  node.Put: its contract.
-/
import Derived.Test.YtngnmakeaniapaaGreatDoorH21
import Derived.Test.YtngnmakeaniapaaGreatDoorH25
import Derived.Deep.RegionHeld3
import Derived.Deep.CutBlock
import Derived.Deep.CutRange
import Derived.Laws.MakeOwn
set_option linter.unusedVariables false
set_option maxRecDepth 100000
namespace Go.Proofs.YtngnmakeaniapaaGreatDoor
open Go.RowKit

/-- A slice of the call's own, of these bytes: of the elder blocks g alone has changed. -/
structure AppTo (w : World) (B g : Nat) (l : List UInt8) (g' n c : Nat) (w' : World) : Prop where
  len : n = l.length
  own : Own w' B (.slice (some ⟨g', 0, none⟩) n c) l
  gb : w.grownBy w' (some g)
  new : g' = g ∨ w.heap.size ≤ g'
def AppAt (w : World) (B g : Nat) (l : List UInt8) (e : Ending) (w' : World) : Prop := ∃ g' n c, e = .returned (.slice (some ⟨g', 0, none⟩) n c) ∧ AppTo w B g l g' n c w'
theorem AppTo.of_run {w w' : World} {B g : Nat} {v' : Value} {l : List UInt8} (hl : 0 < l.length) (h1 : Own w' B v' l) (h2 : w.grownBy w' (some g)) (h3 : v'.ownBlock = some g ∨ Own w' w.heap.size v' l) : ∃ g' n c, v' = .slice (some ⟨g', 0, none⟩) n c ∧ AppTo w B g l g' n c w' := by
  obtain ⟨g', c, rfl, _⟩ := h1.some rfl hl
  refine ⟨g', _, c, rfl, rfl, h1, h2, ?_⟩
  rcases h3 with h | h
  · exact .inl (Option.some.inj h)
  · exact .inr (World.ownsRow.lt h g' rfl).1
theorem AppTo.trans {w w1 w2 : World} {B g g1 g2 n1 n2 c1 c2 : Nat} {l m : List UInt8} (h : AppTo w B g l g1 n1 c1 w1) (h' : AppTo w1 B g1 m g2 n2 c2 w2) : AppTo w B g m g2 n2 c2 w2 :=
  ⟨h'.len, h'.own, ⟨h'.gb.os.trans h.gb.os, h'.gb.tape.trans h.gb.tape, h'.gb.output.trans h.gb.output, Nat.le_trans h.gb.size h'.gb.size, fun k hk hne => (h'.gb.block k (Nat.lt_of_lt_of_le hk h.gb.size) (fun e => by
    cases e
    rcases h.new with h1 | h1
    · exact hne (by rw [h1])
    · omega)).trans (h.gb.block k hk hne)⟩, by
    rcases h'.new with h1 | h1
    · rw [h1]; exact h.new
    · exact .inr (Nat.le_trans h.gb.size h1)⟩
theorem AppTo.pre {w w1 w2 : World} {B g g2 n2 c2 : Nat} {m : List UInt8} (h : Below w.heap.size w w1) (h' : AppTo w1 B g m g2 n2 c2 w2) : AppTo w B g m g2 n2 c2 w2 :=
  ⟨h'.len, h'.own, gb_trans (gb_below h) h'.gb, by
    rcases h'.new with h1 | h1
    · exact .inl h1
    · exact .inr (Nat.le_trans h.size h1)⟩
theorem AppTo.below {w w' : World} {B g g' n' c n c0 : Nat} {l k : List UInt8} (h : AppTo w B g l g' n' c w') (ho : Own w B (.slice (some ⟨g, 0, none⟩) n c0) k) (hB : B ≤ w.heap.size) : Below B w w' :=
  (Below.refl B w).grown h.gb hB fun i hi => by have := (World.ownsRow.lt ho g rfl).1; cases hi; exact this
theorem AppTo.cell {w w' : World} {B g g' n c b : Nat} {l : List UInt8} (h : AppTo w B g l g' n c w') (hb : b < w.heap.size) (hne : b ≠ g) (i : Nat) : w'.cell? ⟨b, i, none⟩ = w.cell? ⟨b, i, none⟩ :=
  World.cell?_of_block (h.gb.block b hb fun e => hne (Option.some.inj e))

/-- append(own, bytes...) onto a slice whose block is known. -/
theorem app_at {w : World} {ops : Array Oper} {rest : List Oper} {o : Oper} {a : Act} {Q : Exit → Act → World → Prop} (hgd : o.guard = none) (s x : Operand)
    (ho : o.op = .call { callee := .builtin .append, args := #[s, x], argTypes := #[41, 41] })
    {B g n cap : Nat} {l m : List UInt8} (hs : a.eval s = .slice (some ⟨g, 0, none⟩) n cap) (hown : Own w B (.slice (some ⟨g, 0, none⟩) n cap) l) (hn : n = l.length) {p : Option Addr} {k c : Nat} (hk : k = m.length) (hx : a.eval x = .slice p k c) (hsrc : Bs w p m) (hp : p = none → c = 0)
    (hl : 0 < (l ++ m).length) (hlen : l.length + m.length ≤ 140737488355328) (hB : B ≤ w.heap.size)
    (h : ∀ g' n' c' w', AppTo w B g (l ++ m) g' n' c' w' → wpList Tryz.prog ops Q rest (a.put o.dst (.slice (some ⟨g', 0, none⟩) n' c')) w') : wpList Tryz.prog ops Q (o :: rest) a w := by
  obtain ⟨v', w', hr, h1, h2, h3⟩ := run_at o.type hown hn hk hsrc hp hlen hB
  obtain ⟨g', n', c', rfl, ht⟩ := AppTo.of_run hl h1 h2 h3
  exact Lib.wpList_append_run w hgd s x _ _ ho _ _ hs hx _ w' hr (h g' n' c' w' ht)
theorem step_appAt {w : World} {ops : Array Oper} {o : Oper} {a : Act} {K : Act → World → Prop} {Q : Exit → Act → World → Prop} {E : Prop} (hgd : o.guard = none) (s x : Operand)
    (ho : o.op = .call { callee := .builtin .append, args := #[s, x], argTypes := #[41, 41] })
    {B g n cap : Nat} {l m : List UInt8} (hs : a.eval s = .slice (some ⟨g, 0, none⟩) n cap) (hown : Own w B (.slice (some ⟨g, 0, none⟩) n cap) l) (hn : n = l.length) {p : Option Addr} {k c : Nat} (hk : k = m.length) (hx : a.eval x = .slice p k c) (hsrc : Bs w p m) (hp : p = none → c = 0)
    (hl : 0 < (l ++ m).length) (hlen : l.length + m.length ≤ 140737488355328) (hB : B ≤ w.heap.size)
    (h : ∀ g' n' c' w', AppTo w B g (l ++ m) g' n' c' w' → K (a.put o.dst (.slice (some ⟨g', 0, none⟩) n' c')) w') : if Region.wanted o (yielded ops a.tmps) = true then Oper.wp Tryz.prog o a w K Q else E := by
  have hw : Region.wanted o (yielded ops a.tmps) = true := by simp [Region.wanted, hgd]
  rw [if_pos hw]
  obtain ⟨v', w', hr, h1, h2, h3⟩ := run_at o.type hown hn hk hsrc hp hlen hB
  obtain ⟨g', n', c', rfl, ht⟩ := AppTo.of_run hl h1 h2 h3
  exact Lib.wp_append_run w s x 41 41 ho _ _ hs hx _ w' hr (h g' n' c' w' ht)

theorem two_cells {n : Nat} (hn : n < 65536) : #[Value.int .u8 ((n : Int) % 256), .int .u8 ((n : Int) / 256)] = (u8s (two n)).toArray := by
  have e1 : ((UInt8.ofNat n).toNat : Int) = (n : Int) % 256 := by rw [UInt8.toNat_ofNat']; omega
  have e2 : ((UInt8.ofNat (n / 256)).toNat : Int) = (n : Int) / 256 := by rw [UInt8.toNat_ofNat']; omega
  simp only [u8s, two, List.map_cons, List.map_nil, e1, e2]
theorem one_cell {n : Nat} (hn : n < 256) : #[Value.int .u8 (n : Int)] = (u8s [UInt8.ofNat n]).toArray := by
  have e1 : ((UInt8.ofNat n).toNat : Int) = (n : Int) := by rw [UInt8.toNat_ofNat']; omega
  simp only [u8s, List.map_cons, List.map_nil, e1]

set_option maxHeartbeats 800000 in
theorem putNum_any {w : World} {B g m c : Nat} {l : List UInt8} (hown : Own w B (.slice (some ⟨g, 0, none⟩) m c) l) (hm : m = l.length) (hl : m ≤ 1000000) (hB : B ≤ w.heap.size) (n : Nat) (hn : n < 65536) :
    Calls Tryz.prog 200 #[.slice (some ⟨g, 0, none⟩) m c, .int .i64 (n : Int)] w (AppAt w B g (l ++ two n)) := by
  have HO := Lib.hid hown
  have HM := Lib.hid hm
  have HT := Lib.hid (two_cells hn)
  obtain ⟨_, _, hv, h1, h2, _, _⟩ := hown.form hm
  cases hv
  clear hown hm
  go_enter Tryz.func200, Tryz.ntmps200
  go_wp2_with (at_builtin; refine app_at rfl (.tmp 5) (.tmp 11) rfl rfl (HO.out.alloc _) HM.out (m := two n) rfl rfl (Bs.new _ _ _ _ rfl HT.out) (fun h => by cases h) (by simp [two]) (by rw [← HM.out]; simp [two]; omega) (by simp; omega) ?_; intro g2 n2 c2 w2 ha; have HA := Lib.hid (AppTo.pre ((Below.refl w.heap.size w).alloc (Nat.le_refl _) _) ha); clear ha)
  go_ret
  exact ⟨_, _, _, rfl, HA.out⟩

set_option maxHeartbeats 800000 in
theorem putText_any {w : World} {B g m c : Nat} {l : List UInt8} (hown : Own w B (.slice (some ⟨g, 0, none⟩) m c) l) (hm : m = l.length) (hl : m ≤ 1000000) (hB : B ≤ w.heap.size) {q : Option Addr} {tn k : Nat} {t : List UInt8} (ht : ∀ w', Below B w w' → Bs w' q t) (htn : tn = t.length) (htl : tn ≤ 255) (hz : q = none → k = 0) (hk : tn ≤ k) (hk2 : k ≤ 9223372036854775807) :
    Calls Tryz.prog 201 #[.slice (some ⟨g, 0, none⟩) m c, .slice q tn k] w (AppAt w B g (l ++ txtB t)) := by
  have HO := Lib.hid hown
  have HM := Lib.hid hm
  have HTN := Lib.hid htn
  have HT := Lib.hid (one_cell (n := tn) (by omega))
  have HBT := Lib.hid ht
  have HZ := Lib.hid hz
  have HX : Hid (l ++ [UInt8.ofNat tn] ++ t = l ++ txtB t) := Lib.hid (by rw [HTN.out]; simp [txtB])
  have HBW : Hid (∀ {g' n' c' w'}, AppTo w B g (l ++ [UInt8.ofNat tn]) g' n' c' w' → Below B w w') := Lib.hid fun h => h.below hown hB
  obtain ⟨_, _, hv, h1, h2, _, _⟩ := hown.form hm
  cases hv
  clear hown hm htn ht hz
  go_enter Tryz.func201, Tryz.ntmps201
  go_wp2_with (first
    | (at_builtin; refine app_at rfl (.tmp 10) (.tmp 11) rfl rfl HA.out.own HA.out.len (m := t) HTN.out rfl (HBT.out _ (HBW.out HA.out)) HZ.out (by simp; omega) (by rw [← HTN.out]; simp; have := HM.out; omega) (Nat.le_trans hB (HBW.out HA.out).size) ?_; intro g3 n3 c3 w3 ha; have HA3 := Lib.hid (HA.out.trans ha); clear ha)
    | (at_builtin; refine app_at rfl (.tmp 5) (.tmp 9) rfl rfl (HO.out.alloc _) HM.out (m := [UInt8.ofNat tn]) rfl rfl (Bs.new _ _ _ _ rfl HT.out) (fun h => by cases h) (by simp) (by rw [← HM.out]; simp; omega) (by simp; omega) ?_; intro g2 n2 c2 w2 ha; have HA := Lib.hid (AppTo.pre ((Below.refl w.heap.size w).alloc (Nat.le_refl _) _) ha); clear ha))
  go_ret
  exact ⟨_, _, _, rfl, by rw [← HX.out]; exact HA3.out⟩

set_option maxHeartbeats 1600000 in
theorem putVal_any {w : World} {B g m c : Nat} {l : List UInt8} (hown : Own w B (.slice (some ⟨g, 0, none⟩) m c) l) (hm : m = l.length) (hl : m ≤ 900000) (hB : B ≤ w.heap.size) {x : Vl} (hx : ∀ w', Below B w w' → Bs w' x.q x.l) (hok : x.Ok w) (hr : x.s.Right) :
    Calls Tryz.prog 202 #[.slice (some ⟨g, 0, none⟩) m c, x.cell] w (AppAt w B g (l ++ valB x.s)) := by
  obtain ⟨q, k, t, n, p⟩ := x
  have h1 := hok.h1
  have h2 := hok.h2
  have hz := hok.z
  unfold Vl.cell Vl.s valB
  unfold Vl.s VlS.Right at hr
  dsimp only at hx hr h1 h2 hz ⊢
  obtain ⟨tn, htn⟩ : ∃ y, y = t.length := ⟨_, rfl⟩
  have HTN := Lib.hid htn
  rw [← htn] at hr h1 ⊢
  obtain ⟨W, hW⟩ : ∃ W, W = w.alloc (.cells #[.slice q tn k, .int .i64 n, .int .i64 p] 156) := ⟨_, rfl⟩
  have HWS : Hid (W.heap.size = w.heap.size + 1) := Lib.hid (by rw [hW]; simp)
  have HWB : Hid (Below w.heap.size w W) := Lib.hid (by rw [hW]; exact (Below.refl _ _).alloc (Nat.le_refl _) _)
  have HO : Hid (Own W B (.slice (some ⟨g, 0, none⟩) m c) l) := Lib.hid (by rw [hW]; exact hown.alloc _)
  have HBS : Hid (B ≤ W.heap.size) := Lib.hid (by have := HWS.out; omega)
  have hblk : W.heap[w.heap.size]? = some (.cells #[.slice q tn k, .int .i64 n, .int .i64 p] 156 (0, 0)) := by rw [hW]; exact heap_alloc_new w _
  have HM := Lib.hid hm
  have HG : Hid (g < w.heap.size) := Lib.hid (World.ownsRow.lt hown g rfl).2
  rcases hr with ⟨rfl, rfl, h64⟩ | ⟨⟨hp1, hp2⟩, hg1, hg2, ht0⟩
  · rw [if_pos rfl]
    have HC := Lib.hid (putText_any (k := k) (t := t) HO.out hm (by omega) HBS.out (fun w' hb => hx w' ((HWB.out.mono hB).trans hb)) htn (by omega) hz h1 h2)
    have c0 : W.cell? ⟨w.heap.size, 0, none⟩ = some (.slice q tn k) := Joins.cell_of_block hblk 0
    have c2 : W.cell? ⟨w.heap.size, 2, none⟩ = some (.int .i64 0) := Joins.cell_of_block hblk 2
    clear hown hx hok hblk hm htn
    go_enter Tryz.func202, Tryz.ntmps202
    go_wp2_with fail
    rw [← hW]
    replace hW := Lib.hid hW
    go_wp2_with fail
    refine HC.out.mono ?_
    rintro e w2 ⟨g2, n2, c2, rfl, ha⟩
    have HA := Lib.hid (AppTo.pre HWB.out ha)
    clear ha
    go_wp2
    go_ret
    exact ⟨_, _, _, rfl, HA.out⟩
  · rw [if_neg (by omega)]
    obtain ⟨gn, rfl⟩ := Int.eq_ofNat_of_zero_le (show 0 ≤ n by omega)
    obtain ⟨pn, rfl⟩ := Int.eq_ofNat_of_zero_le (show 0 ≤ p by omega)
    rw [Int.toNat_natCast, Int.toNat_natCast]
    have hpb : ((pn : Int) == 0) = false := by rw [beq_eq_false_iff_ne]; omega
    have hpb2 : (pn == 0) = false := by rw [beq_eq_false_iff_ne]; omega
    have HC : Hid (∀ w' : World, w'.heap[w.heap.size]? = W.heap[w.heap.size]? → w'.cell? ⟨w.heap.size, 1, none⟩ = some (.int .i64 gn) ∧ w'.cell? ⟨w.heap.size, 2, none⟩ = some (.int .i64 pn)) := Lib.hid fun w' hb => by
      have h1 := hb.trans hblk
      exact ⟨Joins.cell_of_block h1 1, Joins.cell_of_block h1 2⟩
    have HGN : Hid (gn < 65536) := Lib.hid (by omega)
    have HPN : Hid (pn < 65536) := Lib.hid (by omega)
    have HX : Hid (l ++ [255] ++ two gn ++ two pn = l ++ 255 :: (two gn ++ two pn)) := Lib.hid (by simp)
    have HLW : Hid (w.heap.size < W.heap.size) := Lib.hid (by have := HWS.out; omega)
    have HK : Hid (∀ {k g' n' c'} {w' : World}, AppTo W B g k g' n' c' w' → w'.heap[w.heap.size]? = W.heap[w.heap.size]?) := Lib.hid fun h => h.gb.block _ HLW.out (fun e => by have := Option.some.inj e; have := HG.out; omega)
    have HBA : Hid (∀ {k g' n' c'} {w' : World}, AppTo W B g k g' n' c' w' → B ≤ w'.heap.size) := Lib.hid fun h => Nat.le_trans HBS.out h.gb.size
    clear hblk ht0 hx hok hown hg1 hg2 hp1 hp2 hm htn
    obtain ⟨c1, c2⟩ := HC.out W rfl
    go_enter Tryz.func202, Tryz.ntmps202
    go_wp2_with fail
    rw [← hW]
    replace hW := Lib.hid hW
    go_wp2_with fail
    have HAL : Hid (∀ o : Obj, Below W.heap.size W (W.drew.alloc o)) := Lib.hid fun o => (Below.refl _ _).drew.alloc (Nat.le_refl _) _
    go_region_held3 (fun w' => w'.cell? ⟨w.heap.size, 1, none⟩ = some (.int .i64 gn) ∧ w'.cell? ⟨w.heap.size, 2, none⟩ = some (.int .i64 pn))
      (first | exact HC.out _ rfl | exact HC.out _ ((HAL.out _).block _ HLW.out) | exact HC.out _ (HK.out HA4.out) | exact HC.out _ (HK.out HA3.out) | exact HC.out _ (HK.out HA2.out))
      (first
        | (go_at_call 200; (with_reducible refine (putNum_any HA3.out.own HA3.out.len (by rw [HA3.out.len]; simp [two]; have := HM.out; omega) (HBA.out HA3.out) pn HPN.out).mono ?_); rintro e w4 ⟨g4, n4, d4, rfl, ha⟩; have HA4 := Lib.hid (HA3.out.trans ha); clear ha)
        | (go_at_call 200; (with_reducible refine (putNum_any HA2.out.own HA2.out.len (by rw [HA2.out.len]; simp; have := HM.out; omega) (HBA.out HA2.out) gn HGN.out).mono ?_); rintro e w3 ⟨g3, n3, d3, rfl, ha⟩; have HA3 := Lib.hid (HA2.out.trans ha); clear ha)
        | (refine step_appAt rfl (.tmp 12) (.tmp 13) rfl rfl (HO.out.drew.alloc _) HM.out (m := [255]) rfl rfl (Bs.new _ _ _ _ rfl rfl) (fun h => by cases h) (by simp) (by have := HM.out; simp; omega) (by have := HBS.out; simp; omega) ?_; intro g2 n2 d2 w2 ha; have HA2 := Lib.hid (AppTo.pre (HAL.out _) ha); clear ha))
    all_goals
      go_wp2
      go_ret
      exact ⟨_, _, _, rfl, by rw [← HX.out]; exact AppTo.pre HWB.out HA4.out⟩

end Go.Proofs.YtngnmakeaniapaaGreatDoor

set_option linter.unusedVariables false
set_option maxRecDepth 100000
namespace Go.Proofs.YtngnmakeaniapaaGreatDoor
open Go.RowKit

theorem make_fact (sz : Nat) (hsz : sz ≤ 493) : ∃ Z : Array Value, (∀ w : World, (Instr.makeSlice 41 (.int .i64 0) (.int .i64 (sz : Int))).run Tryz.prog w = .ok (.slice (some ⟨w.heap.size, 0, none⟩) 0 sz) (w.alloc (.cells Z 5))) ∧
    ∀ (w : World) (B : Nat), B ≤ w.heap.size → Own (w.alloc (.cells Z 5)) B (.slice (some ⟨w.heap.size, 0, none⟩) 0 sz) [] := by
  obtain ⟨i, hi, hz0, hz1, hz2⟩ := info_parts info_u8
  refine ⟨_, fun w => (run_makeSlice (P := Tryz.prog) (w := w) 41 5 i (.int .u8 0) Tryz.underlying41 hi hz0 .i64 .i64 0 (sz : Int) (by omega) (by omega) (by rw [hz1]; omega) (by rw [hz2]; omega) (by omega)).trans rfl, fun w B hB => ?_⟩
  refine ⟨rfl, .inr ⟨w.heap.size, sz, _, rfl, hB, heap_alloc_new w _, Nat.zero_le _, by unfold maxLen; omega, ?_, rfl⟩⟩
  rw [hz1]
  simp [madeCells, Value.cells]

/-- The node's bytes, or that it is not right. -/
def PutN (w : World) (n : NdS) (e : Ending) (w' : World) : Prop :=
  (¬ n.Right ∧ e = .returned (.tuple #[.slice none 0 0, .int .i64 2]) ∧ Below w.heap.size w w') ∨
  (n.Right ∧ ∃ g k c, e = .returned (.tuple #[.slice (some ⟨g, 0, none⟩) k c, .int .i64 0]) ∧ k = n.put.length ∧ Own w' w.heap.size (.slice (some ⟨g, 0, none⟩) k c) n.put ∧ Below w.heap.size w w')

set_option maxHeartbeats 3200000 in
theorem ndPut_any {w : World} {n : Nd} (h : n.Ok w) (hc : n.s.count ≤ 100000) :
    Calls Tryz.prog 185 #[n.cell] w (PutN w n.s) := by
  obtain ⟨f1, _⟩ := Nd.few hc
  obtain ⟨W, hW, hbw, hws, hcc⟩ := nd_box w n
  have HOK := Lib.hid h
  have HC := Lib.hid hcc
  have HBW := Lib.hid hbw
  have HWS := Lib.hid hws
  have HBS : Hid (∀ w', Below W.heap.size W w' → Below w.heap.size w w') := Lib.hid fun w' hb => (hcc w' hb).1
  have HR := Lib.hid (ndRight_any (h.below hbw) hc)
  have HSZ := Lib.hid (fun w' hb => size_any (w := w') ((h.below hbw).below hb) hc)
  have hcell : n.cell = .agg #[.bool n.leaf, .slice n.kq n.ks.length n.kc, .slice n.vq n.vs.length n.vc, .slice n.iq n.is.length n.ic] := rfl
  rw [hcell] at HR HSZ ⊢
  have k1 := h.k1
  have k2 := h.k2
  obtain ⟨km, hkm⟩ : ∃ m, m = n.ks.length := ⟨_, rfl⟩
  have HKM := Lib.hid hkm
  obtain ⟨vm, hvm⟩ : ∃ m, m = n.vs.length := ⟨_, rfl⟩
  have HVM := Lib.hid hvm
  obtain ⟨im, him⟩ : ∃ m, m = n.is.length := ⟨_, rfl⟩
  have HIM := Lib.hid him
  rw [← hkm, ← hvm, ← him] at HR HSZ HC hW ⊢
  obtain ⟨_, c0, c1, c2, c3⟩ := HC.out W (Below.refl _ _)
  rw [← hkm] at f1 k1
  clear hcell h hbw hcc hws hkm hvm him hc
  go_enter Tryz.func185, Tryz.ntmps185
  go_wp2_with fail
  rw [← hW]
  replace hW := Lib.hid hW
  go_wp2_with fail
  refine HR.out.mono ?_
  rintro e w1 ⟨b1, rfl, hb1, hb⟩
  have HB := Lib.hid hb
  have HB1 := Lib.hid hb1
  clear c0 c1 c2 c3
  obtain ⟨_, c0, c1, c2, c3⟩ := HC.out _ hb
  clear hb hb1
  cases b1
  · go_wp2
    go_ret2
    exact .inl ⟨fun hr => (by have := HB1.out.2 hr; cases this), rfl, HBS.out _ HB.out⟩
  · have HRI := Lib.hid (HB1.out.1 rfl)
    have hm250 : km ≤ 250 := by have := HRI.out.many; rw [Nd.s_ks, List.length_map] at this; have := HKM.out; omega
    obtain ⟨sz, hsz⟩ : ∃ y, y = n.s.size := ⟨_, rfl⟩
    have HSN := Lib.hid hsz
    have hsz4 : sz ≤ 493 := by rw [hsz]; exact HRI.out.size
    rw [← hsz] at HSZ
    clear hsz HR HB1
    go_wp2_with fail
    obtain ⟨Z, hmk, hoz⟩ := make_fact sz hsz4
    have HOZ := Lib.hid hoz
    have HOZ1 : Hid (∀ (w : World) (o : Obj) (B : Nat), B ≤ w.heap.size → Own ((w.alloc o).alloc (.cells Z 5)) B (.slice (some ⟨w.heap.size + 1, 0, none⟩) 0 sz) []) := Lib.hid fun w o B hB => by
      have h1 := hoz (w.alloc o) B (by simp; omega)
      rwa [show (w.alloc o).heap.size = w.heap.size + 1 by simp] at h1
    clear hoz
    have HONE := Lib.hid (one_cell (n := km) (by omega))
    have HBB : Hid (w.heap.size ≤ W.heap.size) := Lib.hid (by have := HWS.out; omega)
    go_cut [4] from 10 to 18 (fun x4 wx => ∃ g k c, x4 = .slice (some ⟨g, 0, none⟩) k c ∧ k = 1 ∧ Own wx W.heap.size (.slice (some ⟨g, 0, none⟩) k c) [UInt8.ofNat km] ∧ Below W.heap.size W wx)
    case first =>
      have hwr : IntKind.u8.wrap (km : Int) = (km : Int) := by rw [IntKind.wrap_u8]; omega
      have HBD : Hid (Below W.heap.size W w1.drew) := Lib.hid HB.out.drew
      have HBD2 : Hid (∀ o : Obj, Below W.heap.size W (w1.alloc o).drew) := Lib.hid fun o => (HB.out.alloc HB.out.size _).drew
      have HBD5 : Hid (∀ o : Obj, Below W.heap.size W (w1.alloc o)) := Lib.hid fun o => (HB.out.alloc HB.out.size _)
      have HBD3 : Hid (∀ (w' : World) (o : Obj), Below W.heap.size W w' → Below W.heap.size W (w'.alloc o)) := Lib.hid fun w' o h => h.alloc h.size _
      go_region_held3 (fun w' => w'.cell? ⟨w.heap.size, 0, none⟩ = some (.bool n.leaf) ∧ w'.cell? ⟨w.heap.size, 1, none⟩ = some (.slice n.kq km n.kc) ∧ w'.cell? ⟨w.heap.size, 2, none⟩ = some (.slice n.vq vm n.vc) ∧ w'.cell? ⟨w.heap.size, 3, none⟩ = some (.slice n.iq im n.ic))
        (first | exact (HC.out _ HBD.out).2 | exact (HC.out _ (HBD2.out _)).2 | exact (HC.out _ (HBD5.out _)).2 | exact (HC.out _ HB3.out).2 | exact (HC.out _ (HBD3.out _ _ (HBD3.out _ _ HB2.out))).2 | exact (HC.out _ (HBD3.out _ _ HB2.out)).2 | exact (HC.out _ HB2.out).2)
        (first
          | (go_at_call 199; (with_reducible refine (HSZ.out _ HBD.out).mono ?_); rintro e w2 ⟨rfl, hb2⟩; have HB2 := Lib.hid (HBD.out.trans (hb2.mono HBD.out.size)); clear hb2)
          | (go_at_call 199; (with_reducible refine (HSZ.out _ (HBD2.out _)).mono ?_); rintro e w2 ⟨rfl, hb2⟩; have HB2 := Lib.hid ((HBD2.out _).trans (hb2.mono (HBD2.out _).size)); have HS2 : Hid (Bs w2 (some ⟨w1.heap.size, 0, none⟩) [UInt8.ofNat km]) := Lib.hid ((Bs.new w1 5 (0, 0) _ rfl HONE.out).drew.below hb2); clear hb2)
          | (refine step_appAt rfl (.tmp 12) (.tmp 17) rfl rfl (HOZ.out w2 W.heap.size HB2.out.size) rfl (m := [UInt8.ofNat km]) rfl rfl (HS2.out.alloc (.cells Z 5)) (fun h => by cases h) (by simp) (by simp) (by have := HB2.out.size; simp; omega) ?_; intro g3 n3 d3 w3 ha; have HN3 : Hid (n3 = 1) := Lib.hid ha.len; have HO3 := Lib.hid ha.own; have HB3 := Lib.hid ((HBD3.out _ _ HB2.out).trans (ha.below (HOZ.out w2 W.heap.size HB2.out.size) (HBD3.out _ _ HB2.out).size)); clear ha)
          | (refine step_appAt rfl (.tmp 12) (.tmp 17) rfl rfl (HOZ1.out w2 (.cells #[.int .u8 (km : Int)] 5) W.heap.size HB2.out.size) rfl (m := [UInt8.ofNat km]) rfl rfl ((Bs.new w2 5 (0, 0) #[.int .u8 (km : Int)] rfl HONE.out).alloc (.cells Z 5)) (fun h => by cases h) (by simp) (by simp) (by have := HB2.out.size; simp; omega) ?_; intro g3 n3 d3 w3 ha; have HN3 : Hid (n3 = 1) := Lib.hid ha.len; have HO3 := Lib.hid ha.own; have HB3 := Lib.hid ((HBD3.out _ _ (HBD3.out _ _ HB2.out)).trans (ha.below (HOZ1.out w2 (.cells #[.int .u8 (km : Int)] 5) W.heap.size HB2.out.size) (HBD3.out _ _ (HBD3.out _ _ HB2.out)).size)); clear ha)
          | (refine step_appAt rfl (.tmp 12) (.tmp 17) rfl rfl ((HOZ.out w2 W.heap.size HB2.out.size).alloc (.cells #[.int .u8 (km : Int)] 5)) rfl (m := [UInt8.ofNat km]) rfl rfl (Bs.new (w2.alloc (.cells Z 5)) 5 (0, 0) #[.int .u8 (km : Int)] (by simp) HONE.out) (fun h => by cases h) (by simp) (by simp) (by have := HB2.out.size; simp; omega) ?_; intro g3 n3 d3 w3 ha; have HN3 : Hid (n3 = 1) := Lib.hid ha.len; have HO3 := Lib.hid ha.own; have HB3 := Lib.hid ((HBD3.out _ _ (HBD3.out _ _ HB2.out)).trans (ha.below ((HOZ.out w2 W.heap.size HB2.out.size).alloc (.cells #[.int .u8 (km : Int)] 5)) (HBD3.out _ _ (HBD3.out _ _ HB2.out)).size)); clear ha)
          | fail)
      all_goals
        go_wp2_with fail
        go_meet
        exact ⟨_, _, _, rfl, HN3.out, HO3.out, HB3.out⟩
    case rest =>
      obtain ⟨g, k0, c, rfl, hk0, ho, hb⟩ := hcut
      have HO := Lib.hid ho
      have HK0 := Lib.hid hk0
      have HBC := Lib.hid hb
      clear ho hb c0 c1 c2 c3 hmk HOZ HOZ1 HSZ hk0
      have HPL : Hid (n.s.put.length ≤ 493) := Lib.hid (by rw [HRI.out.length]; exact HRI.out.size)
      obtain ⟨_, c0, c1, c2, c3⟩ := HC.out _ HBC.out
      cases hl : n.leaf
      · have HL := Lib.hid hl
        rw [hl] at HC c0
        have HBR := Lib.hid (HRI.out.branch hl)
        clear hl
        have him : im = km + 1 := by have := HBR.out.1; have h2 := HIM.out; have h3 := HKM.out; rw [Nd.s_ks, List.length_map] at this; rw [h2, h3]; exact this
        have hi1 := HOK.out.i1
        have hi2 := HOK.out.i2
        obtain ⟨i0, ti, hti⟩ : ∃ i0 ti, n.is = i0 :: ti := by
          cases h : n.is with
          | nil => have := HIM.out; rw [h] at this; simp at this; omega
          | cons a l => exact ⟨a, l, rfl⟩
        have hi0 : n.is[0]? = some i0 := by rw [hti]; rfl
        obtain ⟨bi, oi, hiq, hci⟩ := ((HOK.out.below HBW.out).below HBC.out).il.at hi0
        have hp0 : PageOk i0 := HBR.out.2.2 i0 (by show i0 ∈ n.is; rw [hti]; exact List.mem_cons_self)
        obtain ⟨i0n, rfl⟩ := Int.eq_ofNat_of_zero_le (show 0 ≤ i0 by have := hp0.1; omega)
        have HPUT : Hid (n.s.put = [UInt8.ofNat km] ++ two i0n ++ entsB n.s.ks ti) := Lib.hid (by
          unfold NdS.put
          rw [show n.s.leaf = n.leaf from rfl, HL.out, if_neg (by simp), show n.s.is = n.is from rfl, hti, Nd.s_ks, List.length_map, ← HKM.out]
          simp [two])
        have HTI := Lib.hid hti
        rw [Nat.add_zero] at hci
        rw [← HIM.out] at hi1
        rw [hiq] at c3
        have hblti := World.block_lt_of_cell? _ _ hci
        have him0 : 0 < im := by omega
        have HIMK := Lib.hid him
        have HPN := Lib.hid (putNum_any HO.out HK0.out (by have := HK0.out; omega) HBC.out.size i0n (by have := hp0.2; omega))
        have HBN : Hid (∀ {k g' n' c'} {w' : World}, AppTo wc W.heap.size g k g' n' c' w' → Below W.heap.size wc w') := Lib.hid fun h => h.below HO.out HBC.out.size
        clear hti hi0 hp0 him
        go_wp2_with fail
        refine HPN.out.mono ?_
        rintro e w4 ⟨g4, n4, d4, rfl, ha⟩
        have HA4 := Lib.hid ha
        have HB4 := Lib.hid (HBC.out.trans (HBN.out ha))
        clear ha c0 c1 c2 c3 hci hblti HPN HBN
        obtain ⟨_, c0, c1, c2, c3⟩ := HC.out _ HB4.out
        go_wp2
        go_loopw [4, 31] (fun s i wr => ∃ (j g m c : Nat) (l : List UInt8), i = .int .i64 (j : Int) ∧ s = .slice (some ⟨g, 0, none⟩) m c ∧ j ≤ km ∧ m = l.length ∧ Own wr W.heap.size (.slice (some ⟨g, 0, none⟩) m c) l ∧ Below W.heap.size W wr ∧ l ++ entsB (n.s.ks.drop j) (ti.drop j) = n.s.put) (fun _ i _ => km - (intOf i).toNat)
        case atStart => exact ⟨0, g4, n4, d4, _, rfl, rfl, by omega, HA4.out.len, HA4.out.own, HB4.out, by rw [HPUT.out]; rfl⟩
        case round =>
          clear c0 c1 c2 c3
          obtain ⟨j, g5, m5, d5, l5, rfl, rfl, hj, hm5, ho5, hb5, hput⟩ := hrel
          have HM5 := Lib.hid hm5
          have HO5 := Lib.hid ho5
          have HB5 := Lib.hid hb5
          have HPU := Lib.hid hput
          obtain ⟨_, c0, c1, c2, c3⟩ := HC.out _ hb5
          have hm493 : m5 ≤ 493 := by
            have h1 := HPL.out
            rw [← hput, List.length_append] at h1
            omega
          clear hm5 ho5 hb5 hput
          by_cases hlt : j < km
          · obtain ⟨x, hx⟩ : ∃ x, n.ks[j]? = some x := ⟨_, List.getElem?_eq_getElem (by have := HKM.out; omega)⟩
            obtain ⟨y, hy⟩ : ∃ y, n.is[j + 1]? = some y := ⟨_, List.getElem?_eq_getElem (by have := HIM.out; have := HIMK.out; omega)⟩
            have hxm := List.mem_of_getElem? hx
            have hym : PageOk y := HBR.out.2.2 y (List.mem_of_getElem? hy)
            obtain ⟨yn, rfl⟩ := Int.eq_ofNat_of_zero_le (show 0 ≤ y by have := hym.1; omega)
            have HOW := Lib.hid ((HOK.out.below HBW.out).below HB5.out)
            obtain ⟨b, o, hq, hblt, hkc⟩ := HOW.out.kl.at hx
            obtain ⟨bi, oi, hiq, hic⟩ := (HOK.out.below HBW.out).il.at hy
            have HIC : Hid (∀ w', Below W.heap.size W w' → w'.cell? ⟨bi, oi + (j + 1), none⟩ = some (.int .i64 (yn : Int))) := Lib.hid fun w' hb => by
              rw [hb.cell (World.block_lt_of_cell? _ _ hic)]
              exact hic
            have hsx : n.s.ks[j]? = some x.l := by rw [Nd.s_ks, List.getElem?_map, hx]; rfl
            have hx72 := (HRI.out.rise j x.l hsx).1
            have HXO := Lib.hid (HOW.out.ko x hxm)
            have HXB : Hid (∀ w', Below W.heap.size W w' → Bs w' x.q x.l) := Lib.hid fun w' hb => ((HOK.out.below HBW.out).ko x hxm).bs.below hb
            have HE : Hid (entsB (n.s.ks.drop j) (ti.drop j) = txtB x.l ++ two yn ++ entsB (n.s.ks.drop (j + 1)) (ti.drop (j + 1))) := Lib.hid (by
              have h2 : ti[j]? = some (yn : Int) := by rw [HTI.out] at hy; simpa using hy
              exact entsB_drop hsx h2)
            obtain ⟨xl, hxl⟩ : ∃ z, z = x.l.length := ⟨_, rfl⟩
            have HXL := Lib.hid hxl
            rw [← hxl] at hkc hx72
            rw [hq] at c1
            rw [hiq] at c3
            have HPT := Lib.hid (putText_any (k := x.c) (t := x.l) HO5.out HM5.out (by omega) HB5.out.size (fun w' hb => HXB.out w' (HB5.out.trans hb)) HXL.out (by omega) HXO.out.z (by rw [HXL.out]; exact HXO.out.h1) HXO.out.h2)
            have HBN : Hid (∀ {k g' n' c'} {w' : World}, AppTo wr W.heap.size g5 k g' n' c' w' → Below W.heap.size wr w') := Lib.hid fun h => h.below HO5.out HB5.out.size
            have hx1 := HXO.out.h1
            have hx2 := HXO.out.h2
            rw [← hxl] at hx1
            have hj1 : j + 1 < im := by have := HIMK.out; omega
            have HYN : Hid (yn < 65536) := Lib.hid (by have := hym.2; omega)
            rw [hq]
            clear hx hy hxm hym hsx hxl hic
            go_wp2_with fail
            refine HPT.out.mono ?_
            rintro e w5 ⟨g6, n6, d6, rfl, ha⟩
            have HA6 := Lib.hid ha
            have HB6 := Lib.hid (HB5.out.trans (HBN.out ha))
            clear ha c0 c1 c2 c3 hkc hblt HPT HBN
            obtain ⟨_, c0, c1, c2, c3⟩ := HC.out _ HB6.out
            have hic := HIC.out _ HB6.out
            rw [hiq] at c3
            have hbi := World.block_lt_of_cell? _ _ hic
            have HPN := Lib.hid (putNum_any HA6.out.own HA6.out.len (by rw [HA6.out.len, List.length_append, ← HM5.out]; simp only [txtB, List.length_cons, ← HXL.out]; omega) HB6.out.size yn HYN.out)
            have HBN : Hid (∀ {k g' n' c'} {w' : World}, AppTo w5 W.heap.size g6 k g' n' c' w' → Below W.heap.size w5 w') := Lib.hid fun h => h.below HA6.out.own HB6.out.size
            have hj2 : (j : Int) + 1 < im := by omega
            have hj3 : (0 : Int) ≤ (j : Int) + 1 := by omega
            have hj4 : ((j : Int) + 1).toNat = j + 1 := by omega
            go_wp2_with fail
            refine HPN.out.mono ?_
            rintro e w6 ⟨g7, n7, d7, rfl, ha⟩
            have HA7 := Lib.hid ha
            have HB7 := Lib.hid (HB6.out.trans (HBN.out ha))
            clear ha c0 c1 c2 c3 hic hbi HPN HBN
            go_wp2
            go_roundw
            case rel => exact ⟨j + 1, g7, n7, d7, _, by go_num, rfl, by omega, HA7.out.len, HA7.out.own, HB7.out, by rw [← HPU.out, HE.out]; simp⟩
            case measure => simp [intOf]; omega
          · go_wp2
            go_ret2
            right
            have h1 := HPU.out
            rw [(List.drop_eq_nil_of_le (by rw [Nd.s_ks, List.length_map]; have := HKM.out; omega) : n.s.ks.drop j = [])] at h1
            have h2 : l5 = n.s.put := by rw [← h1]; simp [entsB]
            refine ⟨HRI.out, g5, m5, d5, rfl, ?_, ?_, HBS.out _ HB5.out⟩
            · rw [← h2]; exact HM5.out
            · rw [← h2]; exact HO5.out.le HBB.out
      · have HL := Lib.hid hl
        rw [hl] at HC c0
        have HBR := Lib.hid (HRI.out.leaf hl)
        clear hl
        have hvm : vm = km := by have := HBR.out.1; have h2 := HVM.out; have h3 := HKM.out; rw [Nd.s_ks, List.length_map] at this; rw [h2, h3]; exact (by simpa [Nd.s] using this)
        have HVK := Lib.hid hvm
        have hv1 := HOK.out.v1
        have hv2 := HOK.out.v2
        rw [← HVM.out] at hv1
        have HPUT : Hid (n.s.put = [UInt8.ofNat km] ++ entsL n.s.ks n.s.vs) := Lib.hid (by
          unfold NdS.put
          rw [show n.s.leaf = n.leaf from rfl, HL.out, if_pos rfl, Nd.s_ks, List.length_map, ← HKM.out]
          simp)
        clear hvm
        go_wp2
        go_loopw [4, 31] (fun s i wr => ∃ (j g m c : Nat) (l : List UInt8), i = .int .i64 (j : Int) ∧ s = .slice (some ⟨g, 0, none⟩) m c ∧ j ≤ km ∧ m = l.length ∧ Own wr W.heap.size (.slice (some ⟨g, 0, none⟩) m c) l ∧ Below W.heap.size W wr ∧ l ++ entsL (n.s.ks.drop j) (n.s.vs.drop j) = n.s.put) (fun _ i _ => km - (intOf i).toNat)
        case atStart => exact ⟨0, g, k0, c, [UInt8.ofNat km], rfl, rfl, by omega, HK0.out, HO.out, HBC.out, by rw [HPUT.out]; rfl⟩
        case round =>
          clear c0 c1 c2 c3
          obtain ⟨j, g5, m5, d5, l5, rfl, rfl, hj, hm5, ho5, hb5, hput⟩ := hrel
          have HM5 := Lib.hid hm5
          have HO5 := Lib.hid ho5
          have HB5 := Lib.hid hb5
          have HPU := Lib.hid hput
          obtain ⟨_, c0, c1, c2, c3⟩ := HC.out _ hb5
          have hm493 : m5 ≤ 493 := by
            have h1 := HPL.out
            rw [← hput, List.length_append] at h1
            omega
          clear hm5 ho5 hb5 hput
          by_cases hlt : j < km
          · obtain ⟨x, hx⟩ : ∃ x, n.ks[j]? = some x := ⟨_, List.getElem?_eq_getElem (by have := HKM.out; omega)⟩
            obtain ⟨y, hy⟩ : ∃ y, n.vs[j]? = some y := ⟨_, List.getElem?_eq_getElem (by have := HVM.out; have := HVK.out; omega)⟩
            have hxm := List.mem_of_getElem? hx
            have hym := List.mem_of_getElem? hy
            have HYR : Hid y.s.Right := Lib.hid (HBR.out.2.2 y.s (List.mem_map_of_mem hym))
            have HOW := Lib.hid ((HOK.out.below HBW.out).below HB5.out)
            obtain ⟨b, o, hq, hblt, hkc⟩ := HOW.out.kl.at hx
            obtain ⟨bi, oi, hiq, _, hic⟩ := (HOK.out.below HBW.out).vl.at hy
            have HIC : Hid (∀ w', Below W.heap.size W w' → bi < w'.heap.size ∧ w'.cell? ⟨bi, oi + j * 3, none⟩ = some (.slice y.q y.l.length y.c) ∧ w'.cell? ⟨bi, oi + j * 3 + 1, none⟩ = some (.int .i64 y.g) ∧ w'.cell? ⟨bi, oi + j * 3 + 2, none⟩ = some (.int .i64 y.p)) := Lib.hid fun w' hb => by
              obtain ⟨h1, h2, h3⟩ := hic
              have hbl : bi < W.heap.size := World.block_lt_of_cell? _ _ h1
              exact ⟨Nat.lt_of_lt_of_le hbl hb.size, by rw [hb.cell hbl]; exact h1, by rw [hb.cell hbl]; exact h2, by rw [hb.cell hbl]; exact h3⟩
            have hsx : n.s.ks[j]? = some x.l := by rw [Nd.s_ks, List.getElem?_map, hx]; rfl
            have hsy : n.s.vs[j]? = some y.s := by rw [show n.s.vs = n.vs.map Vl.s from rfl, List.getElem?_map, hy]; rfl
            have hx72 := (HRI.out.rise j x.l hsx).1
            have HXO := Lib.hid (HOW.out.ko x hxm)
            have HXB : Hid (∀ w', Below W.heap.size W w' → Bs w' x.q x.l) := Lib.hid fun w' hb => ((HOK.out.below HBW.out).ko x hxm).bs.below hb
            have HYB : Hid (∀ w', Below W.heap.size W w' → y.Ok w') := Lib.hid fun w' hb => ((HOK.out.below HBW.out).vo y hym).below hb
            have HE : Hid (entsL (n.s.ks.drop j) (n.s.vs.drop j) = txtB x.l ++ valB y.s ++ entsL (n.s.ks.drop (j + 1)) (n.s.vs.drop (j + 1))) := Lib.hid (entsL_drop hsx hsy)
            obtain ⟨xl, hxl⟩ : ∃ z, z = x.l.length := ⟨_, rfl⟩
            have HXL := Lib.hid hxl
            rw [← hxl] at hkc hx72
            rw [hq] at c1
            rw [hiq] at c2
            have HPT := Lib.hid (putText_any (k := x.c) (t := x.l) HO5.out HM5.out (by omega) HB5.out.size (fun w' hb => HXB.out w' (HB5.out.trans hb)) HXL.out (by omega) HXO.out.z (by rw [HXL.out]; exact HXO.out.h1) HXO.out.h2)
            have HBN : Hid (∀ {k g' n' c'} {w' : World}, AppTo wr W.heap.size g5 k g' n' c' w' → Below W.heap.size wr w') := Lib.hid fun h => h.below HO5.out HB5.out.size
            have hx1 := HXO.out.h1
            have hx2 := HXO.out.h2
            rw [← hxl] at hx1
            have hj1 : j < vm := by have := HVK.out; omega
            have hj1i : (j : Int) < vm := by omega
            have hyo := HYB.out W (Below.refl _ _)
            have hy1 := hyo.h1
            have hy2 := hyo.h2
            rw [hq]
            clear hx hy hxm hym hsx hsy hxl hic hyo
            go_wp2_with fail
            refine HPT.out.mono ?_
            rintro e w5 ⟨g6, n6, d6, rfl, ha⟩
            have HA6 := Lib.hid ha
            have HB6 := Lib.hid (HB5.out.trans (HBN.out ha))
            clear ha c0 c1 c2 c3 hkc hblt HPT HBN
            obtain ⟨_, c0, c1, c2, c3⟩ := HC.out _ HB6.out
            obtain ⟨hbi, e0, e1, e2⟩ := HIC.out _ HB6.out
            rw [hiq] at c2
            have HPN := Lib.hid (putVal_any (x := y) HA6.out.own HA6.out.len (by rw [HA6.out.len, List.length_append, ← HM5.out]; simp only [txtB, List.length_cons, ← HXL.out]; omega) HB6.out.size (fun w' hb => (HYB.out w' (HB6.out.trans hb)).bs) (HYB.out _ HB6.out) HYR.out)
            unfold Vl.cell at HPN
            have HBN : Hid (∀ {k g' n' c'} {w' : World}, AppTo w5 W.heap.size g6 k g' n' c' w' → Below W.heap.size w5 w') := Lib.hid fun h => h.below HA6.out.own HB6.out.size
            go_wp2_with fail
            with_reducible refine HPN.out.mono ?_
            rintro e w6 ⟨g7, n7, d7, rfl, ha⟩
            have HA7 := Lib.hid ha
            have HB7 := Lib.hid (HB6.out.trans (HBN.out ha))
            clear ha c0 c1 c2 c3 e0 e1 e2 hbi HPN HBN
            go_wp2
            rw [← hiq, ← hq]
            go_roundw
            case rel => exact ⟨j + 1, g7, n7, d7, _, by go_num, rfl, by omega, HA7.out.len, HA7.out.own, HB7.out, by rw [← HPU.out, HE.out]; simp⟩
            case measure => simp [intOf]; omega
          · go_wp2
            go_ret2
            right
            have h1 := HPU.out
            rw [(List.drop_eq_nil_of_le (by rw [Nd.s_ks, List.length_map]; have := HKM.out; omega) : n.s.ks.drop j = [])] at h1
            have h2 : l5 = n.s.put := by rw [← h1]; simp [entsL]
            refine ⟨HRI.out, g5, m5, d5, rfl, ?_, ?_, HBS.out _ HB5.out⟩
            · rw [← h2]; exact HM5.out
            · rw [← h2]; exact HO5.out.le HBB.out

end Go.Proofs.YtngnmakeaniapaaGreatDoor

