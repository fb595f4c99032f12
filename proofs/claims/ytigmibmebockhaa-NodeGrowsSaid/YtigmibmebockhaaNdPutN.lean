/-
  node.putNumber, putText, putVal: contracts.
-/
import Derived.Test.YtigmibmebockhaaNdRight
import Derived.Test.YtigmibmebockhaaBytesF
import Derived.Deep.RegionHeld3
set_option linter.unusedVariables false
set_option maxRecDepth 100000
namespace Go.Proofs.Ytigmibmebockhaa
open Go.RowKit

/-- A slice of the call's own, of these bytes: of the elder blocks g alone has changed. -/
structure AppTo (w : World) (B g : Nat) (l : List UInt8) (g' n c : Nat) (w' : World) : Prop where
  len : n = l.length
  own : Own w' B (.slice (some ⟨g', 0, none⟩) n c) l
  gb : w.grownBy w' (some g)
  new : g' = g ∨ w.heap.size ≤ g'
def AppAt (w : World) (B g : Nat) (l : List UInt8) (e : Ending) (w' : World) : Prop := ∃ g' n c, e = .returned (.slice (some ⟨g', 0, none⟩) n c) ∧ AppTo w B g l g' n c w'
theorem AppTo.of_run {w w' : World} {B g : Nat} {v' : Value} {l : List UInt8} (hl : 0 < l.length) (h1 : Own w' B v' l) (h2 : w.grownBy w' (some g)) (h3 : v'.ownBlock = some g ∨ Own w' w.heap.size v' l) : ∃ g' n c, v' = .slice (some ⟨g', 0, none⟩) n c ∧ AppTo w B g l g' n c w' := by
  obtain ⟨g', c, rfl, _⟩ := h1.some rfl hl
  refine ⟨g', _, c, rfl, rfl, h1, h2, ?_⟩
  rcases h3 with h | h
  · exact .inl (Option.some.inj h)
  · exact .inr (World.ownsRow.lt h g' rfl).1
theorem AppTo.trans {w w1 w2 : World} {B g g1 g2 n1 n2 c1 c2 : Nat} {l m : List UInt8} (h : AppTo w B g l g1 n1 c1 w1) (h' : AppTo w1 B g1 m g2 n2 c2 w2) : AppTo w B g m g2 n2 c2 w2 :=
  ⟨h'.len, h'.own, ⟨h'.gb.os.trans h.gb.os, h'.gb.tape.trans h.gb.tape, h'.gb.output.trans h.gb.output, Nat.le_trans h.gb.size h'.gb.size, fun k hk hne => (h'.gb.block k (Nat.lt_of_lt_of_le hk h.gb.size) (fun e => by
    cases e
    rcases h.new with h1 | h1
    · exact hne (by rw [h1])
    · omega)).trans (h.gb.block k hk hne)⟩, by
    rcases h'.new with h1 | h1
    · rw [h1]; exact h.new
    · exact .inr (Nat.le_trans h.gb.size h1)⟩
theorem AppTo.pre {w w1 w2 : World} {B g g2 n2 c2 : Nat} {m : List UInt8} (h : Below w.heap.size w w1) (h' : AppTo w1 B g m g2 n2 c2 w2) : AppTo w B g m g2 n2 c2 w2 :=
  ⟨h'.len, h'.own, gb_trans (gb_below h) h'.gb, by
    rcases h'.new with h1 | h1
    · exact .inl h1
    · exact .inr (Nat.le_trans h.size h1)⟩
theorem AppTo.below {w w' : World} {B g g' n' c n c0 : Nat} {l k : List UInt8} (h : AppTo w B g l g' n' c w') (ho : Own w B (.slice (some ⟨g, 0, none⟩) n c0) k) (hB : B ≤ w.heap.size) : Below B w w' :=
  (Below.refl B w).grown h.gb hB fun i hi => by have := (World.ownsRow.lt ho g rfl).1; cases hi; exact this
theorem AppTo.cell {w w' : World} {B g g' n c b : Nat} {l : List UInt8} (h : AppTo w B g l g' n c w') (hb : b < w.heap.size) (hne : b ≠ g) (i : Nat) : w'.cell? ⟨b, i, none⟩ = w.cell? ⟨b, i, none⟩ :=
  World.cell?_of_block (h.gb.block b hb fun e => hne (Option.some.inj e))

/-- append(own, bytes...) onto a slice whose block is known. -/
theorem app_at {w : World} {ops : Array Oper} {rest : List Oper} {o : Oper} {a : Act} {Q : Exit → Act → World → Prop} (hgd : o.guard = none) (s x : Operand)
    (ho : o.op = .call { callee := .builtin .append, args := #[s, x], argTypes := #[22, 22] })
    {B g n cap : Nat} {l m : List UInt8} (hs : a.eval s = .slice (some ⟨g, 0, none⟩) n cap) (hown : Own w B (.slice (some ⟨g, 0, none⟩) n cap) l) (hn : n = l.length) {p : Option Addr} {k c : Nat} (hk : k = m.length) (hx : a.eval x = .slice p k c) (hsrc : Bs w p m) (hp : p = none → c = 0)
    (hl : 0 < (l ++ m).length) (hlen : l.length + m.length ≤ 140737488355328) (hB : B ≤ w.heap.size)
    (h : ∀ g' n' c' w', AppTo w B g (l ++ m) g' n' c' w' → wpList Try.prog ops Q rest (a.put o.dst (.slice (some ⟨g', 0, none⟩) n' c')) w') : wpList Try.prog ops Q (o :: rest) a w := by
  obtain ⟨v', w', hr, h1, h2, h3⟩ := run_at o.type hown hn hk hsrc hp hlen hB
  obtain ⟨g', n', c', rfl, ht⟩ := AppTo.of_run hl h1 h2 h3
  exact Lib.wpList_append_run w hgd s x _ _ ho _ _ hs hx _ w' hr (h g' n' c' w' ht)
theorem step_appAt {w : World} {ops : Array Oper} {o : Oper} {a : Act} {K : Act → World → Prop} {Q : Exit → Act → World → Prop} {E : Prop} (hgd : o.guard = none) (s x : Operand)
    (ho : o.op = .call { callee := .builtin .append, args := #[s, x], argTypes := #[22, 22] })
    {B g n cap : Nat} {l m : List UInt8} (hs : a.eval s = .slice (some ⟨g, 0, none⟩) n cap) (hown : Own w B (.slice (some ⟨g, 0, none⟩) n cap) l) (hn : n = l.length) {p : Option Addr} {k c : Nat} (hk : k = m.length) (hx : a.eval x = .slice p k c) (hsrc : Bs w p m) (hp : p = none → c = 0)
    (hl : 0 < (l ++ m).length) (hlen : l.length + m.length ≤ 140737488355328) (hB : B ≤ w.heap.size)
    (h : ∀ g' n' c' w', AppTo w B g (l ++ m) g' n' c' w' → K (a.put o.dst (.slice (some ⟨g', 0, none⟩) n' c')) w') : if Region.wanted o (yielded ops a.tmps) = true then Oper.wp Try.prog o a w K Q else E := by
  have hw : Region.wanted o (yielded ops a.tmps) = true := by simp [Region.wanted, hgd]
  rw [if_pos hw]
  obtain ⟨v', w', hr, h1, h2, h3⟩ := run_at o.type hown hn hk hsrc hp hlen hB
  obtain ⟨g', n', c', rfl, ht⟩ := AppTo.of_run hl h1 h2 h3
  exact Lib.wp_append_run w s x 22 22 ho _ _ hs hx _ w' hr (h g' n' c' w' ht)

theorem two_cells {n : Nat} (hn : n < 65536) : #[Value.int .u8 ((n : Int) % 256), .int .u8 ((n : Int) / 256)] = (u8s (two n)).toArray := by
  have e1 : ((UInt8.ofNat n).toNat : Int) = (n : Int) % 256 := by rw [UInt8.toNat_ofNat']; omega
  have e2 : ((UInt8.ofNat (n / 256)).toNat : Int) = (n : Int) / 256 := by rw [UInt8.toNat_ofNat']; omega
  simp only [u8s, two, List.map_cons, List.map_nil, e1, e2]
theorem one_cell {n : Nat} (hn : n < 256) : #[Value.int .u8 (n : Int)] = (u8s [UInt8.ofNat n]).toArray := by
  have e1 : ((UInt8.ofNat n).toNat : Int) = (n : Int) := by rw [UInt8.toNat_ofNat']; omega
  simp only [u8s, List.map_cons, List.map_nil, e1]

set_option maxHeartbeats 800000 in
theorem putNum_any {w : World} {B g m c : Nat} {l : List UInt8} (hown : Own w B (.slice (some ⟨g, 0, none⟩) m c) l) (hm : m = l.length) (hl : m ≤ 1000000) (hB : B ≤ w.heap.size) (n : Nat) (hn : n < 65536) :
    Calls Try.prog 41 #[.slice (some ⟨g, 0, none⟩) m c, .int .i64 (n : Int)] w (AppAt w B g (l ++ two n)) := by
  have HO := Lib.hid hown
  have HM := Lib.hid hm
  have HT := Lib.hid (two_cells hn)
  obtain ⟨_, _, hv, h1, h2, _, _⟩ := hown.form hm
  cases hv
  clear hown hm
  go_enter Try.func41, Try.ntmps41
  go_wp2_with (at_builtin; refine app_at rfl (.tmp 5) (.tmp 11) rfl rfl (HO.out.alloc _) HM.out (m := two n) rfl rfl (Bs.new _ _ _ _ rfl HT.out) (fun h => by cases h) (by simp [two]) (by rw [← HM.out]; simp [two]; omega) (by simp; omega) ?_; intro g2 n2 c2 w2 ha; have HA := Lib.hid (AppTo.pre ((Below.refl w.heap.size w).alloc (Nat.le_refl _) _) ha); clear ha)
  go_ret
  exact ⟨_, _, _, rfl, HA.out⟩

set_option maxHeartbeats 800000 in
theorem putText_any {w : World} {B g m c : Nat} {l : List UInt8} (hown : Own w B (.slice (some ⟨g, 0, none⟩) m c) l) (hm : m = l.length) (hl : m ≤ 1000000) (hB : B ≤ w.heap.size) {q : Option Addr} {tn k : Nat} {t : List UInt8} (ht : ∀ w', Below B w w' → Bs w' q t) (htn : tn = t.length) (htl : tn ≤ 255) (hz : q = none → k = 0) (hk : tn ≤ k) (hk2 : k ≤ 9223372036854775807) :
    Calls Try.prog 42 #[.slice (some ⟨g, 0, none⟩) m c, .slice q tn k] w (AppAt w B g (l ++ txtB t)) := by
  have HO := Lib.hid hown
  have HM := Lib.hid hm
  have HTN := Lib.hid htn
  have HT := Lib.hid (one_cell (n := tn) (by omega))
  have HBT := Lib.hid ht
  have HZ := Lib.hid hz
  have HX : Hid (l ++ [UInt8.ofNat tn] ++ t = l ++ txtB t) := Lib.hid (by rw [HTN.out]; simp [txtB])
  have HBW : Hid (∀ {g' n' c' w'}, AppTo w B g (l ++ [UInt8.ofNat tn]) g' n' c' w' → Below B w w') := Lib.hid fun h => h.below hown hB
  obtain ⟨_, _, hv, h1, h2, _, _⟩ := hown.form hm
  cases hv
  clear hown hm htn ht hz
  go_enter Try.func42, Try.ntmps42
  go_wp2_with (first
    | (at_builtin; refine app_at rfl (.tmp 10) (.tmp 11) rfl rfl HA.out.own HA.out.len (m := t) HTN.out rfl (HBT.out _ (HBW.out HA.out)) HZ.out (by simp; omega) (by rw [← HTN.out]; simp; have := HM.out; omega) (Nat.le_trans hB (HBW.out HA.out).size) ?_; intro g3 n3 c3 w3 ha; have HA3 := Lib.hid (HA.out.trans ha); clear ha)
    | (at_builtin; refine app_at rfl (.tmp 5) (.tmp 9) rfl rfl (HO.out.alloc _) HM.out (m := [UInt8.ofNat tn]) rfl rfl (Bs.new _ _ _ _ rfl HT.out) (fun h => by cases h) (by simp) (by rw [← HM.out]; simp; omega) (by simp; omega) ?_; intro g2 n2 c2 w2 ha; have HA := Lib.hid (AppTo.pre ((Below.refl w.heap.size w).alloc (Nat.le_refl _) _) ha); clear ha))
  go_ret
  exact ⟨_, _, _, rfl, by rw [← HX.out]; exact HA3.out⟩

set_option maxHeartbeats 1600000 in
theorem putVal_any {w : World} {B g m c : Nat} {l : List UInt8} (hown : Own w B (.slice (some ⟨g, 0, none⟩) m c) l) (hm : m = l.length) (hl : m ≤ 900000) (hB : B ≤ w.heap.size) {x : Vl} (hx : ∀ w', Below B w w' → Bs w' x.q x.l) (hok : x.Ok w) (hr : x.s.Right) :
    Calls Try.prog 43 #[.slice (some ⟨g, 0, none⟩) m c, x.cell] w (AppAt w B g (l ++ valB x.s)) := by
  obtain ⟨q, k, t, n, p⟩ := x
  have h1 := hok.h1
  have h2 := hok.h2
  have hz := hok.z
  unfold Vl.cell Vl.s valB
  unfold Vl.s VlS.Right at hr
  dsimp only at hx hr h1 h2 hz ⊢
  obtain ⟨tn, htn⟩ : ∃ y, y = t.length := ⟨_, rfl⟩
  have HTN := Lib.hid htn
  rw [← htn] at hr h1 ⊢
  obtain ⟨W, hW⟩ : ∃ W, W = w.alloc (.cells #[.slice q tn k, .int .i64 n, .int .i64 p] 42) := ⟨_, rfl⟩
  have HWS : Hid (W.heap.size = w.heap.size + 1) := Lib.hid (by rw [hW]; simp)
  have HWB : Hid (Below w.heap.size w W) := Lib.hid (by rw [hW]; exact (Below.refl _ _).alloc (Nat.le_refl _) _)
  have HO : Hid (Own W B (.slice (some ⟨g, 0, none⟩) m c) l) := Lib.hid (by rw [hW]; exact hown.alloc _)
  have HBS : Hid (B ≤ W.heap.size) := Lib.hid (by have := HWS.out; omega)
  have hblk : W.heap[w.heap.size]? = some (.cells #[.slice q tn k, .int .i64 n, .int .i64 p] 42 (0, 0)) := by rw [hW]; exact heap_alloc_new w _
  have HM := Lib.hid hm
  have HG : Hid (g < w.heap.size) := Lib.hid (World.ownsRow.lt hown g rfl).2
  rcases hr with ⟨rfl, rfl, h64⟩ | ⟨⟨hp1, hp2⟩, hg1, hg2, ht0⟩
  · rw [if_pos rfl]
    have HC := Lib.hid (putText_any (k := k) (t := t) HO.out hm (by omega) HBS.out (fun w' hb => hx w' ((HWB.out.mono hB).trans hb)) htn (by omega) hz h1 h2)
    have c0 : W.cell? ⟨w.heap.size, 0, none⟩ = some (.slice q tn k) := Joins.cell_of_block hblk 0
    have c2 : W.cell? ⟨w.heap.size, 2, none⟩ = some (.int .i64 0) := Joins.cell_of_block hblk 2
    clear hown hx hok hblk hm htn
    go_enter Try.func43, Try.ntmps43
    go_wp2_with fail
    rw [← hW]
    replace hW := Lib.hid hW
    go_wp2_with fail
    refine HC.out.mono ?_
    rintro e w2 ⟨g2, n2, c2, rfl, ha⟩
    have HA := Lib.hid (AppTo.pre HWB.out ha)
    clear ha
    go_wp2
    go_ret
    exact ⟨_, _, _, rfl, HA.out⟩
  · rw [if_neg (by omega)]
    obtain ⟨gn, rfl⟩ := Int.eq_ofNat_of_zero_le (show 0 ≤ n by omega)
    obtain ⟨pn, rfl⟩ := Int.eq_ofNat_of_zero_le (show 0 ≤ p by omega)
    rw [Int.toNat_natCast, Int.toNat_natCast]
    have hpb : ((pn : Int) == 0) = false := by rw [beq_eq_false_iff_ne]; omega
    have hpb2 : (pn == 0) = false := by rw [beq_eq_false_iff_ne]; omega
    have HC : Hid (∀ w' : World, w'.heap[w.heap.size]? = W.heap[w.heap.size]? → w'.cell? ⟨w.heap.size, 1, none⟩ = some (.int .i64 gn) ∧ w'.cell? ⟨w.heap.size, 2, none⟩ = some (.int .i64 pn)) := Lib.hid fun w' hb => by
      have h1 := hb.trans hblk
      exact ⟨Joins.cell_of_block h1 1, Joins.cell_of_block h1 2⟩
    have HGN : Hid (gn < 65536) := Lib.hid (by omega)
    have HPN : Hid (pn < 65536) := Lib.hid (by omega)
    have HX : Hid (l ++ [255] ++ two gn ++ two pn = l ++ 255 :: (two gn ++ two pn)) := Lib.hid (by simp)
    have HLW : Hid (w.heap.size < W.heap.size) := Lib.hid (by have := HWS.out; omega)
    have HK : Hid (∀ {k g' n' c'} {w' : World}, AppTo W B g k g' n' c' w' → w'.heap[w.heap.size]? = W.heap[w.heap.size]?) := Lib.hid fun h => h.gb.block _ HLW.out (fun e => by have := Option.some.inj e; have := HG.out; omega)
    have HBA : Hid (∀ {k g' n' c'} {w' : World}, AppTo W B g k g' n' c' w' → B ≤ w'.heap.size) := Lib.hid fun h => Nat.le_trans HBS.out h.gb.size
    clear hblk ht0 hx hok hown hg1 hg2 hp1 hp2 hm htn
    obtain ⟨c1, c2⟩ := HC.out W rfl
    go_enter Try.func43, Try.ntmps43
    go_wp2_with fail
    rw [← hW]
    replace hW := Lib.hid hW
    go_wp2_with fail
    have HAL : Hid (∀ o : Obj, Below W.heap.size W (W.drew.alloc o)) := Lib.hid fun o => (Below.refl _ _).drew.alloc (Nat.le_refl _) _
    go_region_held3 (fun w' => w'.cell? ⟨w.heap.size, 1, none⟩ = some (.int .i64 gn) ∧ w'.cell? ⟨w.heap.size, 2, none⟩ = some (.int .i64 pn))
      (first | exact HC.out _ rfl | exact HC.out _ ((HAL.out _).block _ HLW.out) | exact HC.out _ (HK.out HA4.out) | exact HC.out _ (HK.out HA3.out) | exact HC.out _ (HK.out HA2.out))
      (first
        | (go_at_call 41; (with_reducible refine (putNum_any HA3.out.own HA3.out.len (by rw [HA3.out.len]; simp [two]; have := HM.out; omega) (HBA.out HA3.out) pn HPN.out).mono ?_); rintro e w4 ⟨g4, n4, d4, rfl, ha⟩; have HA4 := Lib.hid (HA3.out.trans ha); clear ha)
        | (go_at_call 41; (with_reducible refine (putNum_any HA2.out.own HA2.out.len (by rw [HA2.out.len]; simp; have := HM.out; omega) (HBA.out HA2.out) gn HGN.out).mono ?_); rintro e w3 ⟨g3, n3, d3, rfl, ha⟩; have HA3 := Lib.hid (HA2.out.trans ha); clear ha)
        | (refine step_appAt rfl (.tmp 12) (.tmp 13) rfl rfl (HO.out.drew.alloc _) HM.out (m := [255]) rfl rfl (Bs.new _ _ _ _ rfl rfl) (fun h => by cases h) (by simp) (by have := HM.out; simp; omega) (by have := HBS.out; simp; omega) ?_; intro g2 n2 d2 w2 ha; have HA2 := Lib.hid (AppTo.pre (HAL.out _) ha); clear ha))
    all_goals
      go_wp2
      go_ret
      exact ⟨_, _, _, rfl, by rw [← HX.out]; exact AppTo.pre HWB.out HA4.out⟩

end Go.Proofs.Ytigmibmebockhaa
