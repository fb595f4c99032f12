/-
  slices.BinarySearchFunc over k.
  tree.
  A range over a function.
  slices.Sorted(maps.Keys(m)) of.
  tree.Put of the empty tree.
  tree.Put of the empty tree.
-/
import Derived.Test.YtbbgdbnjmonbgaaGreatDoorH00
import Derived.Test.YtbbgdbnjmonbgaaGreatDoorH20
import Derived.Test.YtbbgdbnjmonbgaaGreatDoorH13
import Derived.Test.YtbbgdbnjmonbgaaGreatDoorH14
import Derived.Test.YtbbgdbnjmonbgaaGreatDoorH01
import Derived.Test.YtbbgdbnjmonbgaaGreatDoorH22
import Derived.Test.YtbbgdbnjmonbgaaGreatDoorH15
import Derived.Test.YtbbgdbnjmonbgaaGreatDoorH19
import Derived.LoopTactic
import Derived.Deep.RegionHeld3
import Derived.RangeFuncFrom
set_option linter.unusedVariables false
set_option linter.unusedSimpArgs false
set_option maxRecDepth 100000
namespace Go.Proofs.YtbbgdbnjmonbgaaGreatDoor
open Go.RowKit
def BsPost (w : World) (l : List Key) (n : Key) (e : Ending) (w' : World) : Prop := ∃ (k : Nat) (b : Bool), e = .returned (.tuple #[.int .i64 (k : Int), .bool b]) ∧ At1 l n k b ∧ Below w.heap.size w w'
set_option maxHeartbeats 3200000 in
theorem bsKeys_any {w : World} {q : Option Addr} {m c : Nat} {l : List Kb} (hl : Kbs w q l) (ho : ∀ x ∈ l, x.Ok w) (hn : m = l.length) (hmc : m ≤ c) (h16 : m ≤ 1000000) (hup : Up (l.map Kb.l)) {n : Kb} (hk : n.Ok w) :
  Calls Tryz.prog 103 #[.slice q m c, .slice n.q n.l.length n.c, .func (.func 104) #[] #[]] w (BsPost w (l.map Kb.l) n.l) := by
 have eg : ∀ args (w : World), (callFunc 104 args).run Tryz.prog w = .ok (.enter 104 args) w := fun _ _ => rfl
 have HN := Hq hn
 have HL := Hq hl
 have HO := Hq ho
 have HI := Hq hup
 have HCM : Hid (∀ (x : Kb), x ∈ l → ∀ w1, Below w.heap.size w w1 → Calls Tryz.prog 104 #[.slice x.q x.l.length x.c, .slice n.q n.l.length n.c] w1 fun e w' => e = .returned (.int .i64 (Lib.compareBytes x.l n.l)) ∧ w1 = w') := Hq fun x hx w1 hb => bytesCompare_any ((ho x hx).bs.below hb) (hk.bs.below hb) _ _ _ _ rfl rfl (ho x hx).z hk.z
 clear hn hl hup ho hk
 generalize n.l.length = nl at *
 go_enter Tryz.func103, Tryz.ntmps103
 go_wp2
 go_loopw [9, 10] (fun x y wr => ∃ a b : Nat, x = .int .i64 a ∧ y = .int .i64 b ∧ a ≤ b ∧ b ≤ m ∧ (∀ p ∈ (l.map Kb.l).take a, KLt p n.l) ∧ (∀ p ∈ (l.map Kb.l).drop b, KLe n.l p) ∧ Below w.heap.size w wr) (fun x y _ => (intOf y).toNat - (intOf x).toNat)
 case atStart => exact ⟨0, m, rfl, rfl, by omega, by omega, by simp, by rw [List.drop_eq_nil_of_le (by rw [List.length_map, HN.out]; omega)]; simp, Below.refl _ _⟩
 case round =>
  obtain ⟨a, b, rfl, rfl, hab, hbm, hlo, hhi, hb⟩ := hrel
  have HLO := Hq hlo
  have HHI := Hq hhi
  have HB := Hq hb
  clear hlo hhi hb
  by_cases hlt : a < b
  ·
   obtain ⟨h, hh⟩ : ∃ h : Nat, ((a : Int) + (b : Int)) / 2 = (h : Int) := ⟨(a + b) / 2, by omega⟩
   have hah : a ≤ h ∧ h < b := by omega
   obtain ⟨hah, hhb⟩ := hah
   obtain ⟨x, hx⟩ : ∃ x, l[h]? = some x := ⟨_, List.getElem?_eq_getElem (by have := HN.out; omega)⟩
   have hxm : (l.map Kb.l)[h]? = some x.l := by rw [List.getElem?_map, hx]; rfl
   obtain ⟨b0, o0, rfl, hblt, hc⟩ := HL.out.at hx
   have c0 : wr.cell? ⟨b0, o0 + h, none⟩ = some (.slice x.q x.l.length x.c) := by rw [HB.out.cell (p := ⟨b0, o0 + h, none⟩) hblt]; exact hc
   have HC := Hq (HCM.out x (List.mem_of_getElem? hx) _ HB.out)
   have HLO2 : Hid (Lib.compareBytes x.l n.l < 0 → ∀ p ∈ (l.map Kb.l).take (h + 1), KLt p n.l) := Hq (up_lo HI.out hxm)
   have HHI2 : Hid (0 ≤ Lib.compareBytes x.l n.l → ∀ p ∈ (l.map Kb.l).drop h, KLe n.l p) := Hq fun h0 => up_hi HI.out hxm (KLe.not_lt.2 (by show ¬ _ < _; omega))
   have hhm : h < m := by omega
   have hhmi : (h : Int) < (m : Int) := by omega
   clear hx hxm hc hblt
   generalize Lib.compareBytes x.l n.l = r at *
   generalize x.l.length = xl at *
   by_cases hr : r < 0
   ·
    go_wp2_with fail
    refine HC.out.mono ?_
    rintro e w1 ⟨rfl, rfl⟩
    have HL2 := Hq (HLO2.out hr)
    go_wp2
    go_roundw
    case rel => exact ⟨h + 1, b, by go_num, rfl, by omega, hbm, HL2.out, HHI.out, HB.out⟩
    case measure => simp [intOf]; omega
   ·
    go_wp2_with fail
    refine HC.out.mono ?_
    rintro e w1 ⟨rfl, rfl⟩
    have HH2 := Hq (HHI2.out (by omega))
    go_wp2
    go_roundw
    case rel => exact ⟨a, h, rfl, rfl, hah, by omega, HLO.out, HH2.out, HB.out⟩
    case measure => simp [intOf]; omega
  ·
   have hab' : a = b := by omega
   subst hab'
   by_cases ham : a < m
   ·
    obtain ⟨x, hx⟩ : ∃ x, l[a]? = some x := ⟨_, List.getElem?_eq_getElem (by have := HN.out; omega)⟩
    have hxm : (l.map Kb.l)[a]? = some x.l := by rw [List.getElem?_map, hx]; rfl
    obtain ⟨b0, o0, rfl, hblt, hc⟩ := HL.out.at hx
    have c0 : wr.cell? ⟨b0, o0 + a, none⟩ = some (.slice x.q x.l.length x.c) := by rw [HB.out.cell (p := ⟨b0, o0 + a, none⟩) hblt]; exact hc
    have HC := Hq (HCM.out x (List.mem_of_getElem? hx) _ HB.out)
    have HEQ : Hid ((Lib.compareBytes x.l n.l == 0) = true ↔ (l.map Kb.l)[a]? = some n.l) := Hq (by
     rw [beq_iff_eq, hxm]
     exact ⟨fun h => by rw [kc_zero h], fun h => by rw [Option.some.inj h]; exact kc_self _⟩)
    clear hx hxm hc hblt
    generalize Lib.compareBytes x.l n.l = r at *
    generalize x.l.length = xl at *
    obtain ⟨z, hz⟩ : ∃ z, (r == 0) = z := ⟨_, rfl⟩
    rw [hz] at HEQ
    have ham1 : decide ((a : Int) < (m : Int)) = true := decide_eq_true (by omega)
    have hami : (a : Int) < (m : Int) := by omega
    go_wp2_with fail
    refine HC.out.mono ?_
    rintro e w1 ⟨rfl, rfl⟩
    go_wp2
    go_ret2
    exact ⟨a, z, rfl, ⟨by rw [List.length_map, ← HN.out]; omega, HLO.out, HHI.out, HEQ.out⟩, HB.out⟩
   ·
    have ham0 : a = m := by omega
    have ham1 : decide ((a : Int) < (m : Int)) = false := decide_eq_false (by omega)
    go_wp2
    go_ret2
    refine ⟨a, false, rfl, ⟨by rw [List.length_map, ← HN.out]; omega, HLO.out, HHI.out, ?_⟩, HB.out⟩
    constructor
    ·
     intro h; cases h
    ·
     intro hp
     rw [List.getElem?_eq_none (by rw [List.length_map, ← HN.out]; omega)] at hp
     cases hp
set_option maxHeartbeats 400000 in
theorem top_any {w : World} (k : Int) : Calls Tryz.prog 84 #[.int .i64 k] w fun e w' => e = .returned (.agg #[.int .i64 k, .int .i64 1, .slice none 0 0, .slice none 0 0, .bool false]) ∧ Below w.heap.size w w' := by
 go_enter Tryz.func84, Tryz.ntmps84
 go_wp2
 have hb := heap_alloc_new w (.cells #[.int .i64 k, .int .i64 1, .slice none 0 0, .slice none 0 0, .bool false] 129)
 obtain ⟨W, hW⟩ : ∃ W, W = w.alloc (.cells #[.int .i64 k, .int .i64 1, .slice none 0 0, .slice none 0 0, .bool false] 129) := ⟨_, rfl⟩
 rw [← hW] at hb ⊢
 have HB : Below w.heap.size w W := by rw [hW]; exact sbox1 _ _
 have g0 := (jC hb 0).trans rfl
 have g1 := (jC hb 1).trans rfl
 have g2 := (jC hb 2).trans rfl
 have g3 := (jC hb 3).trans rfl
 have g4 := (jC hb 4).trans rfl
 refine bodyPost_ret (v := .agg #[.int .i64 k, .int .i64 1, .slice none 0 0, .slice none 0 0, .bool false]) (by simp [results, Tryz.results84, go_sem, g0, g1, g2, g3, g4]) rfl ⟨rfl, HB⟩
end Go.Proofs.YtbbgdbnjmonbgaaGreatDoor

set_option linter.unusedVariables false
set_option linter.unusedSimpArgs false
set_option maxRecDepth 100000
namespace Go.Proofs.YtbbgdbnjmonbgaaGreatDoor
open Go.RowKit Go.Shelf
section
variable {w : World} {B P pd sm : Nat} {X : PG} {seen : Int → Bool}
structure NCap (w : World) (P sm br bl bn : Nat) (root : Int) (nv : Value) : Prop where
 r : ∃ t, w.heap[br]? = some (.cells #[.int .i64 root] t (0, 0))
 l : ∃ t, w.heap[bl]? = some (.cells #[.pointer (some ⟨P, 0, none⟩), .map (some sm)] t (0, 0))
 n : ∃ t, w.heap[bn]? = some (.cells #[nv] t (0, 0))
theorem NCap.low {w w' : World} {P sm br bl bn : Nat} {root : Int} {nv : Value} (h : NCap w P sm br bl bn root nv) (hb : Below w.heap.size w w') : NCap w' P sm br bl bn root nv := by
 obtain ⟨⟨t1, h1⟩, ⟨t2, h2⟩, ⟨t3, h3⟩⟩ := h
 exact ⟨⟨t1, by rw [hb.block _ (aL h1)]; exact h1⟩, ⟨t2, by rw [hb.block _ (aL h2)]; exact h2⟩, ⟨t3, by rw [hb.block _ (aL h3)]; exact h3⟩⟩
theorem NCap.cells {w : World} {P sm br bl bn : Nat} {root : Int} {nv : Value} (h : NCap w P sm br bl bn root nv) :
  w.cell? ⟨br, 0, none⟩ = some (.int .i64 root) ∧ w.cell? ⟨bl, 0, none⟩ = some (.pointer (some ⟨P, 0, none⟩)) ∧ w.cell? ⟨bl, 1, none⟩ = some (.map (some sm)) ∧ w.cell? ⟨bn, 0, none⟩ = some nv := by
 obtain ⟨⟨t1, h1⟩, ⟨t2, h2⟩, ⟨t3, h3⟩⟩ := h
 exact ⟨(jC h1 0).trans rfl, (jC h2 0).trans rfl, (jC h2 1).trans rfl, (jC h3 0).trans rfl⟩
set_option maxHeartbeats 1600000 in
theorem nodes1Z_any {br bl bn : Nat} {nv : Value} (hc : NCap w P sm br bl bn 0 nv) (l : Nat) :
  Calls Tryz.prog 81 #[.func (.yield l) #[] #[], .pointer (some ⟨br, 0, none⟩), .pointer (some ⟨bl, 0, none⟩), .pointer (some ⟨bn, 0, none⟩)] w fun e w' => (∃ v, e = .returned v) ∧ Below w.heap.size w w' := by
 have hb := sbox2 w (.cells #[.func (.yield l) #[] #[]] 152) (.cells #[.int .i64 0] 3)
 obtain ⟨y1, y2, y3, y4⟩ := (hc.low hb).cells
 have HB := Hq hb
 clear hc hb
 go_enter Tryz.func81, Tryz.ntmps81
 go_wp2
 go_end0
 exact ⟨⟨_, rfl⟩, HB.out⟩
set_option maxHeartbeats 3200000 in
theorem nodes1W_any (h : LookAt w B P pd sm X seen) (hBw : B ≤ w.heap.size) {root : Int} (h0 : root ≠ 0) (hno : ∀ s, ¬ NodeAt X seen root 1 Sp.zero.s s) {br bl bn l : Nat} {nv : Value} (hc : NCap w P sm br bl bn root nv) {K : World → Prop} (hKc : ∀ w', K w' → NCap w' P sm br bl bn root nv)
  (hR : ∀ W seen', LookAt W B P pd sm X seen' → LStep sm w W → YieldAt Fence.wide 2 Tryz.prog l #[Nd.zero.cell, .int .i64 18] W fun e W' => e = .returned (.bool false) ∧ K W') :
  Calls Tryz.prog 81 #[.func (.yield l) #[] #[], .pointer (some ⟨br, 0, none⟩), .pointer (some ⟨bl, 0, none⟩), .pointer (some ⟨bn, 0, none⟩)] w fun e w' => (∃ v, e = .returned v) ∧ K w' := by
 obtain ⟨W, hW⟩ : ∃ W, W = (w.alloc (.cells #[.func (.yield l) #[] #[]] 152)).alloc (.cells #[.int .i64 0] 3) := ⟨_, rfl⟩
 have hbw : Below w.heap.size w W := by rw [hW]; exact sbox2 _ _ _
 obtain ⟨b0, b1, _, hws⟩ := boxes w #[.func (.yield l) #[] #[]] #[.int .i64 0] 152 3
 rw [← hW] at b0 b1 hws
 have HKN : Hid (∀ w', Below W.heap.size W w' → w'.cell? ⟨br, 0, none⟩ = some (.int .i64 root) ∧ w'.cell? ⟨bl, 0, none⟩ = some (.pointer (some ⟨P, 0, none⟩)) ∧ w'.cell? ⟨bl, 1, none⟩ = some (.map (some sm)) ∧ w'.cell? ⟨bn, 0, none⟩ = some nv) := Hq fun w' hb => (((hc.low hbw).low hb).cells)
 have HBL : Hid (∀ w', Below W.heap.size W w' → Calls Tryz.prog 83 #[.agg #[.pointer (some ⟨P, 0, none⟩), .map (some sm)], .agg #[.int .i64 root, .int .i64 1, .slice none 0 0, .slice none 0 0, .bool false], nv, .func (.func 82) #[] #[.pointer (some ⟨w.heap.size + 1, 0, none⟩), .pointer (some ⟨w.heap.size, 0, none⟩)]] w' fun e w'' => e = .returned (.bool false) ∧ K w'') := Hq fun w' hb => by
  have hbb : Below w.heap.size w w' := hbw.trans (hb.mono hbw.size)
  exact belowW_any (pc := ⟨root, 1, Sp.zero⟩) (h.below hbb) (Nat.le_trans hBw hbb.size) (Sp.zero_ok w') hno nv ((hb.block _ (by omega)).trans b0) (fun W3 seen' h3 hs3 => hR W3 seen' h3 ((h.step hbb).trans hs3))
 have HKC := Hq hKc
 have HTOP := Hq (fun w => top_any (w := w) root)
 have hrb : (root == 0) = false := by rw [beq_eq_false_iff_ne]; exact h0
 obtain ⟨y1, y2, y3, y4⟩ := HKN.out W (Below.refl _ _)
 clear h hBw h0 hno hc hR hbw b0 b1 hws hKc
 go_enter Tryz.func81, Tryz.ntmps81
 rw [hW] at y1 y2 y3 y4
 go_wp2_with fail
 rw [← hW]
 rw [← hW] at y1 y2 y3 y4
 replace hW := Hq hW
 go_region_held3 (fun w' => w'.cell? ⟨br, 0, none⟩ = some (.int .i64 root) ∧ w'.cell? ⟨bl, 0, none⟩ = some (.pointer (some ⟨P, 0, none⟩)) ∧ w'.cell? ⟨bl, 1, none⟩ = some (.map (some sm)) ∧ w'.cell? ⟨bn, 0, none⟩ = some nv)
  (first | exact HKN.out _ (Below.refl W.heap.size W).drew | exact HKN.out _ HB1.out | exact (HKC.out _ hK).cells)
  (first
   | (go_at_call 84; refine (HTOP.out _).mono ?_; rintro e w1 ⟨rfl, hb⟩; have HB1 : Hid (Below W.heap.size W w1) := Hq ((Below.refl W.heap.size W).drew.trans hb); clear hb)
   | (go_at_call 83; refine (HBL.out _ HB1.out).mono ?_; rintro e w2 ⟨rfl, hK⟩))
 go_wp2
 go_end0
 exact ⟨⟨_, rfl⟩, hK⟩
theorem nodes_any (root : Int) (nf : Fn) (ns nr : Array Value) :
  Calls Tryz.prog 45 #[.agg #[.pointer (some ⟨P, 0, none⟩), .map (some sm)],   .int .i64 root, .func nf ns nr] w fun e w' =>
   e = .returned (.func (.func 81) #[] #[.pointer (some ⟨w.heap.size + 1, 0, none⟩), .pointer (some ⟨w.heap.size, 0, none⟩), .pointer (some ⟨w.heap.size + 2, 0, none⟩)]) ∧ NCap w' P sm (w.heap.size + 1) w.heap.size (w.heap.size + 2) root (.func nf ns nr) ∧ Below w.heap.size w w' := by
 obtain ⟨b0, b1, b2, hb, _⟩ := boxes3 w #[.pointer (some ⟨P, 0, none⟩), .map (some sm)] #[.int .i64 root] #[.func nf ns nr] 95 3 102
 have HB := Hq hb
 have HC : Hid (NCap _ P sm (w.heap.size + 1) w.heap.size (w.heap.size + 2) root (.func nf ns nr)) := Hq ⟨⟨_, b1⟩, ⟨_, b0⟩, ⟨_, b2⟩⟩
 clear b0 b1 b2 hb
 go_enter Tryz.func45, Tryz.ntmps45
 go_wp2
 go_ret
 exact ⟨rfl, HC.out, HB.out⟩
end
end Go.Proofs.YtbbgdbnjmonbgaaGreatDoor

set_option linter.unusedVariables false
set_option linter.unusedSimpArgs false
set_option maxRecDepth 100000
namespace Go.Proofs.YtbbgdbnjmonbgaaGreatDoor
open Go.RowKit Go.Shelf
def recOf (fn : FuncId) (a : Act) (ps : Array Tmp) (assign body : Code) (w : World) (st : LoopState) (pe : Option Code) : Loop := { state := st, pending := pe, fn, tmps := a.tmps, params := ps, assign, body, defers := w.heap.size }
structure RecIs (r : Loop) (a : Act) (ps : Array Tmp) (assign body : Code) : Prop where
 st : r.state = .ready
 pe : r.pending = none
 tm : r.tmps = a.tmps
 pa : r.params = ps
 ass : r.assign = assign
 bo : r.body = body
theorem wp_range {P : Program} {g : Operand} {ps : Array Tmp} {assign body : Code} {Q : Exit → Act → World → Prop} {a : Act} {w : World} {gf : Nat} {lb : Array Value}
  (hg : a.eval g = .func (.func gf) #[] lb) (eg : ∀ args w, (callFunc gf args).run P w = .ok (.enter gf args) w)
  (h : ∀ r W, RecIs r a ps assign body → W.heap[w.heap.size + 1]? = some (.loop r) → W.heap[w.heap.size]? = some (.deferred (some [])) → Below w.heap.size w W →
   Calls P gf (#[.func (.yield (w.heap.size + 1)) #[] #[]] ++ lb) W (rangePost Fence.wide 3 P (w.heap.size + 1) Q { a with defers := { target := .collected w.heap.size, args := #[] } :: a.defers })) :
  (Code.rangeFunc g ps assign body).wp P Q a w := by
 refine (wpIn_wide (n := 3)).1 (wpIn_rangeFunc ?_)
 intro fn hfn
 obtain ⟨W1, hW1⟩ : ∃ W1, W1 = (w.alloc (.deferred (some []))).alloc (.loop (recOf fn a ps assign body w .ready none)) := ⟨_, rfl⟩
 have hL1 : W1.heap[w.heap.size + 1]? = some (.loop (recOf fn a ps assign body w .ready none)) := by
  rw [hW1]; have := World.alloc_heap_new (w.alloc (.deferred (some []))) (.loop (recOf fn a ps assign body w .ready none)); rwa [World.size_alloc] at this
 have hK1 : W1.heap[w.heap.size]? = some (.deferred (some [])) := by
  rw [hW1]; exact (Below.heap_alloc _ _ _ (by simp)).trans (World.alloc_heap_new w _)
 have hb1 : Below w.heap.size w W1 := by
  rw [hW1]; exact sbox2 _ _ _
 refine ⟨w.heap.size + 1, [{ target := .collected w.heap.size, args := #[] }], W1, { target := .fn (.func gf) lb, args := #[.func (.yield (w.heap.size + 1)) #[] #[]] }, W1, gf,
  #[.func (.yield (w.heap.size + 1)) #[] #[]] ++ lb, W1, ?_, ?_, ?_, ?_, (fun _ => by decide), ?_⟩
 ·
  rw [hW1]; exact run_enterLoop_outer _ _ _ _ _
 ·
  simp only [resolve, hg]
  simp [go_sem]
 ·
  intro f' hf'; trivial
 ·
  simp [invoke, go_sem, eg]
 ·
  exact callsIn_wide.2 (h _ W1 ⟨rfl, rfl, rfl, rfl, rfl, rfl⟩ hL1 hK1 hb1)
theorem yield_round {P : Program} {l : Nat} {r : Loop} {args : Array Value} {W : World} {R : Ending → World → Prop} (hl : W.heap[l]? = some (.loop r)) (hs : args.size = r.params.size)
  (h : r.assign.wpIn (Fence.wide.inRound l) 2 P (Exit.then (fun a₁ w₁ => ∃ w₂, (Instr.beginRound l).run P w₁ = .ok () w₂ ∧ r.body.wpIn (Fence.wide.inRound l) 2 P (roundPost P l R) a₁ w₂) (fun _ _ _ => False))
   { tmps := (r.params.zip args).foldl (fun tmps (t, a) => tmps.setIfInBounds t a) r.tmps, defers := [] } W) : YieldAt Fence.wide 2 P l args W R :=
 ⟨_, _, _, _, run_yield hl hs, roundIn_of_wpIn trivial h⟩
theorem leaves_mark {P : Program} {fn : Func} {tmps : Array Value} {R : Ending → World → Prop} {D : Nat} {w : World} (hD : w.heap[D]? = some (.deferred (some [])))
  (h : LeavesIn Fence.wide 3 P fn tmps R [] .returning (w.putObj D (.deferred none))) : LeavesInM Fence.wide 3 P fn tmps R [{ target := .collected D, args := #[] }] .returning w :=
 ⟨by simp, .inl ⟨D, _, rfl, run_takeDeferred hD, h⟩⟩
theorem putObj_below {w : World} {B l : Nat} (hB : B ≤ l) (o : Obj) : Below B w (w.putObj l o) := ⟨rfl, rfl, rfl, by simp, fun k hk => World.putObj_heap_other (by omega)⟩
theorem out_two {w : World} {B D a b : Nat} {x0 y0 x y : Value} {t1 t2 : TypeId} (h1 : w.heap[a]? = some (.cells #[x0] t1 (0, 0))) (h2 : w.heap[b]? = some (.cells #[y0] t2 (0, 0))) (hD : w.heap[D]? = some (.deferred (some []))) (hab : a ≠ b) (ha : B ≤ a) (hb : B ≤ b) (hd : B ≤ D) :
  ((w.setCell ⟨a, 0, none⟩ x).setCell ⟨b, 0, none⟩ y).heap[D]? = some (.deferred (some [])) ∧
  (((w.setCell ⟨a, 0, none⟩ x).setCell ⟨b, 0, none⟩ y).putObj D (.deferred none)).cell? ⟨a, 0, none⟩ = some x ∧
  (((w.setCell ⟨a, 0, none⟩ x).setCell ⟨b, 0, none⟩ y).putObj D (.deferred none)).cell? ⟨b, 0, none⟩ = some y ∧
  Below B w (((w.setCell ⟨a, 0, none⟩ x).setCell ⟨b, 0, none⟩ y).putObj D (.deferred none)) := by
 have nda : D ≠ a := fun e => by rw [e] at hD; rw [h1] at hD; cases hD
 have ndb : D ≠ b := fun e => by rw [e] at hD; rw [h2] at hD; cases hD
 have s1 : (w.setCell ⟨a, 0, none⟩ x).heap[a]? = some (.cells #[x] t1 (0, 0)) := by rw [heap_setCell_same w a 0 _ _ _ h1]; rfl
 have s2 : (w.setCell ⟨a, 0, none⟩ x).heap[b]? = some (.cells #[y0] t2 (0, 0)) := (Below.heap_setCell w ⟨a, 0, none⟩ x b (Ne.symm hab)).trans h2
 have u1 : ((w.setCell ⟨a, 0, none⟩ x).setCell ⟨b, 0, none⟩ y).heap[a]? = some (.cells #[x] t1 (0, 0)) := (Below.heap_setCell _ ⟨b, 0, none⟩ y a hab).trans s1
 have u2 : ((w.setCell ⟨a, 0, none⟩ x).setCell ⟨b, 0, none⟩ y).heap[b]? = some (.cells #[y] t2 (0, 0)) := by rw [heap_setCell_same _ b 0 _ _ _ s2]; rfl
 have v1 : (((w.setCell ⟨a, 0, none⟩ x).setCell ⟨b, 0, none⟩ y).putObj D (.deferred none)).heap[a]? = some (.cells #[x] t1 (0, 0)) := (World.putObj_heap_other (Ne.symm nda)).trans u1
 have v2 : (((w.setCell ⟨a, 0, none⟩ x).setCell ⟨b, 0, none⟩ y).putObj D (.deferred none)).heap[b]? = some (.cells #[y] t2 (0, 0)) := (World.putObj_heap_other (Ne.symm ndb)).trans u2
 refine ⟨(Below.heap_setCell _ ⟨b, 0, none⟩ y D ndb).trans ((Below.heap_setCell w ⟨a, 0, none⟩ x D nda).trans hD), (jC v1 0).trans rfl, (jC v2 0).trans rfl, ?_⟩
 exact (((Below.refl B w).setCell (p := ⟨a, 0, none⟩) ha x).setCell (p := ⟨b, 0, none⟩) hb y).trans (putObj_below hd _)
theorem round_two {w : World} {B D a b : Nat} {x0 y0 x y : Value} {t1 t2 : TypeId} {r r' : Loop} (h1 : w.heap[a]? = some (.cells #[x0] t1 (0, 0))) (h2 : w.heap[b]? = some (.cells #[y0] t2 (0, 0))) (hD : w.heap[D]? = some (.loop r)) (hab : a ≠ b) (ha : B ≤ a) (hb : B ≤ b) (hd : B ≤ D) :
  ((w.setCell ⟨a, 0, none⟩ x).setCell ⟨b, 0, none⟩ y).heap[D]? = some (.loop r) ∧
  (((w.setCell ⟨a, 0, none⟩ x).setCell ⟨b, 0, none⟩ y).putObj D (.loop r')).heap[a]? = some (.cells #[x] t1 (0, 0)) ∧
  (((w.setCell ⟨a, 0, none⟩ x).setCell ⟨b, 0, none⟩ y).putObj D (.loop r')).heap[b]? = some (.cells #[y] t2 (0, 0)) ∧
  (((w.setCell ⟨a, 0, none⟩ x).setCell ⟨b, 0, none⟩ y).putObj D (.loop r')).heap[D]? = some (.loop r') ∧
  (∀ i, i ≠ a → i ≠ b → i ≠ D → (((w.setCell ⟨a, 0, none⟩ x).setCell ⟨b, 0, none⟩ y).putObj D (.loop r')).heap[i]? = w.heap[i]?) ∧
  Below B w (((w.setCell ⟨a, 0, none⟩ x).setCell ⟨b, 0, none⟩ y).putObj D (.loop r')) := by
 have nda : D ≠ a := fun e => by rw [e] at hD; rw [h1] at hD; cases hD
 have ndb : D ≠ b := fun e => by rw [e] at hD; rw [h2] at hD; cases hD
 have s1 : (w.setCell ⟨a, 0, none⟩ x).heap[a]? = some (.cells #[x] t1 (0, 0)) := by rw [heap_setCell_same w a 0 _ _ _ h1]; rfl
 have s2 : (w.setCell ⟨a, 0, none⟩ x).heap[b]? = some (.cells #[y0] t2 (0, 0)) := (Below.heap_setCell w ⟨a, 0, none⟩ x b (Ne.symm hab)).trans h2
 have u1 : ((w.setCell ⟨a, 0, none⟩ x).setCell ⟨b, 0, none⟩ y).heap[a]? = some (.cells #[x] t1 (0, 0)) := (Below.heap_setCell _ ⟨b, 0, none⟩ y a hab).trans s1
 have u2 : ((w.setCell ⟨a, 0, none⟩ x).setCell ⟨b, 0, none⟩ y).heap[b]? = some (.cells #[y] t2 (0, 0)) := by rw [heap_setCell_same _ b 0 _ _ _ s2]; rfl
 have u3 : ((w.setCell ⟨a, 0, none⟩ x).setCell ⟨b, 0, none⟩ y).heap[D]? = some (.loop r) := (Below.heap_setCell _ ⟨b, 0, none⟩ y D ndb).trans ((Below.heap_setCell w ⟨a, 0, none⟩ x D nda).trans hD)
 refine ⟨u3, (World.putObj_heap_other (Ne.symm nda)).trans u1, (World.putObj_heap_other (Ne.symm ndb)).trans u2, World.putObj_heap_same (aL u3), fun i i1 i2 i3 => (World.putObj_heap_other i3).trans ((Below.heap_setCell _ ⟨b, 0, none⟩ y i i2).trans (Below.heap_setCell w ⟨a, 0, none⟩ x i i1)), ?_⟩
 exact (((Below.refl B w).setCell (p := ⟨a, 0, none⟩) ha x).setCell (p := ⟨b, 0, none⟩) hb y).trans (putObj_below hd _)
theorem NCap.same {w w' : World} {P sm br bl bn : Nat} {root : Int} {nv : Value} (h : NCap w P sm br bl bn root nv) (hs : ∀ i o, i = br ∨ i = bl ∨ i = bn → w.heap[i]? = some o → w'.heap[i]? = some o) : NCap w' P sm br bl bn root nv := by
 obtain ⟨⟨t1, h1⟩, ⟨t2, h2⟩, ⟨t3, h3⟩⟩ := h
 exact ⟨⟨t1, hs _ _ (.inl rfl) h1⟩, ⟨t2, hs _ _ (.inr (.inl rfl)) h2⟩, ⟨t3, hs _ _ (.inr (.inr rfl)) h3⟩⟩
theorem NCap.ne {w : World} {P sm br bl bn : Nat} {root : Int} {nv : Value} (h : NCap w P sm br bl bn root nv) {D : Nat} {r : Loop} (hD : w.heap[D]? = some (.loop r)) : br ≠ D ∧ bl ≠ D ∧ bn ≠ D := by
 obtain ⟨⟨t1, h1⟩, ⟨t2, h2⟩, ⟨t3, h3⟩⟩ := h
 exact ⟨(fun e => by rw [e, hD] at h1; cases h1), (fun e => by rw [e, hD] at h2; cases h2), (fun e => by rw [e, hD] at h3; cases h3)⟩
theorem out_left {w : World} {B D a b : Nat} {x y : Value} {t1 t2 : TypeId} {r : Loop} {o : Obj} (h1 : w.heap[a]? = some (.cells #[x] t1 (0, 0))) (h2 : w.heap[b]? = some (.cells #[y] t2 (0, 0))) (hL : w.heap[D + 1]? = some (.loop r)) (hD : w.heap[D]? = some (.deferred (some []))) (hd : B ≤ D) :
  (w.putObj (D + 1) o).heap[D]? = some (.deferred (some [])) ∧
  ((w.putObj (D + 1) o).putObj D (.deferred none)).cell? ⟨a, 0, none⟩ = some x ∧
  ((w.putObj (D + 1) o).putObj D (.deferred none)).cell? ⟨b, 0, none⟩ = some y ∧
  Below B w ((w.putObj (D + 1) o).putObj D (.deferred none)) := by
 have nda : a ≠ D := fun e => by rw [e] at h1; rw [h1] at hD; cases hD
 have ndb : b ≠ D := fun e => by rw [e] at h2; rw [h2] at hD; cases hD
 have nla : a ≠ D + 1 := fun e => by rw [e] at h1; rw [h1] at hL; cases hL
 have nlb : b ≠ D + 1 := fun e => by rw [e] at h2; rw [h2] at hL; cases hL
 have v1 : ((w.putObj (D + 1) o).putObj D (.deferred none)).heap[a]? = some (.cells #[x] t1 (0, 0)) := (World.putObj_heap_other nda).trans ((World.putObj_heap_other nla).trans h1)
 have v2 : ((w.putObj (D + 1) o).putObj D (.deferred none)).heap[b]? = some (.cells #[y] t2 (0, 0)) := (World.putObj_heap_other ndb).trans ((World.putObj_heap_other nlb).trans h2)
 exact ⟨(World.putObj_heap_other (by omega)).trans hD, (jC v1 0).trans rfl, (jC v2 0).trans rfl, (putObj_below (by omega) _).trans (putObj_below hd _)⟩
end Go.Proofs.YtbbgdbnjmonbgaaGreatDoor

set_option linter.unusedVariables false
set_option linter.unusedSimpArgs false
set_option maxRecDepth 100000
namespace Go.Proofs.YtbbgdbnjmonbgaaGreatDoor
open Go.RowKit Go.Shelf
section
variable {P : Program} {w w' : World} {ops : Array Oper} {rest : List Oper} {o : Oper} {a : Act} {Q : Exit → Act → World → Prop} {b r : Nat} {f : Int → Option Value} {left : Int → Bool}
theorem tr_nextz (hg : o.guard = none) (it : Operand) (hop : o.op = Op.next it false) (hit : a.eval it = .pointer (some ⟨r, 0, none⟩)) (h : Rng w b r f left) (hf : ∀ k, f k = none)
  (hDone : wpList P ops Q rest (a.put o.dst (.tuple #[.bool false])) w) :
  wpList P ops Q (o :: rest) a w := by
 refine wpList_plain hg fun K' hK' => ?_
 unfold Oper.wp
 rcases h.next (P := P) o.type with ⟨hl, hrun⟩ | ⟨k, v, w', hl, hfk, hrun, hrg, hlt, hgr, hsz, hen⟩
 ·
  simp [execOp, hop, hit, hrun, Result.andThen]
  exact hK' _ _ hDone
 ·
  rw [hf k] at hfk; cases hfk
end
section
variable {w : World}
set_option maxHeartbeats 1600000 in
theorem keys1Z_any {bm sm : Nat} {t : TypeId} {fr : Nat × Nat} (hb : w.heap[bm]? = some (.cells #[.map (some sm)] t fr)) (hm : MapSt w sm (setOf fun _ => false)) (l : Nat) :
  Calls Tryz.prog 88 #[.func (.yield l) #[] #[], .pointer (some ⟨bm, 0, none⟩)] w fun e w' => (∃ v, e = .returned v) ∧ Below w.heap.size w w' := by
 have c0 : w.cell? ⟨bm, 0, none⟩ = some (.map (some sm)) := (jC hb 0).trans rfl
 have HM := Hq hm
 clear hb hm
 go_enter Tryz.func88, Tryz.ntmps88
 go_wp2_with (at_range; refine st_range rfl _ _ 3 114 rfl Tryz.underlying87 rfl HM.out ?_; intro w0 hr0 hb0 hs0)
 have HR := Hq hr0
 have HB := Hq hb0
 clear hr0 hb0 hs0
 go_frame
 go_loopw [3] (fun _ wr => wr = w0) (fun _ _ => 0)
 case atStart => rfl
 case round =>
  subst hrel
  go_wp2_with (at_next; refine tr_nextz rfl _ rfl rfl HR.out (fun k => by simp [setOf]) ?_)
  go_wp2
  go_end0
  exact ⟨⟨_, rfl⟩, HB.out⟩
theorem keys_any (m : Option Nat) : Calls Tryz.prog 49 #[.map m] w fun e w' => e = .returned (.func (.func 88) #[] #[.pointer (some ⟨w.heap.size, 0, none⟩)]) ∧ w' = w.alloc (.cells #[.map m] 87) := by
 go_enter Tryz.func49, Tryz.ntmps49
 go_wp2
 go_ret
 exact ⟨rfl, rfl⟩
set_option maxHeartbeats 1600000 in
theorem appendSeqZ_any {bm sm : Nat} {t : TypeId} {fr : Nat × Nat} (hb : w.heap[bm]? = some (.cells #[.map (some sm)] t fr)) (hm : MapSt w sm (setOf fun _ => false)) :
  Calls Tryz.prog 113 #[.slice none 0 0, .func (.func 88) #[] #[.pointer (some ⟨bm, 0, none⟩)]] w fun e w' => e = .returned (.slice none 0 0) ∧ Below w.heap.size w w' := by
 have hbw := sbox1 w (.cells #[.slice none 0 0] 22)
 have hnew := heap_alloc_new w (.cells #[.slice none 0 0] 22)
 have hs1 : (w.alloc (.cells #[.slice none 0 0] 22)).heap.size = w.heap.size + 1 := by simp
 refine (callsIn_wide (n := 3)).1 (callsIn_of_wp_marks Tryz.func113 rfl trivial (wpIn_wide.2 ?_))
 simp only [Tryz.ntmps113, List.size_toArray, List.length_cons, List.length_nil, Nat.reduceAdd, Nat.reduceSub, Array.replicate_succ, Array.replicate_zero, List.push_toArray, List.append_toArray, List.nil_append, List.cons_append]
 go_wp2_with fail
 generalize w.alloc (.cells #[.slice none 0 0] 22) = W at hbw hnew hs1 ⊢
 refine wp_range rfl (enters_of Tryz.func88 (by kernel_rfl) rfl) ?_
 intro r W7 hri hrec hdef hb7
 have HRI := Hq hri
 have h7 : Below w.heap.size w W7 := hbw.trans (hb7.mono hbw.size)
 refine (keys1Z_any (w := W7) (bm := bm) (sm := sm) (by rw [h7.block _ (aL hb)]; exact hb) (hm.block (h7.block _ hm.lt)) _).mono ?_
 rintro e w8 ⟨⟨v, rfl⟩, hb8⟩
 have lt : ∀ {i : Nat} {o : Obj}, W7.heap[i]? = some o → w8.heap[i]? = some o := fun {i o} h => by rw [hb8.block i (aL h)]; exact h
 refine ⟨r.pending, _, run_endLoop (lt hrec) (by rw [HRI.out.st]; intro h; cases h), ?_⟩
 obtain ⟨w9, hw9⟩ : ∃ w9, w9 = w8.putObj (W.heap.size + 1) (.loop { r with state := .exhausted }) := ⟨_, rfl⟩
 rw [← hw9, HRI.out.pe]
 have hq : w9.heap[w.heap.size]? = some (.cells #[.slice none 0 0] 22 (0, 0)) := by
  rw [hw9, World.putObj_heap_other (by omega)]
  exact lt (by rw [hb7.block _ (by omega)]; exact hnew)
 have hd : w9.heap[W.heap.size]? = some (.deferred (some [])) := by
  rw [hw9, World.putObj_heap_other (by omega)]
  exact lt hdef
 have h9 : Below w.heap.size w w9 := by rw [hw9]; exact h7.trans ((hb8.mono h7.size).trans (putObj_below (by omega) _))
 have c1 : w9.cell? ⟨w.heap.size, 0, none⟩ = some (.slice none 0 0) := (jC hq 0).trans rfl
 have HD := Hq hd
 have H9 := Hq (h9.trans (putObj_below (w := w9) (l := W.heap.size) (by omega) (.deferred none)))
 clear hri hrec hdef hb7 h7 hb8 lt hw9 hq hd h9 hb hm hbw hnew hs1
 dsimp only
 go_wp2
 exact leaves_mark HD.out ⟨_, results_tmp rfl _ _ _, rfl, H9.out⟩
theorem collectZ_any {bm sm : Nat} {t : TypeId} {fr : Nat × Nat} (hb : w.heap[bm]? = some (.cells #[.map (some sm)] t fr)) (hm : MapSt w sm (setOf fun _ => false)) :
  Calls Tryz.prog 86 #[.func (.func 88) #[] #[.pointer (some ⟨bm, 0, none⟩)]] w fun e w' => e = .returned (.slice none 0 0) ∧ Below w.heap.size w w' := by
 have HA := Hq (appendSeqZ_any hb hm)
 clear hb hm
 go_enter Tryz.func86, Tryz.ntmps86
 go_wp2_with fail
 refine HA.out.mono ?_; rintro e w1 ⟨rfl, hb⟩
 go_wp2
 go_ret
 exact ⟨rfl, hb⟩
theorem len64Z : Calls Tryz.prog 141 #[.int .u64 0] w fun e w' => e = .returned (.int .i64 0) ∧ w = w' := by
 go_enter Tryz.func141, Tryz.ntmps141
 go_wp2
 go_ret
 exact ⟨ret_int (by decide +kernel), rfl⟩
theorem lenZ : Calls Tryz.prog 115 #[.int .u64 0] w fun e w' => e = .returned (.int .i64 0) ∧ w = w' := by
 have HL := Hq (fun w => len64Z (w := w))
 go_enter Tryz.func115, Tryz.ntmps115
 go_wp2_with fail
 refine (HL.out _).mono ?_; rintro e w1 ⟨rfl, rfl⟩
 go_wp2
 go_ret
 exact ⟨rfl, rfl⟩
set_option maxHeartbeats 1600000 in
theorem insertZ : Calls Tryz.prog 131 #[.slice none 0 0, .int .i64 0, .int .i64 0] w fun e w' => (∃ v, e = .returned v) ∧ w = w' := by
 go_enter Tryz.func131, Tryz.ntmps131
 go_wp2
 go_loopw [6] (fun i wr => i = .int .i64 1 ∧ wr = w) (fun _ _ => 0)
 case atStart => exact ⟨rfl, rfl⟩
 case round =>
  obtain ⟨rfl, rfl⟩ := hrel
  go_wp2
  go_end0
  exact ⟨⟨_, rfl⟩, rfl⟩
set_option maxHeartbeats 1600000 in
theorem pdqZ : Calls Tryz.prog 114 #[.slice none 0 0, .int .i64 0, .int .i64 0, .int .i64 0] w fun e w' => (∃ v, e = .returned v) ∧ w = w' := by
 have HI := Hq (fun w => insertZ (w := w))
 go_enter Tryz.func114, Tryz.ntmps114
 go_wp2
 go_loopw [1, 2] (fun a b wr => a = .int .i64 0 ∧ b = .int .i64 0 ∧ wr = w) (fun _ _ _ => 0)
 case atStart => exact ⟨rfl, rfl, rfl⟩
 case round =>
  obtain ⟨rfl, rfl, rfl⟩ := hrel
  go_wp2_with fail
  refine (HI.out _).mono ?_; rintro e w1 ⟨⟨v, rfl⟩, rfl⟩
  go_wp2
  refine bodyPost_ret (results_none rfl _ _ _) rfl ?_
  exact ⟨⟨_, rfl⟩, rfl⟩
theorem sortZ : Calls Tryz.prog 87 #[.slice none 0 0] w fun e w' => (∃ v, e = .returned v) ∧ w = w' := by
 have HL := Hq (fun w => lenZ (w := w))
 have HP := Hq (fun w => pdqZ (w := w))
 go_enter Tryz.func87, Tryz.ntmps87
 go_wp2_with fail
 refine (HL.out _).mono ?_; rintro e w1 ⟨rfl, rfl⟩
 go_wp2_with fail
 refine (HP.out _).mono ?_; rintro e w1 ⟨⟨v, rfl⟩, rfl⟩
 go_wp2
 go_end0
 exact ⟨⟨_, rfl⟩, rfl⟩
theorem sortedZ_any {bm sm : Nat} {t : TypeId} {fr : Nat × Nat} (hb : w.heap[bm]? = some (.cells #[.map (some sm)] t fr)) (hm : MapSt w sm (setOf fun _ => false)) :
  Calls Tryz.prog 48 #[.func (.func 88) #[] #[.pointer (some ⟨bm, 0, none⟩)]] w fun e w' => e = .returned (.slice none 0 0) ∧ Below w.heap.size w w' := by
 have HC := Hq (collectZ_any hb hm)
 have HS := Hq (fun w => sortZ (w := w))
 clear hb hm
 go_enter Tryz.func48, Tryz.ntmps48
 go_wp2_with fail
 refine HC.out.mono ?_; rintro e w1 ⟨rfl, hb⟩
 have HB := Hq hb
 clear hb
 go_wp2_with fail
 refine (HS.out _).mono ?_; rintro e w2 ⟨⟨v, rfl⟩, rfl⟩
 go_wp2
 go_ret
 exact ⟨rfl, HB.out⟩
end
end Go.Proofs.YtbbgdbnjmonbgaaGreatDoor

set_option linter.unusedVariables false
set_option linter.unusedSimpArgs false
set_option maxRecDepth 100000
namespace Go.Proofs.YtbbgdbnjmonbgaaGreatDoor
open Go.RowKit
section
variable {w w' : World} {B P pd sm cb : Nat} {X : PG} {seen : Int → Bool} {val : Kb} {fv lv : Value}
structure Lays (X : PG) (k : Nat) : Prop where
 f : X.failed = false
 l : X.F.least = some (k : Int)
 h0 : X.S.left ≠ 0
 h1 : -1 ≤ X.S.left
 h2 : X.S.left ≤ 9223372036854775807
 o : X.S.ops ≤ 999999999
 g : X.g + 1 ≤ 1152921504606846976
theorem CBx.low (h : CBx w cb P sm val fv lv) (hb : Below w.heap.size w w') : CBx w' cb P sm val fv lv := by
 unfold CBx at *
 rw [hb.block _ (aL h)]; exact h
theorem LookAt.grownI {v : Value} {l : List Int} (h : LookAt w B P pd sm X seen) (ho : OwnI w B v l) (hg : w.grownBy w' v.ownBlock) : LookAt w' B P pd sm X seen := by
 rcases ho.2 with ⟨rfl, h0⟩ | ⟨g, cap, cur, rfl, hb, hgc, _⟩
 ·
  exact h.below ((Below.refl _ _).grown hg (Nat.le_refl _) (fun k hk => by cases hk))
 ·
  exact h.off hgc hg hb (by decide)
theorem OwnI.notcb {v : Value} {l : List Int} (h : OwnI w B v l) (hc : CBx w cb P sm val fv lv) : v.ownBlock ≠ some cb := h.other hc (fun c f e => by simp only [Obj.cells.injEq] at e; exact absurd e.2.1 (by decide))
end
end Go.Proofs.YtbbgdbnjmonbgaaGreatDoor

set_option linter.unusedVariables false
set_option linter.unusedSimpArgs false
set_option maxRecDepth 100000
namespace Go.Proofs.YtbbgdbnjmonbgaaGreatDoor
open Go.RowKit
section
variable {w w' : World} {B P pd sm cb : Nat} {X : PG} {seen : Int → Bool} {val : Kb} {fv lv : Value}
theorem GBytes.own {B' : Nat} {p : Option Addr} {n c : Nat} {l : List UInt8} (h : Own w B' (.slice p n c) l) (hn : n = l.length) : GBytes w B p l := by
 intro w' _ hk
 have h' : Own w' B' (.slice p n c) l := by
  refine ⟨h.1, ?_⟩
  rcases h.2 with h0 | ⟨g, cap, cur, hv, h1, hg, h2⟩
  ·
   exact .inl h0
  ·
   exact .inr ⟨g, cap, cur, hv, h1, hk.stay hg (ofGr_u8 _ _ _), h2⟩
 obtain ⟨p', c', hv', _, _, h3', _⟩ := h'.form hn
 cases hv'
 exact h3'
end
end Go.Proofs.YtbbgdbnjmonbgaaGreatDoor

