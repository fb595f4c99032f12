/-
  sector.do.
  sector.Flush..
-/
import Derived.Test.YtbbgdbnjmonbgaaGreatDoorH00
import Derived.Test.YtbbgdbnjmonbgaaGreatDoorH01
import Derived.StillTailTactics
set_option linter.unusedVariables false
set_option maxRecDepth 100000
namespace Go.Proofs.YtbbgdbnjmonbgaaGreatDoor
open Go.RowKit
set_option maxHeartbeats 1600000 in
theorem do_any {w : World} {B p lm fm : Nat} {S : SD} (h : DiskAt w B p lm fm S) (h0 : S.left ≠ 0) (hl : -1 ≤ S.left) (hu : S.left ≤ 9223372036854775807) (ho : S.ops ≤ 1000000000) (hBw : B ≤ w.heap.size)
  {fn : FuncId} {caps : Array Value} (eg : ∀ args (w : World), (callFunc fn args).run Tryz.prog w = .ok (.enter fn args) w) {R : World → Prop}
  (H : ∀ w1, DiskAt w1 B p lm fm S.tick → Below B w w1 → Keeps (ofDisk lm fm) w w1 → Calls Tryz.prog fn caps w1 fun e w2 => e = .returned (.tuple #[]) ∧ R w2) :
  Calls Tryz.prog 74 #[.pointer (some ⟨p, 0, none⟩), .func (.func fn) #[] caps] w fun e w' => e = .returned (.int .i64 0) ∧ R w' := by
 obtain ⟨v, ms, fl, ff, h⟩ := h
 have o0 := h.ok.o1
 have c4 : w.cell? ⟨p, 4, none⟩ = some (.int .i64 S.left) := by rw [jC h.blk]; rfl
 have c5 : w.cell? ⟨p, 5, none⟩ = some (.int .i64 S.ops) := by rw [jC h.blk]; rfl
 have u4 : ∀ i, w.frozen? ⟨p, i, none⟩ = false := fun i => jU h.blk i
 have hHid := Hq H
 have d0 : decide (S.left = 0) = false := decide_eq_false h0
 by_cases hp : 0 < S.left
 ·
  have hd : decide (0 < S.left) = true := decide_eq_true hp
  have hfin : ∀ w1, w1 = ((w.setCell ⟨p, 4, none⟩ (.int .i64 (S.left - 1))).setCell ⟨p, 5, none⟩ (.int .i64 (S.ops + 1))) → Calls Tryz.prog fn caps w1 fun e w2 => e = .returned (.tuple #[]) ∧ R w2 := by
   rintro w1 rfl
   obtain ⟨b1, g1⟩ := cell_set (i := 4) (v := .int .i64 (S.left - 1)) h.blk
   obtain ⟨b2, g2⟩ := cell_set (i := 5) (v := .int .i64 (S.ops + 1)) b1
   have g := g1.trans g2
   obtain ⟨q1, q2⟩ := disk_step (lm := lm) (fm := fm) g h.blk (ofDisk_own _ _) h.hp hBw
   refine H _ ⟨v, ms, fl, ff, ?_⟩ q1 q2
   have := h.count g (l := S.left - 1) (o := S.ops + 1) (by simpa using b2) (by omega)
   have e : S.tick = { S with left := S.left - 1, ops := S.ops + 1 } := by simp [SD.tick, hp]
   rw [e]
   exact this
  have HF := Hq hfin
  clear hfin h H
  generalize S.left = l at *
  generalize S.ops = o at *
  go_enter Tryz.func74, Tryz.ntmps74
  go_wp2_with fail
  refine (HF.out _ rfl).mono ?_; rintro e w2 ⟨rfl, hr⟩
  have HR := Hq hr
  clear hr
  go_wp2
  go_ret
  exact ⟨rfl, HR.out⟩
 ·
  have hd : decide (0 < S.left) = false := decide_eq_false hp
  have hfin : ∀ w1, w1 = (w.setCell ⟨p, 5, none⟩ (.int .i64 (S.ops + 1))) → Calls Tryz.prog fn caps w1 fun e w2 => e = .returned (.tuple #[]) ∧ R w2 := by
   rintro w1 rfl
   obtain ⟨b2, g⟩ := cell_set (i := 5) (v := .int .i64 (S.ops + 1)) h.blk
   obtain ⟨q1, q2⟩ := disk_step (lm := lm) (fm := fm) g h.blk (ofDisk_own _ _) h.hp hBw
   refine H _ ⟨v, ms, fl, ff, ?_⟩ q1 q2
   have := h.count g (l := S.left) (o := S.ops + 1) (by simpa using b2) (by omega)
   have e : S.tick = { S with left := S.left, ops := S.ops + 1 } := by simp [SD.tick, hp]
   rw [e]
   exact this
  have HF := Hq hfin
  clear hfin h H
  generalize S.left = l at *
  generalize S.ops = o at *
  go_enter Tryz.func74, Tryz.ntmps74
  go_wp2_with fail
  refine (HF.out _ rfl).mono ?_; rintro e w2 ⟨rfl, hr⟩
  have HR := Hq hr
  clear hr
  go_wp2
  go_ret
  exact ⟨rfl, HR.out⟩
end Go.Proofs.YtbbgdbnjmonbgaaGreatDoor

set_option linter.unusedVariables false
set_option maxRecDepth 100000
namespace Go.Proofs.YtbbgdbnjmonbgaaGreatDoor
open Go.RowKit
theorem found_none {ws : List Wr} {k : Int} (h : ∀ x ∈ ws, x.k ≠ k) : found ws k = none := by
 have : ∀ ws : List Wr, (∀ x ∈ ws, x.k ≠ k) → found ws.reverse k = none := by
  intro ws
  induction ws with
  | nil => intro _; rfl
  | cons x ws ih =>
   intro h
   rw [List.reverse_cons, found_snoc]
   unfold putAt
   rw [if_neg (fun e => h x (by simp) e.symm)]
   exact ih fun y hy => h y (by simp [hy])
 have h' := this ws.reverse (fun x hx => h x (by simpa using hx))
 rwa [List.reverse_reverse] at h'
theorem found_len {ws : List Wr} {n : Int} (h : ∀ x ∈ ws, x.l.length = 512 ∧ 0 ≤ x.k ∧ x.k < n) {k : Int} {l : List UInt8} (hf : found ws k = some l) : l.length = 512 := by
 have : ∀ ws : List Wr, (∀ x ∈ ws, x.l.length = 512 ∧ 0 ≤ x.k ∧ x.k < n) → found ws.reverse k = some l → l.length = 512 := by
  intro ws
  induction ws with
  | nil => intro _ h; cases h
  | cons x ws ih =>
   intro h hf
   rw [List.reverse_cons, found_snoc] at hf
   unfold putAt at hf
   split at hf
   ·
    obtain rfl := Option.some.inj hf
    exact (h x (by simp)).1
   ·
    exact ih (fun y hy => h y (by simp [hy])) hf
 exact this ws.reverse (fun x hx => h x (by simpa using hx)) (by rwa [List.reverse_reverse])
structure LtN (a b : Nat) : Prop where
 h : a < b
structure FlInv (w wr : World) (B p lm fm : Nat) (v : Value) (ms : List (Wr × Nat)) (S : SD) (bd : Nat) (fl ff : Int → Option Value) (i j : Nat) : Prop where
 blk : wr.heap[p]? = some (.cells #[.int .i64 S.size, .map (some lm), v, .map (some fm), .int .i64 S.left, .int .i64 S.ops] 78 (0, 0))
 bd : wr.heap[bd]? = some (.cells #[.pointer (some ⟨p, 0, none⟩)] 23 (0, 0))
 own : wr.ownsRow B 140 2 v ms.length (wcells ms)
 sec : ∀ x ∈ ms, Sec wr x.2 x.1.l
 ml : MapIs wr lm fl
 mf : MapIs wr fm ff
 ll : ∀ k, (fl k = none ∧ flushed S.lasts (S.waits.take i) k = zeros 512) ∨ ∃ g, fl k = some (sl g) ∧ Sec wr g (flushed S.lasts (S.waits.take i) k)
 f1 : ∀ k, found S.waits k = none → ff k = none
 f2 : ∀ x ∈ S.waits.take j, ff x.k = none
 below : Below B w wr
 keeps : Keeps (ofDisk lm fm) w wr
theorem owns_on {w w' : World} {B : Nat} {v : Value} {n : Nat} {xs : List Value} (h : w.ownsRow B 140 2 v n xs) (hk : ∀ (g : Nat) (c : Array Value), w.heap[g]? = some (Obj.cells c 140 (0, 0)) → w'.heap[g]? = some (Obj.cells c 140 (0, 0))) :
  w'.ownsRow B 140 2 v n xs := by
 refine ⟨h.1, ?_⟩
 rcases h.2 with h0 | ⟨g, cap, cur, hv, h1, hg, h2⟩
 ·
  exact .inl h0
 ·
  exact .inr ⟨g, cap, cur, hv, h1, hk g cur hg, h2⟩
theorem FlInv.on {w wr w' : World} {B p lm fm : Nat} {v : Value} {ms : List (Wr × Nat)} {S : SD} {bd : Nat} {fl ff : Int → Option Value} {i j : Nat} (h : FlInv w wr B p lm fm v ms S bd fl ff i j) (hb : Below wr.heap.size wr w') (hBw : B ≤ wr.heap.size) :
  FlInv w w' B p lm fm v ms S bd fl ff i j := by
 obtain ⟨h1, h2, h3, h4, h5, h6, h7, h8, h9, h10, h11⟩ := h
 have at_ : ∀ {i : Nat} {o : Obj}, wr.heap[i]? = some o → w'.heap[i]? = some o := fun {i o} h => by rw [hb.block i (aL h)]; exact h
 refine ⟨at_ h1, at_ h2, owns_on h3 fun g c h => at_ h, fun x hx => (h4 x hx).below hb, h5.block (hb.block _ h5.lt), h6.block (hb.block _ h6.lt), fun k => ?_, h8, h9, h10.trans (hb.mono hBw), h11.trans (Keeps.below hb)⟩
 rcases h7 k with h | ⟨g, h, h'⟩
 ·
  exact .inl h
 ·
  exact .inr ⟨g, h, h'.below hb⟩
theorem map_others {w w' : World} {b : Nat} {f : Int → Option Value} (hg : w.grownBy w' (some b)) (hm : MapIs w b f) {i : Nat} {c : Array Value} {t : TypeId} {fr : Nat × Nat} (h : w.heap[i]? = some (.cells c t fr)) : w'.heap[i]? = some (.cells c t fr) := by
 obtain ⟨es, cl, hb, _⟩ := hm
 exact grown_at hg h (obj_ne h hb (by simp))
theorem map_step {w w' : World} {B b lm fm : Nat} {f : Int → Option Value} (hg : w.grownBy w' (some b)) (hm : MapIs w b f) (hlf : b = lm ∨ b = fm) (hB : B ≤ b) (hBw : B ≤ w.heap.size) : Below B w w' ∧ Keeps (ofDisk lm fm) w w' := by
 obtain ⟨es, cl, hb, _⟩ := hm
 exact disk_step hg hb (by rcases hlf with h | h <;> simp [ofDisk, h]) hB hBw
theorem FlInv.put {w wr w' : World} {B p lm fm : Nat} {v : Value} {ms : List (Wr × Nat)} {S : SD} {bd : Nat} {fl ff : Int → Option Value} {i j : Nat} (h : FlInv w wr B p lm fm v ms S bd fl ff i j) (hws : S.waits = ms.map (·.1)) (hne : lm ≠ fm) (hlb : B ≤ lm) (hBw : B ≤ wr.heap.size)
  {x : Wr × Nat} (hx : ms[i]? = some x) (hm : MapIs w' lm fun k => if k = x.1.k then some (.slice (some ⟨x.2, 0, none⟩) 512 512) else fl k) (hg : wr.grownBy w' (some lm)) :
  FlInv w w' B p lm fm v ms S bd (fun k => if k = x.1.k then some (.slice (some ⟨x.2, 0, none⟩) 512 512) else fl k) ff (i + 1) j := by
 obtain ⟨h1, h2, h3, h4, h5, h6, h7, h8, h9, h10, h11⟩ := h
 have q := map_step hg h5 (fm := fm) (.inl rfl) hlb hBw
 refine ⟨map_others hg h5 h1, map_others hg h5 h2, owns_on h3 fun g c h => map_others hg h5 h, fun y hy => map_others hg h5 (h4 y hy), hm, h6.block (hg.block _ h6.lt fun e => hne (Option.some.inj e).symm), fun k => ?_, h8, h9, h10.trans q.1, h11.trans q.2⟩
 have hw : S.waits[i]? = some x.1 := by rw [hws, List.getElem?_map, hx]; rfl
 rw [List.take_add_one, hw, Option.toList_some, flushed_snoc]
 unfold putAt
 by_cases hk : k = x.1.k
 ·
  rw [if_pos hk, if_pos hk]
  exact .inr ⟨x.2, rfl, map_others hg h5 (h4 x (List.mem_of_getElem? hx))⟩
 ·
  rw [if_neg hk, if_neg hk]
  rcases h7 k with h | ⟨g, h, h'⟩
  ·
   exact .inl h
  ·
   exact .inr ⟨g, h, map_others hg h5 h'⟩
theorem FlInv.drop {w wr w' : World} {B p lm fm : Nat} {v : Value} {ms : List (Wr × Nat)} {S : SD} {bd : Nat} {fl ff : Int → Option Value} {i j : Nat} (h : FlInv w wr B p lm fm v ms S bd fl ff i j) (hws : S.waits = ms.map (·.1)) (hne : lm ≠ fm) (hfb : B ≤ fm) (hBw : B ≤ wr.heap.size)
  {x : Wr × Nat} (hx : ms[j]? = some x) (hm : MapIs w' fm fun k => if k = x.1.k then none else ff k) (hg : wr.grownBy w' (some fm)) :
  FlInv w w' B p lm fm v ms S bd fl (fun k => if k = x.1.k then none else ff k) i (j + 1) := by
 obtain ⟨h1, h2, h3, h4, h5, h6, h7, h8, h9, h10, h11⟩ := h
 have q := map_step hg h6 (lm := lm) (.inr rfl) hfb hBw
 refine ⟨map_others hg h6 h1, map_others hg h6 h2, owns_on h3 fun g c h => map_others hg h6 h, fun y hy => map_others hg h6 (h4 y hy), h5.block (hg.block _ h5.lt fun e => hne (Option.some.inj e)), hm, fun k => ?_, fun k hk => ?_, fun y hy => ?_, h10.trans q.1, h11.trans q.2⟩
 ·
  rcases h7 k with h | ⟨g, h, h'⟩
  ·
   exact .inl h
  ·
   exact .inr ⟨g, h, map_others hg h6 h'⟩
 ·
  show (if _ then _ else _) = _
  split
  ·
   rfl
  ·
   exact h8 k hk
 ·
  show (if _ then _ else _) = _
  split
  ·
   rfl
  ·
   rename_i hne
   have hw : S.waits[j]? = some x.1 := by rw [hws, List.getElem?_map, hx]; rfl
   rw [List.take_add_one, hw, Option.toList_some, List.mem_append, List.mem_singleton] at hy
   rcases hy with hy | rfl
   ·
    exact h9 y hy
   ·
    exact absurd rfl hne
theorem wcells_get {ms : List (Wr × Nat)} {i : Nat} {x : Wr × Nat} (h : ms[i]? = some x) : (wcells ms)[i * 2]? = some (.int .i64 x.1.k) ∧ (wcells ms)[i * 2 + 1]? = some (sl x.2) := by
 induction ms generalizing i with
 | nil => simp at h
 | cons y ms ih =>
  cases i with
  | zero =>
   simp at h
   subst h
   exact ⟨rfl, rfl⟩
  | succ i =>
   have h' := ih (by simpa using h)
   have e : wcells (y :: ms) = [.int .i64 y.1.k, sl y.2] ++ wcells ms := rfl
   rw [e]
   have e1 : (i + 1) * 2 = 2 + i * 2 := by omega
   rw [e1, List.getElem?_append_right (by simp), List.getElem?_append_right (by simp; omega)]
   have e2 : 2 + i * 2 - [Value.int IntKind.i64 y.1.k, sl y.2].length = i * 2 := by simp
   have e3 : 2 + i * 2 + 1 - [Value.int IntKind.i64 y.1.k, sl y.2].length = i * 2 + 1 := by simp; omega
   rw [e2, e3]
   exact h'
theorem own_at {w : World} {B : Nat} {v : Value} {ms : List (Wr × Nat)} (h : w.ownsRow B 140 2 v ms.length (wcells ms)) :
  (v = .slice none 0 0 ∧ ms = []) ∨ ∃ g cap, v = .slice (some ⟨g, 0, none⟩) ms.length cap ∧ B ≤ g ∧ g < w.heap.size ∧ ms.length ≤ cap ∧ cap ≤ 9223372036854775807 ∧
   (∀ i x, ms[i]? = some x → w.cell? ⟨g, i * 2, none⟩ = some (.int .i64 x.1.k) ∧ w.cell? ⟨g, i * 2 + 1, none⟩ = some (sl x.2)) := by
 rcases h.2 with ⟨rfl, h0⟩ | ⟨g, cap, cur, rfl, hb, hg, hnc, hcm, hcs, htake⟩
 ·
  exact .inl ⟨rfl, List.eq_nil_of_length_eq_zero h0⟩
 ·
  refine .inr ⟨g, cap, rfl, hb, (aL hg), hnc, by unfold maxLen at hcm; omega, fun i x hx => ?_⟩
  obtain ⟨h1, h2⟩ := wcells_get hx
  have a1 := h.cells (g := g) rfl (i * 2) _ h1
  have a2 := h.cells (g := g) rfl (i * 2 + 1) _ h2
  rw [Addr.add_lit, Nat.zero_add] at a1 a2
  exact ⟨a1, a2⟩
set_option maxHeartbeats 3200000 in
theorem flush1_any {w : World} {B p lm fm : Nat} {S : SD} (h : DiskAt w B p lm fm S) (hBw : B ≤ w.heap.size) {bd : Nat} (hbd : w.heap[bd]? = some (.cells #[.pointer (some ⟨p, 0, none⟩)] 23 (0, 0))) :
  Calls Tryz.prog 75 #[.pointer (some ⟨bd, 0, none⟩)] w fun e w' => e = .returned (.tuple #[]) ∧ DiskStep w w' B p lm fm { S with lasts := flushed S.lasts S.waits, waits := [] } := by
 obtain ⟨v, ms, fl, ff, h⟩ := h
 obtain ⟨v', n, c, hv, hn⟩ : ∃ v' n c, v = .slice v' n c ∧ n = ms.length := by
  rcases h.own.2 with ⟨rfl, h0⟩ | ⟨g, cap, cur, rfl, _⟩
  ·
   exact ⟨none, 0, 0, rfl, h0.symm⟩
  ·
   exact ⟨_, _, _, rfl, rfl⟩
 have H := Hq h
 have c2 : w.cell? ⟨p, 2, none⟩ = some (.slice v' n c) := by rw [jC h.blk, ← hv]; rfl
 have cb : w.cell? ⟨bd, 0, none⟩ = some (.pointer (some ⟨p, 0, none⟩)) := by rw [jC hbd]; rfl
 have I0 : Hid (FlInv w w B p lm fm v ms S bd fl ff 0 0) := Hq ⟨h.blk, hbd, h.own, h.sec, h.ml, h.mf, h.ll, fun k hk => (h.lf k).elim (fun h => h.1) (fun ⟨_, _, _, h2, _⟩ => by rw [hk] at h2; cases h2), by simp, Below.refl _ _, Keeps.refl _ _⟩
 have HN := Hq hn
 have HV := Hq hv
 have HBw := Hq hBw
 clear h hbd hn hv hBw
 go_enter Tryz.func75, Tryz.ntmps75
 go_wp2
 go_loopw [8] (fun x wr => ∃ i : Nat, x = .int .i64 i ∧ i ≤ n ∧ ∃ fl ff, FlInv w wr B p lm fm v ms S bd fl ff i i) (fun x _ => n - (intOf x).toNat)
 case atStart => exact ⟨0, rfl, by omega, _, _, I0.out⟩
 case round =>
  obtain ⟨i, rfl, hi, fl', ff', hI⟩ := hrel
  have HI := Hq hI
  by_cases hlt : i < n
  ·
   obtain ⟨x, hx⟩ : ∃ x, ms[i]? = some x := ⟨_, List.getElem?_eq_getElem (by have := HN.out; omega)⟩
   rcases own_at hI.own with ⟨_, h0⟩ | ⟨g, cap, hv, hg, hgl, hnc, hcap, hcell⟩
   ·
    rw [h0] at hx; simp at hx
   rw [HV.out] at hv
   simp only [Value.slice.injEq] at hv
   obtain ⟨rfl, hn2, rfl⟩ := hv
   obtain ⟨x1, x2⟩ := hcell i x hx
   have x3 : wr.cell? ⟨g, i * 2 + 1, none⟩ = some (.slice (some ⟨x.2, 0, none⟩) 512 512) := x2
   have hBr := Hq (Nat.le_trans HBw.out hI.keeps.size)
   have i1 : (wr.alloc (.cells #[.int .i64 x.1.k, .slice (some ⟨x.2, 0, none⟩) 512 512] 140)).heap[wr.heap.size]? = some (.cells #[.int .i64 x.1.k, .slice (some ⟨x.2, 0, none⟩) 512 512] 140 (0, 0)) := heap_alloc_new wr _
   have I1 : Hid (FlInv w (wr.alloc (.cells #[.int .i64 x.1.k, .slice (some ⟨x.2, 0, none⟩) 512 512] 140)) B p lm fm v ms S bd fl' ff' i i) := Hq (hI.on (sbox1 _ _) hBr.out)
   have I1k := Hq i1
   clear x2 hcell hI hn2 i1
   have hn63 : n ≤ 9223372036854775807 := by have := HN.out; omega
   have hi0 : (0 : Int) ≤ i := by omega
   have hi1 : (i : Int) < n := by omega
   have hX := Hq hx
   have HLT : LtN i n := ⟨hlt⟩
   clear hx
   go_wp2
   obtain ⟨w1, hw1⟩ : ∃ w1, w1 = (wr.alloc (.cells #[.int .i64 x.1.k, .slice (some ⟨x.2, 0, none⟩) 512 512] 140)) := ⟨_, rfl⟩
   have hs1 : wr.heap.size ≤ w1.heap.size := by rw [hw1]; simp
   rw [← hw1] at I1 I1k ⊢
   clear hw1 x1 x3 HI
   have d0 : w1.cell? ⟨wr.heap.size, 0, none⟩ = some (.int .i64 x.1.k) := by rw [jC I1k.out]; rfl
   have d1 : w1.cell? ⟨wr.heap.size, 1, none⟩ = some (.slice (some ⟨x.2, 0, none⟩) 512 512) := by rw [jC I1k.out]; rfl
   have p1 : w1.cell? ⟨p, 1, none⟩ = some (.map (some lm)) := by rw [jC I1.out.blk]; rfl
   have b1 : w1.cell? ⟨bd, 0, none⟩ = some (.pointer (some ⟨p, 0, none⟩)) := by rw [jC I1.out.bd]; rfl
   go_still_tail 8, (by kernel_rfl)
   change wpList _ _ _ _ _ w1.drew
   refine map_store rfl _ _ _ _ 3 33 rfl Tryz.underlying42 Tryz.underlying3 rfl (show MapIs w1.drew lm fl' from I1.out.ml) rfl rfl ?_
   intro w2 hm2 hg
   have hg2 : w1.grownBy w2 (some lm) := ⟨hg.os, hg.tape, hg.output, hg.size, hg.block⟩
   have hB1 := Nat.le_trans hBr.out hs1
   have I2 := Hq (I1.out.put H.out.ws H.out.ne H.out.lb hB1 hX.out hm2 hg2)
   have I2k := Hq (map_others hg2 I1.out.ml I1k.out)
   have hB2 := Hq (Nat.le_trans hB1 hg2.size)
   clear d0 d1 p1 b1 hm2 hg hg2 I1 I1k hs1 hB1
   have d0 : w2.cell? ⟨wr.heap.size, 0, none⟩ = some (.int .i64 x.1.k) := by rw [jC I2k.out]; rfl
   have p1 : w2.cell? ⟨p, 3, none⟩ = some (.map (some fm)) := by rw [jC I2.out.blk]; rfl
   have b1 : w2.cell? ⟨bd, 0, none⟩ = some (.pointer (some ⟨p, 0, none⟩)) := by rw [jC I2.out.bd]; rfl
   go_wp2
   go_still_tail 6, (by kernel_rfl)
   change wpList _ _ _ _ _ w2.drew
   refine map_drop rfl _ _ _ 3 33 _ rfl Tryz.underlying42 Tryz.underlying3 rfl (show MapIs w2.drew fm ff' from I2.out.mf) rfl ?_
   intro w3 hm3 hg
   have hg3 : w2.grownBy w3 (some fm) := ⟨hg.os, hg.tape, hg.output, hg.size, hg.block⟩
   have I3 := Hq (I2.out.drop H.out.ws H.out.ne H.out.fb hB2.out hX.out hm3 hg3)
   clear d0 p1 b1 hm3 hg hg3 I2 I2k
   go_wp2
   go_roundw
   case rel => exact ⟨i + 1, by go_num, by have := HLT.h; omega, _, _, I3.out⟩
   case measure => have := HLT.h; simp [intOf]; omega
  ·
   have hin : i = n := by omega
   subst hin
   have c3 : wr.cell? ⟨bd, 0, none⟩ = some (.pointer (some ⟨p, 0, none⟩)) := by rw [jC hI.bd]; rfl
   have c4 : wr.cell? ⟨p, 2, none⟩ = some v := by rw [jC hI.blk]; rfl
   have u4 : wr.frozen? ⟨p, 2, none⟩ = false := jU hI.blk _
   have hset := cell_set (i := 2) (v := .slice none 0 0) hI.blk
   have HS := Hq hset
   clear hI hset
   rw [HV.out] at c4
   go_wp2
   go_end0
   refine ⟨rfl, ?_⟩
   obtain ⟨hb, hg⟩ := HS.out
   have hI := HI.out
   have hk := H.out
   have q := disk_step (lm := lm) (fm := fm) hg hI.blk (ofDisk_own _ _) hk.hp (Nat.le_trans HBw.out hI.keeps.size)
   have e : S.waits.take i = S.waits := List.take_of_length_le (by rw [hk.ws, List.length_map, HN.out]; exact Nat.le_refl _)
   have oth : ∀ {j : Nat} {o : Obj}, wr.heap[j]? = some o → (∀ c f, o ≠ .cells c 78 f) → (wr.setCell ⟨p, 2, none⟩ (.slice none 0 0)).heap[j]? = some o := fun {j o} h hne => grown_at hg h (obj_ne h hI.blk (hne _ _))
   have mp : ∀ {b : Nat} {f : Int → Option Value}, MapIs wr b f → MapIs (wr.setCell ⟨p, 2, none⟩ (.slice none 0 0)) b f := fun {b f} hm => by
    obtain ⟨es, c, h1, h2⟩ := hm
    exact ⟨es, c, oth h1 (by simp), h2⟩
   have l1 := hI.ll
   have l2 := hI.f2
   rw [e] at l1 l2
   refine ⟨⟨.slice none 0 0, [], fl', ff', by simpa using hb, hk.hp, hk.lb, hk.fb, hk.ne, rfl, World.ownsRow_nil _ B _ _, by simp, mp hI.ml, mp hI.mf, ?_, ?_, ?_⟩, hI.below.trans q.1, hI.keeps.trans q.2⟩
   ·
    intro k
    rcases l1 k with h | ⟨g, h, h'⟩
    ·
     exact .inl h
    ·
     exact .inr ⟨g, h, oth h' (fun c f e => by cases e)⟩
   ·
    intro k
    refine .inl ⟨?_, rfl⟩
    by_cases hx : ∃ x ∈ S.waits, x.k = k
    ·
     obtain ⟨x, hx, rfl⟩ := hx
     exact l2 x hx
    ·
     exact hI.f1 k (found_none fun x hx' e => hx ⟨x, hx', e⟩)
   ·
    obtain ⟨k1, k2, k3, k4, k5, k6⟩ := hk.ok
    refine ⟨k1, k2, fun k => ?_, by simp, by show (0 : Int) ≤ S.ops; exact k6, k6⟩
    show (flushed S.lasts S.waits k).length = 512
    rw [read_flush]
    have hfl := hk.lf k
    rcases hfl with ⟨_, h⟩ | ⟨g, l, _, h, hs⟩
    ·
     rw [h]; exact k3 k
    ·
     rw [h]
     exact found_len k4 h
theorem DiskStep.of {w w1 w2 : World} {B p lm fm : Nat} {S : SD} (hb : Below B w w1) (hk : Keeps (ofDisk lm fm) w w1) (h : DiskStep w1 w2 B p lm fm S) : DiskStep w w2 B p lm fm S := ⟨h.disk, hb.trans h.below, hk.trans h.keeps⟩
theorem ofDisk_ptr {lm fm i : Nat} (c : Array Value) (f : Nat × Nat) : ofDisk lm fm i (.cells c 23 f) = false := by
 show ((23 : TypeId) == 78 || (23 : TypeId) == 140) = false
 decide
theorem DiskAt.cell {w : World} {B p lm fm : Nat} {S : SD} (h : DiskAt w B p lm fm S) : w.cell? ⟨p, 0, none⟩ = some (.int .i64 S.size) := by
 obtain ⟨v, ms, fl, ff, h⟩ := h
 rw [jC h.blk]
 rfl
theorem DiskAt.base {w : World} {B p lm fm : Nat} {S : SD} (h : DiskAt w B p lm fm S) : B ≤ w.heap.size := by
 obtain ⟨v, ms, fl, ff, h⟩ := h
 have := (aL h.blk)
 have := h.hp
 omega
theorem made_at {w : World} {B p lm fm : Nat} {S : SD} (h : DiskAt w B p lm fm S) : Calls Tryz.prog 71 #[.pointer (some ⟨p, 0, none⟩)] w fun e w' => e = .returned (.bool true) ∧ w = w' :=
 made_yes h.cell (by have := h.ok.s1; omega)
theorem has_at {w : World} {B p lm fm : Nat} {S : SD} (h : DiskAt w B p lm fm S) (k : Int) : Calls Tryz.prog 76 #[.pointer (some ⟨p, 0, none⟩), .int .i64 k] w fun e w' => e = .returned (.bool (decide (0 ≤ k) && decide (k < S.size))) ∧ w = w' :=
 has_any h.cell
set_option maxHeartbeats 800000 in
theorem flush_any {w : World} {B p lm fm : Nat} {S : SD} (h : DiskAt w B p lm fm S) (h0 : S.left ≠ 0) (hl : -1 ≤ S.left) (hu : S.left ≤ 9223372036854775807) (ho : S.ops ≤ 1000000000) :
  Calls Tryz.prog 38 #[.pointer (some ⟨p, 0, none⟩)] w fun e w' => e = .returned (.int .i64 0) ∧ DiskStep w w' B p lm fm S.flush := by
 have hB := h.base
 have HM := Hq fun w' hb => made_at (h.below (w' := w') hb)
 have HD : Hid (∀ w1, Below w.heap.size w w1 → w1.heap[w.heap.size]? = some (.cells #[.pointer (some ⟨p, 0, none⟩)] 23 (0, 0)) →
   Calls Tryz.prog 74 #[.pointer (some ⟨p, 0, none⟩), .func (.func 75) #[] #[.pointer (some ⟨w.heap.size, 0, none⟩)]] w1 fun e w' => e = .returned (.int .i64 0) ∧ DiskStep w w' B p lm fm S.flush) := Hq fun w1 hb hbx =>
  do_any (h.below hb) h0 hl hu ho (Nat.le_trans hB hb.size) (fun _ _ => rfl) (fun w2 hd2 hb2 hk2 => (flush1_any hd2 hd2.base (hk2.stay hbx (ofDisk_ptr _ _))).mono fun e w3 ⟨he, hs⟩ =>
   ⟨he, DiskStep.of ((hb.mono hB).trans hb2) ((Keeps.below hb).trans hk2) hs⟩)
 clear h h0 hl hu ho hB
 go_enter Tryz.func38, Tryz.ntmps38
 go_wp2_with fail
 refine (HM.out _ (sbox1 _ _)).mono ?_; rintro e w1 ⟨rfl, rfl⟩
 go_wp2_with fail
 refine (HD.out _ (sbox1 _ _) (heap_alloc_new w _)).mono ?_; rintro e w1 ⟨rfl, hs⟩
 have HS := Hq hs
 clear hs
 go_wp2
 go_ret
 exact ⟨rfl, HS.out⟩
end Go.Proofs.YtbbgdbnjmonbgaaGreatDoor

