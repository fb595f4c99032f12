/-
  sector.Write..
  sector.Write.
  sector.Read; Cut.
-/
import Derived.Test.YtbbgdbnjmonbgaaGreatDoorH00
import Derived.Test.YtbbgdbnjmonbgaaGreatDoorH02
import Derived.Deep.RegionHeld3
set_option linter.unusedVariables false
set_option maxRecDepth 100000
namespace Go.Proofs.YtbbgdbnjmonbgaaGreatDoor
open Go.RowKit
theorem ofDisk_int {lm fm i : Nat} (c : Array Value) (f : Nat × Nat) : ofDisk lm fm i (.cells c 3 f) = false := by
 show ((3 : TypeId) == 78 || (3 : TypeId) == 140) = false
 decide
theorem ofDisk_bytes {lm fm i : Nat} (c : Array Value) (f : Nat × Nat) : ofDisk lm fm i (.cells c 33 f) = false := by
 show ((33 : TypeId) == 78 || (33 : TypeId) == 140) = false
 decide
theorem pad_nil : pad [] = zeros 512 := rfl
structure WrBox (w : World) (p bk bb bd : Nat) (k : Int) (q : Option Addr) (n c : Nat) : Prop where
 k : w.heap[bk]? = some (.cells #[.int .i64 k] 3 (0, 0))
 b : w.heap[bb]? = some (.cells #[.slice q n c] 33 (0, 0))
 d : w.heap[bd]? = some (.cells #[.pointer (some ⟨p, 0, none⟩)] 23 (0, 0))
theorem WrBox.below {w w' : World} {p bk bb bd : Nat} {k : Int} {q : Option Addr} {n c : Nat} (h : WrBox w p bk bb bd k q n c) (hb : Below w.heap.size w w') : WrBox w' p bk bb bd k q n c := by
 obtain ⟨h1, h2, h3⟩ := h
 exact ⟨by rw [hb.block _ (aL h1)]; exact h1, by rw [hb.block _ (aL h2)]; exact h2, by rw [hb.block _ (aL h3)]; exact h3⟩
theorem WrBox.keeps {w w' : World} {lm fm p bk bb bd : Nat} {k : Int} {q : Option Addr} {n c : Nat} (h : WrBox w p bk bb bd k q n c) (hk : Keeps (ofDisk lm fm) w w') : WrBox w' p bk bb bd k q n c :=
 ⟨hk.stay h.k (ofDisk_int _ _), hk.stay h.b (ofDisk_bytes _ _), hk.stay h.d (ofDisk_ptr _ _)⟩
theorem info_w : (Tryz.prog.info? 140).map (fun i => (i.zero, i.size, i.bytes)) = some (some (.agg #[.int .i64 0, .slice none 0 0]), 2, 32) := by kernel_rfl
theorem step_write {w : World} {ops : Array Oper} {o : Oper} {a : Act} {K : Act → World → Prop} {Q : Exit → Act → World → Prop} {E : Prop} (hgd : o.guard = none) (s x : Operand)
  (ho : o.op = .call { callee := .builtin .append, args := #[s, x], argTypes := #[76, 76] })
  {B : Nat} {v : Value} {n : Nat} {xs : List Value} (hs : a.eval s = v) (hown : w.ownsRow B 140 2 v n xs) {b c : Nat} {y z : Value} (hx : a.eval x = .slice (some ⟨b, 0, none⟩) 1 c)
  (h0 : w.cell? ⟨b, 0, none⟩ = some y) (h1 : w.cell? ⟨b, 1, none⟩ = some z) (hy : y.oneCell' = true) (hz : z.oneCell' = true) (hlen : n ≤ 1000000000) (hB : B ≤ w.heap.size)
  (h : ∀ v' w', w'.ownsRow B 140 2 v' (n + 1) (xs ++ [y, z]) → w.grownBy w' v.ownBlock → K (a.put o.dst v') w') : if Region.wanted o (yielded ops a.tmps) = true then Oper.wp Tryz.prog o a w K Q else E := by
 have hw : Region.wanted o (yielded ops a.tmps) = true := by simp [Region.wanted, hgd]
 rw [if_pos hw]
 obtain ⟨i, hi, hz0, hz1, hz2⟩ := info_parts info_w
 obtain ⟨v', w', hr, r1, r2, _⟩ := run_append_own (P := Tryz.prog) w B 76 o.type 140 i (.agg #[.int .i64 0, .slice none 0 0]) 2 32 Tryz.underlying76 hi hz0 hz1 hz2 rfl (by decide) v n xs hown ⟨b, 0, none⟩ 1 c [y, z] rfl
  (fun j u hj => by
   rw [Addr.add_lit, Nat.zero_add]
   match j, hj with
   | 0, hj => cases hj; exact h0
   | 1, hj => cases hj; exact h1
   | j + 2, hj => simp at hj)
  (fun u hu => by
   simp only [List.mem_cons, List.not_mem_nil, or_false] at hu
   rcases hu with rfl | rfl
   ·
    exact hy
   ·
    exact hz) (by simp only [maxLen]; omega) (by omega) hB
 exact Lib.wp_append_run w s x 76 76 ho v _ hs hx v' w' hr (h v' w' r1 r2)
theorem sbox1d (w : World) (o : Obj) : Below w.heap.size w (w.alloc o).drew := (sbox1 w o).drew
theorem sbox1n {w w1 : World} {c : Array Value} {t : TypeId} (h : Below (w.alloc (.cells c t)).drew.heap.size (w.alloc (.cells c t)).drew w1) : w1.heap[w.heap.size]? = some (.cells c t (0, 0)) := by
 rw [h.block _ (by show w.heap.size < (w.alloc _).heap.size; simp)]
 exact heap_alloc_new w _
structure WrMid (w w3 : World) (p bk bb bd bw g : Nat) (k : Int) (q : Option Addr) (n c : Nat) (b : List UInt8) : Prop where
 below : Below w.heap.size w w3
 bx : WrBox w3 p bk bb bd k q n c
 box : w3.heap[bw]? = some (.cells #[.int .i64 k, .slice (some ⟨g, 0, none⟩) 512 512] 140 (0, 0))
 new : w.heap.size ≤ bw
 sec : Sec w3 g (pad b)
theorem mid_a {w w1 : World} {p bk bb bd g : Nat} {k : Int} {q : Option Addr} {n c : Nat} {b : List UInt8} (hx : WrBox w p bk bb bd k q n c) (hb : Below w.heap.size w w1) (hs : Sec w1 g (pad b)) :
  WrMid w (w1.alloc (.cells #[.int .i64 k, .slice (some ⟨g, 0, none⟩) 512 512] 140)) p bk bb bd w1.heap.size g k q n c b :=
 ⟨hb.alloc hb.size _, hx.below (hb.alloc hb.size _), heap_alloc_new w1 _, hb.size, hs.below (sbox1 _ _)⟩
theorem mid_b {w w1 : World} {p bk bb bd g : Nat} {k : Int} {q : Option Addr} {n c : Nat} {b : List UInt8} (hx : WrBox w p bk bb bd k q n c) (hb : Below w.heap.size w w1) (hs : Sec w1 g (pad b))
  (h0 : w1.heap[w.heap.size]? = some (.cells #[.int .i64 0, .slice none 0 0] 140 (0, 0))) :
  WrMid w ((w1.setCell ⟨w.heap.size, 0, none⟩ (.int .i64 k)).setCell ⟨w.heap.size, 1, none⟩ (.slice (some ⟨g, 0, none⟩) 512 512)) p bk bb bd w.heap.size g k q n c b := by
 obtain ⟨b1, g1⟩ := cell_set (i := 0) (v := .int .i64 k) h0
 obtain ⟨b2, g2⟩ := cell_set (i := 1) (v := .slice (some ⟨g, 0, none⟩) 512 512) b1
 have hb2 : Below w.heap.size w ((w1.setCell ⟨w.heap.size, 0, none⟩ (.int .i64 k)).setCell ⟨w.heap.size, 1, none⟩ (.slice (some ⟨g, 0, none⟩) 512 512)) := (hb.setCell (Nat.le_refl _) _).setCell (Nat.le_refl _) _
 refine ⟨hb2, hx.below hb2, by simpa using b2, Nat.le_refl _, grown_at (g1.trans g2) hs (obj_ne hs h0 ?_)⟩
 intro e
 simp at e
theorem WrMid.cells {w w3 : World} {p bk bb bd bw g : Nat} {k : Int} {q : Option Addr} {n c : Nat} {b : List UInt8} (h : WrMid w w3 p bk bb bd bw g k q n c b) {w' : World}
  (hd : w'.heap[bd]? = w3.heap[bd]?) (hw : w'.heap[bw]? = w3.heap[bw]?) : w'.cell? ⟨bd, 0, none⟩ = some (.pointer (some ⟨p, 0, none⟩)) ∧ w'.cell? ⟨bw, 0, none⟩ = some (.int .i64 k) ∧ w'.cell? ⟨bw, 1, none⟩ = some (.slice (some ⟨g, 0, none⟩) 512 512) := by
 rw [h.bx.d] at hd
 rw [h.box] at hw
 exact ⟨by rw [jC hd]; rfl, by rw [jC hw]; rfl, by rw [jC hw]; rfl⟩
theorem own_slice {w : World} {B : Nat} {v : Value} {n : Nat} {xs : List Value} (h : w.ownsRow B 140 2 v n xs) : ∃ q m c, v = .slice q m c := by
 rcases h.2 with ⟨rfl, _⟩ | ⟨g, cap, cur, rfl, _⟩
 ·
  exact ⟨_, _, _, rfl⟩
 ·
  exact ⟨_, _, _, rfl⟩
structure WrTail (w w5 : World) (B p lm fm : Nat) (v : Value) (ms : List (Wr × Nat)) (fl ff : Int → Option Value) (S : SD) (bk bb bd bw g : Nat) (k : Int) (q : Option Addr) (n c : Nat) (b : List UInt8) : Prop where
 blk : w5.heap[p]? = some (.cells #[.int .i64 S.size, .map (some lm), v, .map (some fm), .int .i64 S.left, .int .i64 S.ops] 78 (0, 0))
 own : w5.ownsRow B 140 2 v (ms.length + 1) (wcells ms ++ [.int .i64 k, .slice (some ⟨g, 0, none⟩) 512 512])
 sec : ∀ x ∈ ms, Sec w5 x.2 x.1.l
 ml : MapIs w5 lm fl
 mf : MapIs w5 fm ff
 ll : ∀ k, (fl k = none ∧ S.lasts k = zeros 512) ∨ ∃ g, fl k = some (sl g) ∧ Sec w5 g (S.lasts k)
 lf : ∀ k, (ff k = none ∧ found S.waits k = none) ∨ ∃ g l, ff k = some (sl g) ∧ found S.waits k = some l ∧ Sec w5 g l
 bx : WrBox w5 p bk bb bd k q n c
 box : w5.heap[bw]? = some (.cells #[.int .i64 k, .slice (some ⟨g, 0, none⟩) 512 512] 140 (0, 0))
 new : Sec w5 g (pad b)
 below : Below B w w5
 keeps : Keeps (ofDisk lm fm) w w5
theorem wr_tail {w w3 w4 : World} {B p lm fm : Nat} {v v' : Value} {ms : List (Wr × Nat)} {fl ff : Int → Option Value} {S : SD} {bk bb bd bw g : Nat} {k : Int} {q : Option Addr} {n c : Nat} {b : List UInt8}
  (hD : DiskIs w B p lm fm v ms fl ff S) (hBw : B ≤ w.heap.size) (hM : WrMid w w3 p bk bb bd bw g k q n c b) {o : Obj} (hg : (w3.alloc o).grownBy w4 v.ownBlock)
  (ho : w4.ownsRow B 140 2 v' (ms.length + 1) (wcells ms ++ [.int .i64 k, .slice (some ⟨g, 0, none⟩) 512 512])) :
  WrTail w (w4.setCell ⟨p, 2, none⟩ v') B p lm fm v' ms fl ff S bk bb bd bw g k q n c b ∧ w4.heap[p]? = some (.cells #[.int .i64 S.size, .map (some lm), v, .map (some fm), .int .i64 S.left, .int .i64 S.ops] 78 (0, 0)) ∧ w4.heap[bd]? = w3.heap[bd]? ∧ w4.heap[bw]? = w3.heap[bw]? := by
 have hA : Below w.heap.size w (w3.alloc o) := hM.below.alloc hM.below.size _
 have h3 : Below w3.heap.size w3 (w3.alloc o) := sbox1 w3 o
 obtain ⟨n1, n2, n3, n4, n5⟩ := hD.lm_ne
 -- what stands at the start, and is not the slice's block, stands in w4
 have st4 : ∀ {i : Nat} {ob : Obj}, w.heap[i]? = some ob → v.ownBlock ≠ some i → w4.heap[i]? = some ob := fun {i ob} h hne => by
  have hi := (aL h)
  rw [hg.block i (Nat.lt_of_lt_of_le hi hA.size) (fun e => hne e.symm), hA.block i hi]
  exact h
 have own_lt : ∀ i, v.ownBlock = some i → i < w.heap.size ∧ ∃ c, w.heap[i]? = some (.cells c 140 (0, 0)) := fun i hi => by
  rcases hD.own.2 with ⟨rfl, _⟩ | ⟨g, cap, cur, rfl, _, hg, _⟩
  ·
   simp [Value.ownBlock] at hi
  ·
   simp only [Value.ownBlock, Option.some.injEq] at hi
   subst hi
   exact ⟨(aL hg), _, hg⟩
 have q3 : Keeps (ofDisk lm fm) w (w3.alloc o) := Keeps.below hA
 have q4 : Keeps (ofDisk lm fm) (w3.alloc o) w4 := Keeps.grown hg fun i ob hi hob => by
  obtain ⟨hlt, c, hc⟩ := own_lt i hi
  rw [hA.block i hlt, hc] at hob
  cases hob
  exact ofDisk_write _ _
 have p4 := st4 hD.blk n3
 obtain ⟨p5, g5⟩ := cell_set (i := 2) (v := v') p4
 have B4 : B ≤ w4.heap.size := Nat.le_trans hBw (Nat.le_trans hA.size hg.size)
 have q5 := disk_step (lm := lm) (fm := fm) g5 p4 (ofDisk_own _ _) hD.hp B4
 have b4 : Below B w w4 := (hA.mono hBw).grown hg (Nat.le_trans hBw hA.size) fun i hi => by
  rcases hD.own.2 with ⟨rfl, _⟩ | ⟨g, cap, cur, rfl, hgB, _⟩
  ·
   simp [Value.ownBlock] at hi
  ·
   simp only [Value.ownBlock, Option.some.injEq] at hi
   omega
 have hk : Keeps (ofDisk lm fm) w (w4.setCell ⟨p, 2, none⟩ v') := (q3.trans q4).trans q5.2
 have hk3 : Keeps (ofDisk lm fm) w3 (w4.setCell ⟨p, 2, none⟩ v') := ((Keeps.below h3).trans q4).trans q5.2
 have mp : ∀ {m : Nat} {f : Int → Option Value}, MapIs w m f → v.ownBlock ≠ some m → MapIs (w4.setCell ⟨p, 2, none⟩ v') m f := fun {m f} hm hne => by
  obtain ⟨es, cl, h1, h2⟩ := hm
  exact ⟨es, cl, grown_at g5 (st4 h1 hne) (obj_ne (st4 h1 hne) p4 (by simp)), h2⟩
 have sc : ∀ {g : Nat} {l : List UInt8}, Sec w g l → Sec (w4.setCell ⟨p, 2, none⟩ v') g l := fun {g l} h => hk.stay h (ofDisk_u8 _ _)
 have bw4 : w4.heap[bw]? = w3.heap[bw]? := by
  have hlt := (aL hM.box)
  rw [hg.block bw (Nat.lt_of_lt_of_le hlt h3.size) (fun e => by have := (own_lt bw e.symm).1; have := hM.new; omega), h3.block bw hlt]
 have bd4 : w4.heap[bd]? = w3.heap[bd]? := by
  rw [((Keeps.below h3).trans q4).stay hM.bx.d (ofDisk_ptr _ _), hM.bx.d]
 refine ⟨⟨by simpa using p5, owns_on ho fun i c h => grown_at g5 h (obj_ne h p4 ?_), fun x hx => sc (hD.sec x hx), mp hD.ml n4, mp hD.mf n5, fun k => ?_, fun k => ?_, hM.bx.keeps hk3, ?_, hk3.stay hM.sec (ofDisk_u8 _ _), b4.trans q5.1, hk⟩, p4, bd4, bw4⟩
 ·
  intro e
  simp at e
 ·
  rcases hD.ll k with h | ⟨g, h, h'⟩
  ·
   exact .inl h
  ·
   exact .inr ⟨g, h, sc h'⟩
 ·
  rcases hD.lf k with h | ⟨g, l, h, h1, h'⟩
  ·
   exact .inl h
  ·
   exact .inr ⟨g, l, h, h1, sc h'⟩
 ·
  have h := bw4.trans hM.box
  refine grown_at g5 h (obj_ne h p4 ?_)
  intro e
  simp at e
theorem wr_done {w w5 w6 : World} {B p lm fm : Nat} {v0 v : Value} {ms : List (Wr × Nat)} {fl ff : Int → Option Value} {S : SD} {bk bb bd bw g : Nat} {k : Int} {q : Option Addr} {n c : Nat} {b : List UInt8}
  (hD : DiskIs w B p lm fm v0 ms fl ff S) (hBw : B ≤ w.heap.size) (hT : WrTail w w5 B p lm fm v ms fl ff S bk bb bd bw g k q n c b) (h5 : b.length ≤ 512) (hk0 : 0 ≤ k) (hk1 : k < S.size) (hwl : S.waits.length < S.ops)
  (hg : w5.grownBy w6 (some fm)) (hm : MapIs w6 fm fun x => if x = k then some (.slice (some ⟨g, 0, none⟩) 512 512) else ff x) :
  DiskStep w w6 B p lm fm { S with waits := S.waits ++ [⟨k, pad b⟩] } := by
 obtain ⟨h1, h2, h3, h4, h5', h6, h7, h8, h9, h10, h11, h12⟩ := hT
 have B5 : B ≤ w5.heap.size := Nat.le_trans hBw h12.size
 have qs := map_step hg h5' (lm := lm) (.inr rfl) hD.fb B5
 have sc : ∀ {g : Nat} {l : List UInt8}, Sec w5 g l → Sec w6 g l := fun {g l} h => map_others hg h5' h
 refine ⟨⟨v, ms ++ [(⟨k, pad b⟩, g)], fl, _, map_others hg h5' h1, hD.hp, hD.lb, hD.fb, hD.ne, by rw [List.map_append, ← hD.ws]; rfl, ?_, ?_, h4.block (hg.block _ h4.lt fun e => hD.ne (Option.some.inj e)), hm, fun x => ?_, fun x => ?_, ?_⟩, h11.trans qs.1, h12.trans qs.2⟩
 ·
  have e : wcells (ms ++ [(⟨k, pad b⟩, g)]) = wcells ms ++ [.int .i64 k, .slice (some ⟨g, 0, none⟩) 512 512] := by simp [wcells]
  rw [e, List.length_append]
  exact owns_on h2 fun i c h => map_others hg h5' h
 ·
  intro x hx
  rcases List.mem_append.1 hx with hx | hx
  ·
   exact sc (h3 x hx)
  ·
   obtain rfl := List.mem_singleton.1 hx
   exact sc h10
 ·
  rcases h6 x with h | ⟨g, h, h'⟩
  ·
   exact .inl h
  ·
   exact .inr ⟨g, h, sc h'⟩
 ·
  show (_ ∧ found (S.waits ++ [⟨k, pad b⟩]) x = none) ∨ ∃ g l, _ ∧ found (S.waits ++ [⟨k, pad b⟩]) x = some l ∧ _
  rw [found_snoc]
  unfold putAt
  by_cases hx : x = k
  ·
   rw [if_pos hx, if_pos hx]
   exact .inr ⟨g, pad b, rfl, rfl, sc h10⟩
  ·
   rw [if_neg hx, if_neg hx]
   rcases h7 x with h | ⟨g, l, h, h1, h'⟩
   ·
    exact .inl h
   ·
    exact .inr ⟨g, l, h, h1, sc h'⟩
 ·
  obtain ⟨k1, k2, k3, k4, k5, k6⟩ := hD.ok
  refine ⟨k1, k2, k3, fun x hx => ?_, ?_, k6⟩
  ·
   rcases List.mem_append.1 hx with hx | hx
   ·
    exact k4 x hx
   ·
    obtain rfl := List.mem_singleton.1 hx
    exact ⟨pad_length h5, hk0, hk1⟩
  ·
   show ((S.waits ++ [_]).length : Int) ≤ S.ops
   rw [List.length_append]
   simp only [List.length_singleton]
   omega
set_option maxHeartbeats 3200000 in
theorem write1_any {w : World} {B p lm fm : Nat} {S : SD} (h : DiskAt w B p lm fm S) (hBw : B ≤ w.heap.size) {bk bb bd : Nat} {k : Int} {q : Option Addr} {n c : Nat} {b : List UInt8} (hbx : WrBox w p bk bb bd k q n c)
  (hb : Bs w q b) (hn : n = b.length) (h5 : b.length ≤ 512) (hk0 : 0 ≤ k) (hk1 : k < S.size) (hwl : S.waits.length < S.ops) (ho : S.ops ≤ 1000000000) :
  Calls Tryz.prog 109 #[.pointer (some ⟨bk, 0, none⟩), .pointer (some ⟨bb, 0, none⟩), .pointer (some ⟨bd, 0, none⟩)] w fun e w' => e = .returned (.tuple #[]) ∧ DiskStep w w' B p lm fm { S with waits := S.waits ++ [⟨k, pad b⟩] } := by
 have HL : Hid (∀ w', Below w.heap.size w w' → Calls Tryz.prog 77 #[.slice none 0 0, .slice q n c] w' (LaidPost w' (pad b))) := Hq fun w' hb' => by
  have h := laid_any (w := w') (l := []) (c := 0) (d := c) (Bs.nil _ none) rfl (by simp) (hb.below hb') hn h5
  rwa [pad_nil, ← pad_over] at h
 have HKC : Hid (∀ w', Below w.heap.size w w' → w'.cell? ⟨bk, 0, none⟩ = some (.int .i64 k) ∧ w'.cell? ⟨bb, 0, none⟩ = some (.slice q n c)) := Hq fun w' hb' => by
  have := hbx.below hb'
  exact ⟨by rw [jC this.k]; rfl, by rw [jC this.b]; rfl⟩
 have H := Hq h
 have HX := Hq hbx
 clear h hb hn hbx
 go_enter Tryz.func109, Tryz.ntmps109
 go_wp2_with fail
 go_region_held3 (fun w' => w'.cell? ⟨bk, 0, none⟩ = some (.int .i64 k) ∧ w'.cell? ⟨bb, 0, none⟩ = some (.slice q n c))
  (first | exact HKC.out _ (Below.refl _ _).drew | exact HKC.out _ HB1.out | exact HKC.out _ ((Below.refl _ _).drew.alloc (Nat.le_refl _) _) | exact HKC.out _ ((Below.refl _ _).alloc (Nat.le_refl _) _).drew | exact HKC.out _ (HB1.out.alloc HB1.out.size _) | exact HKC.out _ (((HB1.out.alloc HB1.out.size _).setCell HB1.out.size _).setCell HB1.out.size _) | exact HKC.out _ ((HB1.out.setCell (Nat.le_refl _) _).setCell (Nat.le_refl _) _))
  (first
   | (go_at_call 77; refine (HL.out _ (Below.refl _ _).drew).mono ?_; rintro e w1 ⟨g, rfl, hg, hs, hb1⟩; have HB1 : Hid (Below w.heap.size w w1) := Hq ((Below.refl _ _).drew.trans hb1); have HS1 := Hq hs; have HG1 := Hq hg; clear hb1 hs hg)
   | (go_at_call 77; refine (HL.out _ (sbox1d w _)).mono ?_; rintro e w1 ⟨g, rfl, hg, hs, hb1⟩; have HB1 : Hid (Below w.heap.size w w1) := Hq ((sbox1d w _).trans (hb1.mono (sbox1d w _).size)); have HS1 := Hq hs; have HG1 := Hq hg; have HBX := Hq (sbox1n hb1); have c0 : w1.cell? ⟨w.heap.size, 0, none⟩ = some (.int .i64 0) := (jC HBX.out 0).trans rfl; have c1 : w1.cell? ⟨w.heap.size, 1, none⟩ = some (.slice none 0 0) := (jC HBX.out 1).trans rfl; have f0 : w1.frozen? ⟨w.heap.size, 0, none⟩ = false := jU HBX.out _; have f1 : w1.frozen? ⟨w.heap.size, 1, none⟩ = false := jU HBX.out _; clear hb1 hs hg))
 all_goals first
  | (have hM := Hq (mid_b HX.out HB1.out HS1.out HBX.out); clear c0 c1 f0 f1 HBX; generalize ((w1.setCell ⟨w.heap.size, 0, none⟩ (.int .i64 k)).setCell ⟨w.heap.size, 1, none⟩ (.slice (some ⟨g, 0, none⟩) 512 512)) = w3 at hM ⊢; obtain ⟨bw, hbw⟩ : ∃ bw, bw = w.heap.size := ⟨_, rfl⟩; rw [← hbw] at hM ⊢; clear hbw)
  | (have hM := Hq (mid_a HX.out HB1.out HS1.out); generalize (w1.alloc (.cells #[.int .i64 k, .slice (some ⟨g, 0, none⟩) 512 512] 140)) = w3 at hM ⊢; obtain ⟨bw, hbw⟩ : ∃ bw, bw = w1.heap.size := ⟨_, rfl⟩; rw [← hbw] at hM ⊢; clear hbw)
 all_goals
  clear HL HKC HX HB1 HS1 HG1
  obtain ⟨v, ms, fl, ff, hD⟩ := H.out
  have HD := Hq hD
  have HO := Hq (hD.below hM.out.below).own
  have hp2 : w3.cell? ⟨p, 2, none⟩ = some v := by rw [jC (hD.below hM.out.below).blk]; rfl
  have hl : ms.length ≤ 1000000000 := by have := hD.ok.n; rw [hD.ws, List.length_map] at this; omega
  have HC : Hid (∀ w' : World, w'.heap[bd]? = w3.heap[bd]? → w'.heap[bw]? = w3.heap[bw]? → w'.cell? ⟨bd, 0, none⟩ = some (.pointer (some ⟨p, 0, none⟩)) ∧ w'.cell? ⟨bw, 0, none⟩ = some (.int .i64 k) ∧ w'.cell? ⟨bw, 1, none⟩ = some (.slice (some ⟨g, 0, none⟩) 512 512)) := Hq fun w' h1 h2 => hM.out.cells h1 h2
  have HCB : Hid (∀ w' : World, Below w3.heap.size w3 w' → w'.cell? ⟨bd, 0, none⟩ = some (.pointer (some ⟨p, 0, none⟩)) ∧ w'.cell? ⟨bw, 0, none⟩ = some (.int .i64 k) ∧ w'.cell? ⟨bw, 1, none⟩ = some (.slice (some ⟨g, 0, none⟩) 512 512)) := Hq fun w' h => HC.out w' (h.block _ (aL hM.out.bx.d)) (h.block _ (aL hM.out.box))
  have HB3 := Hq (Nat.le_trans hBw hM.out.below.size)
  clear hD
  -- REGION
  have hp3 : (w3.alloc (.cells #[.int .i64 k, .slice (some ⟨g, 0, none⟩) 512 512] 140)).cell? ⟨p, 2, none⟩ = some v := ((sbox1 w3 _).cell (p := ⟨p, 2, none⟩) (World.block_lt_of_cell? _ _ hp2)).trans hp2
  go_wp2_with fail
  refine wp_region_held_drew (S := (fun w' => w'.cell? ⟨bd, 0, none⟩ = some (.pointer (some ⟨p, 0, none⟩)) ∧ w'.cell? ⟨bw, 0, none⟩ = some (.int .i64 k) ∧ w'.cell? ⟨bw, 1, none⟩ = some (.slice (some ⟨g, 0, none⟩) 512 512))) (by kernel_rfl) (HCB.out _ (Below.refl _ _).drew) (fun hHeld => ?_)
  refine wpAnyH_take (i := 0) (v := ?_) rfl (by kernel_rfl) (by kernel_rfl) (by kernel_rfl) (fun _ _ _ h => h) (Or.inl ⟨by rfl, ?_⟩) (by assumption) ?_
  rotate_left
  ·
   intro w hSw; (try dsimp only at hSw); go_simp; try with_reducible rfl
  simp only [Act.put, List.getElem_toArray, List.getElem_cons_zero, List.setIfInBounds_toArray, List.set_cons_zero, List.set_cons_succ]
  refine wpAnyH_take (i := 1) (v := ?_) rfl (by kernel_rfl) (by kernel_rfl) (by kernel_rfl) (fun _ _ _ h => h) (Or.inl ⟨by rfl, ?_⟩) (by assumption) ?_
  rotate_left
  ·
   intro w hSw; (try dsimp only at hSw); go_simp; try with_reducible rfl
  simp only [Act.put, zA, zB, zC, zD, zE, zF]
  refine wpAnyH_take (i := 2) (v := ?_) rfl (by kernel_rfl) (by kernel_rfl) (by kernel_rfl) (fun _ _ _ h => h) (Or.inl ⟨by rfl, ?_⟩) (by assumption) ?_
  rotate_left
  ·
   intro w hSw; (try dsimp only at hSw); go_simp; try with_reducible rfl
  simp only [Act.put, zA, zB, zC, zD, zE, zF]
  refine wpAnyH_take (i := 3) (v := ?_) rfl (by kernel_rfl) (by kernel_rfl) (by kernel_rfl) (fun _ _ _ h => h) (Or.inl ⟨by rfl, ?_⟩) (by assumption) ?_
  rotate_left
  ·
   intro w hSw; (try dsimp only at hSw); go_simp; try with_reducible rfl
  simp only [Act.put, zA, zB, zC, zD, zE, zF]
  refine wpAnyH_take (i := 5) (v := ?_) rfl (by kernel_rfl) (by kernel_rfl) (by kernel_rfl) (fun _ _ _ h => h) (Or.inl ⟨by rfl, ?_⟩) (by assumption) ?_
  rotate_left
  ·
   intro w hSw; (try dsimp only at hSw); go_simp; try with_reducible rfl
  simp only [Act.put, zA, zB, zC, zD, zE, zF]
  refine wpAnyH_ready (rs := [4, 6]) (by kernel_rfl) (by simp) ?_
  refine AllReadyH.cons rfl (fun K hK => ?_) (AllReadyH.cons rfl (fun K hK => ?_) AllReadyH.nil)
  ·
   go_simp
   refine hK.out _ _ (HCB.out _ (Below.refl _ _).drew) (fun hHeld => ?_)
   clear hK K
   try simp only [Act.put, zA, zB, zC, zD, zE, zF]
   refine wpAnyH_ready (rs := [6]) (by kernel_rfl) (by simp) ?_
   refine AllReadyH.cons rfl (fun K hK => ?_) AllReadyH.nil
   go_simp
   refine hK.out _ _ (by first | exact HCB.out _ ((Below.refl _ _).drew.alloc (Nat.le_refl _) _) | exact HCB.out _ (sbox1 _ _).drew) (fun hHeld => ?_)
   clear hK K
   try simp only [Act.put, zA, zB, zC, zD, zE, zF]
   refine wpAnyH_ready (rs := [7]) (by kernel_rfl) (by simp) ?_
   refine AllReadyH.cons rfl (fun K hK => ?_) AllReadyH.nil
   refine step_write rfl (.tmp 12) (.tmp 14) rfl rfl (v := v) (World.ownsRow.alloc HO.out _) rfl ((jC (heap_alloc_new w3 _) 0).trans rfl) ((jC (heap_alloc_new w3 _) 1).trans rfl) rfl rfl hl (Nat.le_trans HB3.out (sbox1 _ _).size) ?_
   intro v' w4 hw hg
   obtain ⟨vp, vn, vc, rfl⟩ := own_slice hw
   have HT := Hq (wr_tail HD.out hBw hM.out (o := .cells #[.int .i64 k, .slice (some ⟨g, 0, none⟩) 512 512] 140) ⟨hg.os, hg.tape, hg.output, hg.size, hg.block⟩ hw)
   have u4 : w4.frozen? ⟨p, 2, none⟩ = false := jU HT.out.2.1 _
   have u5 : w4.cell? ⟨p, 2, none⟩ = some v := (jC HT.out.2.1 2).trans rfl
   clear hw hg
   refine hK.out _ _ (HC.out w4 HT.out.2.2.1 HT.out.2.2.2) (fun hHeld => ?_)
   clear hK K
   try simp only [Act.put, zA, zB, zC, zD, zE, zF]
   refine wpAnyH_take (i := 8) (v := ?_) rfl (by kernel_rfl) (by kernel_rfl) (by kernel_rfl) (fun _ _ _ h => h) (Or.inl ⟨by rfl, ?_⟩) (by assumption) ?_
   rotate_left
   ·
    intro w hSw; (try dsimp only at hSw); go_simp; try with_reducible rfl
   simp only [Act.put, zA, zB, zC, zD, zE, zF]
   refine wpAnyH_take (i := 9) (v := ?_) rfl (by kernel_rfl) (by kernel_rfl) (by kernel_rfl) (fun _ _ _ h => h) (Or.inl ⟨by rfl, ?_⟩) (by assumption) ?_
   rotate_left
   ·
    intro w hSw; (try dsimp only at hSw); go_simp; try with_reducible rfl
   simp only [Act.put, zA, zB, zC, zD, zE, zF]
   refine wpAnyH_ready (rs := [10]) (by kernel_rfl) (by simp) ?_
   refine AllReadyH.cons rfl (fun K hK => ?_) AllReadyH.nil
   go_simp
   refine hK.out _ _ (HC.out _ (HT.out.1.bx.d.trans hM.out.bx.d.symm) (HT.out.1.box.trans hM.out.box.symm)) (fun hHeld => ?_)
   clear hK K
   try simp only [Act.put, zA, zB, zC, zD, zE, zF]
   refine wpAnyH_done (by kernel_rfl) ?_ _
   have HT1 := Hq HT.out.1
   clear hHeld u4 u5 HT
   generalize (w4.setCell ⟨p, 2, none⟩ (.slice vp vn vc)) = w5 at HT1 ⊢
   clear hp2 hp3 hl HC HCB HO
   have d0 : w5.cell? ⟨bk, 0, none⟩ = some (.int .i64 k) := (jC HT1.out.bx.k 0).trans rfl
   have d1 : w5.cell? ⟨bw, 1, none⟩ = some (.slice (some ⟨g, 0, none⟩) 512 512) := (jC HT1.out.box 1).trans rfl
   have d2 : w5.cell? ⟨bd, 0, none⟩ = some (.pointer (some ⟨p, 0, none⟩)) := (jC HT1.out.bx.d 0).trans rfl
   have d3 : w5.cell? ⟨p, 3, none⟩ = some (.map (some fm)) := (jC HT1.out.blk 3).trans rfl
   go_wp2_with fail
   go_still_tail 7, (by kernel_rfl)
   change wpList _ _ _ _ _ w5.drew
   refine map_store rfl _ _ _ _ 3 33 rfl Tryz.underlying42 Tryz.underlying3 rfl (show MapIs w5.drew fm ff from HT1.out.mf) rfl rfl ?_
   intro w6 hm6 hg
   have HF := Hq (wr_done HD.out hBw HT1.out h5 hk0 hk1 hwl ⟨hg.os, hg.tape, hg.output, hg.size, hg.block⟩ hm6)
   clear d0 d1 d2 d3 hm6 hg HT1
   go_wp2
   go_end0
   exact ⟨rfl, HF.out⟩
  ·
   go_simp
   refine hK.out _ _ (by first | exact HCB.out _ ((Below.refl _ _).drew.alloc (Nat.le_refl _) _) | exact HCB.out _ (sbox1 _ _).drew) (fun hHeld => ?_)
   clear hK K
   try simp only [Act.put, zA, zB, zC, zD, zE, zF]
   refine wpAnyH_ready (rs := [4]) (by kernel_rfl) (by simp) ?_
   refine AllReadyH.cons rfl (fun K hK => ?_) AllReadyH.nil
   go_simp
   refine hK.out _ _ (hHeld) (fun hHeld => ?_)
   clear hK K
   try simp only [Act.put, zA, zB, zC, zD, zE, zF]
   refine wpAnyH_ready (rs := [7]) (by kernel_rfl) (by simp) ?_
   refine AllReadyH.cons rfl (fun K hK => ?_) AllReadyH.nil
   refine step_write rfl (.tmp 12) (.tmp 14) rfl rfl (v := v) (World.ownsRow.alloc HO.out _) rfl ((jC (heap_alloc_new w3 _) 0).trans rfl) ((jC (heap_alloc_new w3 _) 1).trans rfl) rfl rfl hl (Nat.le_trans HB3.out (sbox1 _ _).size) ?_
   intro v' w4 hw hg
   obtain ⟨vp, vn, vc, rfl⟩ := own_slice hw
   have HT := Hq (wr_tail HD.out hBw hM.out (o := .cells #[.int .i64 k, .slice (some ⟨g, 0, none⟩) 512 512] 140) ⟨hg.os, hg.tape, hg.output, hg.size, hg.block⟩ hw)
   have u4 : w4.frozen? ⟨p, 2, none⟩ = false := jU HT.out.2.1 _
   have u5 : w4.cell? ⟨p, 2, none⟩ = some v := (jC HT.out.2.1 2).trans rfl
   clear hw hg
   refine hK.out _ _ (HC.out w4 HT.out.2.2.1 HT.out.2.2.2) (fun hHeld => ?_)
   clear hK K
   try simp only [Act.put, zA, zB, zC, zD, zE, zF]
   refine wpAnyH_take (i := 8) (v := ?_) rfl (by kernel_rfl) (by kernel_rfl) (by kernel_rfl) (fun _ _ _ h => h) (Or.inl ⟨by rfl, ?_⟩) (by assumption) ?_
   rotate_left
   ·
    intro w hSw; (try dsimp only at hSw); go_simp; try with_reducible rfl
   simp only [Act.put, zA, zB, zC, zD, zE, zF]
   refine wpAnyH_take (i := 9) (v := ?_) rfl (by kernel_rfl) (by kernel_rfl) (by kernel_rfl) (fun _ _ _ h => h) (Or.inl ⟨by rfl, ?_⟩) (by assumption) ?_
   rotate_left
   ·
    intro w hSw; (try dsimp only at hSw); go_simp; try with_reducible rfl
   simp only [Act.put, zA, zB, zC, zD, zE, zF]
   refine wpAnyH_ready (rs := [10]) (by kernel_rfl) (by simp) ?_
   refine AllReadyH.cons rfl (fun K hK => ?_) AllReadyH.nil
   go_simp
   refine hK.out _ _ (HC.out _ (HT.out.1.bx.d.trans hM.out.bx.d.symm) (HT.out.1.box.trans hM.out.box.symm)) (fun hHeld => ?_)
   clear hK K
   try simp only [Act.put, zA, zB, zC, zD, zE, zF]
   refine wpAnyH_done (by kernel_rfl) ?_ _
   have HT1 := Hq HT.out.1
   clear hHeld u4 u5 HT
   generalize (w4.setCell ⟨p, 2, none⟩ (.slice vp vn vc)) = w5 at HT1 ⊢
   clear hp2 hp3 hl HC HCB HO
   have d0 : w5.cell? ⟨bk, 0, none⟩ = some (.int .i64 k) := (jC HT1.out.bx.k 0).trans rfl
   have d1 : w5.cell? ⟨bw, 1, none⟩ = some (.slice (some ⟨g, 0, none⟩) 512 512) := (jC HT1.out.box 1).trans rfl
   have d2 : w5.cell? ⟨bd, 0, none⟩ = some (.pointer (some ⟨p, 0, none⟩)) := (jC HT1.out.bx.d 0).trans rfl
   have d3 : w5.cell? ⟨p, 3, none⟩ = some (.map (some fm)) := (jC HT1.out.blk 3).trans rfl
   go_wp2_with fail
   go_still_tail 7, (by kernel_rfl)
   change wpList _ _ _ _ _ w5.drew
   refine map_store rfl _ _ _ _ 3 33 rfl Tryz.underlying42 Tryz.underlying3 rfl (show MapIs w5.drew fm ff from HT1.out.mf) rfl rfl ?_
   intro w6 hm6 hg
   have HF := Hq (wr_done HD.out hBw HT1.out h5 hk0 hk1 hwl ⟨hg.os, hg.tape, hg.output, hg.size, hg.block⟩ hm6)
   clear d0 d1 d2 d3 hm6 hg HT1
   go_wp2
   go_end0
   exact ⟨rfl, HF.out⟩
  -- DONE
end Go.Proofs.YtbbgdbnjmonbgaaGreatDoor

set_option linter.unusedVariables false
set_option maxRecDepth 100000
namespace Go.Proofs.YtbbgdbnjmonbgaaGreatDoor
open Go.RowKit
def Bytes (w : World) (B lm fm : Nat) (q : Option Addr) (b : List UInt8) : Prop := ∀ w', Below B w w' → Keeps (ofDisk lm fm) w w' → Bs w' q b
theorem Bytes.nil (w : World) (B lm fm : Nat) (q : Option Addr) : Bytes w B lm fm q [] := fun _ _ _ => Bs.nil _ _
theorem Bytes.sec {w : World} {B lm fm g : Nat} {b : List UInt8} (h : Sec w g b) : Bytes w B lm fm (some ⟨g, 0, none⟩) b := fun w' _ h2 => Sec.bs (h2.stay h (ofDisk_u8 _ _))
theorem wr_boxes (w : World) (p : Nat) (k : Int) (q : Option Addr) (n c : Nat) :
  WrBox (((w.alloc (.cells #[.pointer (some ⟨p, 0, none⟩)] 23)).alloc (.cells #[.int .i64 k] 3)).alloc (.cells #[.slice q n c] 33)) p (w.heap.size + 1) (w.heap.size + 2) w.heap.size k q n c := by
 obtain ⟨h1, h2, h3, _⟩ := sbox3_heap w (.cells #[.pointer (some ⟨p, 0, none⟩)] 23) (.cells #[.int .i64 k] 3) (.cells #[.slice q n c] 33)
 exact ⟨h2, h3, h1⟩
set_option maxHeartbeats 800000 in
theorem write_any {w : World} {B p lm fm : Nat} {S : SD} (h : DiskAt w B p lm fm S) (h0 : S.left ≠ 0) (hl : -1 ≤ S.left) (hu : S.left ≤ 9223372036854775807) (ho : S.ops ≤ 999999999) {k : Int} (hk0 : 0 ≤ k) (hk1 : k < S.size)
  {q : Option Addr} {n : Nat} (c : Nat) {b : List UInt8} (hb : Bytes w B lm fm q b) (hn : n = b.length) (h5 : b.length ≤ 512) :
  Calls Tryz.prog 73 #[.pointer (some ⟨p, 0, none⟩), .int .i64 k, .slice q n c] w fun e w' => e = .returned (.int .i64 0) ∧ DiskStep w w' B p lm fm (S.write k b) := by
 have hB := h.base
 have HM := Hq fun w' hb => made_at (h.below (w' := w') hb)
 have HH : Hid (∀ w', Below w.heap.size w w' → Calls Tryz.prog 76 #[.pointer (some ⟨p, 0, none⟩), .int .i64 k] w' fun e w2 => e = .returned (.bool true) ∧ w' = w2) := Hq fun w' hb => (has_at (h.below (w' := w') hb) k).mono fun e w2 ⟨he, hw⟩ => ⟨by rw [he, decide_eq_true hk0, decide_eq_true hk1]; rfl, hw⟩
 have HD : Hid (∀ w1, Below w.heap.size w w1 → WrBox w1 p (w.heap.size + 1) (w.heap.size + 2) w.heap.size k q n c →
   Calls Tryz.prog 74 #[.pointer (some ⟨p, 0, none⟩), .func (.func 109) #[] #[.pointer (some ⟨w.heap.size + 1, 0, none⟩), .pointer (some ⟨w.heap.size + 2, 0, none⟩), .pointer (some ⟨w.heap.size, 0, none⟩)]] w1 fun e w' => e = .returned (.int .i64 0) ∧ DiskStep w w' B p lm fm (S.write k b)) := Hq fun w1 hb1 hbx =>
  do_any (h.below hb1) h0 hl hu (by omega) (Nat.le_trans hB hb1.size) (fun _ _ => rfl) (fun w2 hd2 hb2 hk2 => (write1_any hd2 hd2.base (hbx.keeps hk2) (hb w2 ((hb1.mono hB).trans hb2) ((Keeps.below hb1).trans hk2)) hn h5 hk0 hk1 (by have := h.ok.n; show (S.waits.length : Int) < S.ops + 1; omega) (by show S.ops + 1 ≤ 1000000000; omega)).mono fun e w3 ⟨he, hs⟩ =>
   ⟨he, DiskStep.of ((hb1.mono hB).trans hb2) ((Keeps.below hb1).trans hk2) hs⟩)
 clear h h0 hl hu hB hb hk0 hk1 ho
 have hd : decide ((512 : Int) < (n : Int)) = false := decide_eq_false (by omega)
 clear hn h5
 go_enter Tryz.func73, Tryz.ntmps73
 go_wp2_with fail
 refine (HM.out _ (sbox3 _ _ _ _)).mono ?_; rintro e w1 ⟨rfl, rfl⟩
 go_wp2_with fail
 refine (HH.out _ (sbox3 _ _ _ _)).mono ?_; rintro e w1 ⟨rfl, rfl⟩
 go_wp2_with fail
 refine (HD.out _ (sbox3 _ _ _ _) (wr_boxes _ _ _ _ _ _)).mono ?_; rintro e w1 ⟨rfl, hs⟩
 have HS := Hq hs
 clear hs
 go_wp2
 go_ret
 exact ⟨rfl, HS.out⟩
end Go.Proofs.YtbbgdbnjmonbgaaGreatDoor

set_option linter.unusedVariables false
set_option maxRecDepth 100000
namespace Go.Proofs.YtbbgdbnjmonbgaaGreatDoor
open Go.RowKit
theorem zero_bytes (w : World) : (zeroValue 33).run Tryz.prog w = .ok (.slice none 0 0) w := by kernel_rfl
section
variable {w : World} {ops : Array Oper} {rest : List Oper} {o : Oper} {a : Act} {Q : Exit → Act → World → Prop} {b : Nat} {f : Int → Option Value}
theorem sec_look (hg : o.guard = none) (m x : Operand) (ok : Bool) (hop : o.op = Op.lookup 42 m x ok) (hm : a.eval m = .map (some b)) (h : MapIs w b f) {k : Int} (hx : a.eval x = .int .i64 k) {r : Value}
  (hr : r = if ok then .tuple #[(f k).getD (.slice none 0 0), .bool (f k).isSome] else (f k).getD (.slice none 0 0)) (hK : wpList Tryz.prog ops Q rest (a.put o.dst r) w) : wpList Tryz.prog ops Q (o :: rest) a w := by
 subst hr
 exact map_look hg m x _ 3 33 ok hop Tryz.underlying42 Tryz.underlying3 (zero_bytes w) hm h hx hK
end
theorem pad_full {l : List UInt8} (h : l.length = 512) : over (pad l) [] = l := by
 unfold over pad zeros
 rw [h]
 simp
theorem pad_zero : over (pad []) [] = zeros 512 := by rw [pad_nil]; rfl
def ReadPost (w : World) (l : List UInt8) (e : Ending) (w' : World) : Prop :=
 ∃ g, e = .returned (.tuple #[.slice (some ⟨g, 0, none⟩) 512 512, .int .i64 0]) ∧ w.heap.size ≤ g ∧ Sec w' g l ∧ Below w.heap.size w w'
set_option maxHeartbeats 1600000 in
theorem read_any {w : World} {B p lm fm : Nat} {S : SD} (h : DiskAt w B p lm fm S) {k : Int} (hk0 : 0 ≤ k) (hk1 : k < S.size) :
  Calls Tryz.prog 39 #[.pointer (some ⟨p, 0, none⟩), .int .i64 k] w (ReadPost w (S.read k)) := by
 have HM := Hq (made_at h)
 have HH : Hid (Calls Tryz.prog 76 #[.pointer (some ⟨p, 0, none⟩), .int .i64 k] w fun e w2 => e = .returned (.bool true) ∧ w = w2) := Hq ((has_at h k).mono fun e w2 ⟨he, hw⟩ => ⟨by rw [he, decide_eq_true hk0, decide_eq_true hk1]; rfl, hw⟩)
 obtain ⟨v, ms, fl, ff, h⟩ := h
 have c1 : w.cell? ⟨p, 1, none⟩ = some (.map (some lm)) := (jC h.blk 1).trans rfl
 have c3 : w.cell? ⟨p, 3, none⟩ = some (.map (some fm)) := (jC h.blk 3).trans rfl
 have ML := Hq h.ml
 have MF := Hq h.mf
 have hl := h.ok.l k
 rcases h.lf k with ⟨f1, f2⟩ | ⟨g, l, f1, f2, hs⟩
 ·
  have hR : S.read k = S.lasts k := by unfold SD.read; rw [f2]; rfl
  have r1 : (.tuple #[.slice none 0 0, .bool false] : Value) = if true then .tuple #[(ff k).getD (.slice none 0 0), .bool (ff k).isSome] else (ff k).getD (.slice none 0 0) := by rw [f1]; rfl
  have R1 := Hq r1
  rcases h.ll k with ⟨l1, l2⟩ | ⟨g, l1, hs⟩
  ·
   have r2 : (.slice none 0 0 : Value) = if false then .tuple #[(fl k).getD (.slice none 0 0), .bool (fl k).isSome] else (fl k).getD (.slice none 0 0) := by rw [l1]; rfl
   have R2 := Hq r2
   have HL : Hid (Calls Tryz.prog 77 #[.slice none 0 0, .slice none 0 0] w (LaidPost w (zeros 512))) := Hq (by
    have := laid_any (w := w) (c := 0) (d := 0) (Bs.nil w none) rfl (by simp) (Bs.nil w none) rfl (by simp)
    rwa [pad_zero] at this)
   rw [hR, l2]
   clear h hl hR f1 f2 r1 r2 l1 l2 hk0 hk1
   go_enter Tryz.func39, Tryz.ntmps39
   go_wp2_with fail
   refine HM.out.mono ?_; rintro e w1 ⟨rfl, rfl⟩
   go_wp2_with fail
   refine HH.out.mono ?_; rintro e w1 ⟨rfl, rfl⟩
   go_wp2_with (first | (at_lookup; refine sec_look rfl _ _ true rfl rfl MF.out rfl R1.out ?_) | (at_lookup; refine sec_look rfl _ _ false rfl rfl ML.out rfl R2.out ?_))
   refine HL.out.mono ?_; rintro e w1 ⟨g, rfl, hg, hs, hb⟩
   have HG := Hq hg
   have HS := Hq hs
   have HB := Hq hb
   clear hg hs hb
   go_wp2
   go_ret2
   exact ⟨g, rfl, HG.out, HS.out, HB.out⟩
  ·
   have r2 : (.slice (some ⟨g, 0, none⟩) 512 512 : Value) = if false then .tuple #[(fl k).getD (.slice none 0 0), .bool (fl k).isSome] else (fl k).getD (.slice none 0 0) := by rw [l1]; rfl
   have R2 := Hq r2
   have HL : Hid (Calls Tryz.prog 77 #[.slice (some ⟨g, 0, none⟩) 512 512, .slice none 0 0] w (LaidPost w (S.lasts k))) := Hq (by
    have := laid_any (w := w) (c := 512) (d := 0) hs.bs hl.symm (by rw [hl]; exact Nat.le_refl _) (Bs.nil w none) rfl (by simp)
    rwa [pad_full hl] at this)
   rw [hR]
   clear h hl hR f1 f2 r1 r2 l1 hs hk0 hk1
   go_enter Tryz.func39, Tryz.ntmps39
   go_wp2_with fail
   refine HM.out.mono ?_; rintro e w1 ⟨rfl, rfl⟩
   go_wp2_with fail
   refine HH.out.mono ?_; rintro e w1 ⟨rfl, rfl⟩
   go_wp2_with (first | (at_lookup; refine sec_look rfl _ _ true rfl rfl MF.out rfl R1.out ?_) | (at_lookup; refine sec_look rfl _ _ false rfl rfl ML.out rfl R2.out ?_))
   refine HL.out.mono ?_; rintro e w1 ⟨g', rfl, hg, hs, hb⟩
   have HG := Hq hg
   have HS := Hq hs
   have HB := Hq hb
   clear hg hs hb
   go_wp2
   go_ret2
   exact ⟨g', rfl, HG.out, HS.out, HB.out⟩
 ·
  have hR : S.read k = l := by unfold SD.read; rw [f2]; rfl
  have hl : l.length = 512 := found_len h.ok.w f2
  have r1 : (.tuple #[.slice (some ⟨g, 0, none⟩) 512 512, .bool true] : Value) = if true then .tuple #[(ff k).getD (.slice none 0 0), .bool (ff k).isSome] else (ff k).getD (.slice none 0 0) := by rw [f1]; rfl
  have R1 := Hq r1
  have HL : Hid (Calls Tryz.prog 77 #[.slice (some ⟨g, 0, none⟩) 512 512, .slice none 0 0] w (LaidPost w l)) := Hq (by
   have := laid_any (w := w) (c := 512) (d := 0) hs.bs hl.symm (by rw [hl]; exact Nat.le_refl _) (Bs.nil w none) rfl (by simp)
   rwa [pad_full hl] at this)
  rw [hR]
  clear h hl hR f1 f2 r1 hs hk0 hk1
  go_enter Tryz.func39, Tryz.ntmps39
  go_wp2_with fail
  refine HM.out.mono ?_; rintro e w1 ⟨rfl, rfl⟩
  go_wp2_with fail
  refine HH.out.mono ?_; rintro e w1 ⟨rfl, rfl⟩
  go_wp2_with (at_lookup; refine sec_look rfl _ _ true rfl rfl MF.out rfl R1.out ?_)
  refine HL.out.mono ?_; rintro e w1 ⟨g', rfl, hg, hs, hb⟩
  have HG := Hq hg
  have HS := Hq hs
  have HB := Hq hb
  clear hg hs hb
  go_wp2
  go_ret2
  exact ⟨g', rfl, HG.out, HS.out, HB.out⟩
set_option maxHeartbeats 800000 in
theorem read_bad {w : World} {B p lm fm : Nat} {S : SD} (h : DiskAt w B p lm fm S) {k : Int} (hk : ¬ (0 ≤ k ∧ k < S.size)) :
  Calls Tryz.prog 39 #[.pointer (some ⟨p, 0, none⟩), .int .i64 k] w fun e w' => e = .returned (.tuple #[.slice none 0 0, .int .i64 2]) ∧ w = w' := by
 have HM := Hq (made_at h)
 have HH : Hid (Calls Tryz.prog 76 #[.pointer (some ⟨p, 0, none⟩), .int .i64 k] w fun e w2 => e = .returned (.bool false) ∧ w = w2) := Hq ((has_at h k).mono fun e w2 ⟨he, hw⟩ => ⟨by
  have : (decide (0 ≤ k) && decide (k < S.size)) = false := by
   rw [Bool.and_eq_false_iff, decide_eq_false_iff_not, decide_eq_false_iff_not]
   omega
  rw [he, this], hw⟩)
 clear h hk
 go_enter Tryz.func39, Tryz.ntmps39
 go_wp2_with fail
 refine HM.out.mono ?_; rintro e w1 ⟨rfl, rfl⟩
 go_wp2_with fail
 refine HH.out.mono ?_; rintro e w1 ⟨rfl, rfl⟩
 go_wp2
 go_ret2
 exact ⟨rfl, rfl⟩
set_option maxHeartbeats 800000 in
theorem len_any {w : World} {B p lm fm : Nat} {S : SD} (h : DiskAt w B p lm fm S) :
  Calls Tryz.prog 36 #[.pointer (some ⟨p, 0, none⟩)] w fun e w' => e = .returned (.int .i64 S.size) ∧ w = w' := by
 have HM := Hq (made_at h)
 have c0 := h.cell
 clear h
 go_enter Tryz.func36, Tryz.ntmps36
 go_wp2_with fail
 refine HM.out.mono ?_; rintro e w1 ⟨rfl, rfl⟩
 go_wp2
 go_ret
 exact ⟨rfl, rfl⟩
end Go.Proofs.YtbbgdbnjmonbgaaGreatDoor

