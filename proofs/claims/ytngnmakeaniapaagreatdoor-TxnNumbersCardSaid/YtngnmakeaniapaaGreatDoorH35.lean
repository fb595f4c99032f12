/-
  txn: Create; Open of a disk whose committed state has no keys.
  What stays true of a store that takes numbers alone: no pages (NX), and the law's memory (NumM).
  How an argument that is a list of bools opens, for the rows' proofs.
-/
import Derived.Test.YtngnmakeaniapaaGreatDoorH18
import Derived.Test.YtngnmakeaniapaaGreatDoorH30
import Derived.Test.YtngnmakeaniapaaGreatDoorH34
import Derived.Test.YtngnmakeaniapaaGreatDoorH00
import Derived.ProofKit
import Derived.ShutString
import Derived.Carry
import Derived.SizedLaws
import Derived.OpenShut
import Derived.Deep.Onto
import Derived.Deep.Slices
set_option linter.unusedVariables false
set_option linter.unusedSimpArgs false
set_option maxRecDepth 100000
namespace Go.Proofs.YtngnmakeaniapaaGreatDoor
open Go.RowKit

section
variable {w w' : World} {B P pd : Nat} {X : PG}

set_option maxHeartbeats 400000 in
theorem txCreate_any {Q : Ending → World → Prop} {v : Value} (h : Calls Tryz.prog 43 #[v] w fun e w' => e = .returned (.int .i64 0) ∧ Q e w') :
    Calls Tryz.prog 11 #[v] w fun e w' => e = .returned (.int .i64 0) ∧ Q e w' := by
  have H := Lib.hid h
  clear h
  go_enter Tryz.func11, Tryz.ntmps11
  go_wp2_with fail
  refine H.out.mono ?_; rintro e w1 ⟨rfl, hq⟩
  have HQ := Lib.hid hq
  clear hq
  go_wp2
  go_ret
  exact ⟨rfl, HQ.out⟩

def TxOpened (w : World) (B pd : Nat) (X : PG) (e : Ending) (w' : World) : Prop :=
  ∃ s P pm, e = .returned (.tuple #[.pointer (some ⟨s, 0, none⟩), .int .i64 0]) ∧ TxBox w' s P (.pointer none) pm false ∧ GrAt w' B P pd { X with kept := true } ∧ Below B w w' ∧ Keeps ofGr w w' ∧ w.heap.size ≤ s

set_option maxHeartbeats 1600000 in
theorem txOpen0_ok (hT : Tab w) (hB : B ≤ w.heap.size) (ht : 1 < B) (hO : Calls Tryz.prog 44 #[.pointer (some ⟨pd, 0, none⟩)] w (OpenedPost w B pd X)) (hr : X.r = 0) (hk : X.kept = false) (hl : X.laid = false) (hz : X.F.hi = X.S.size) :
    Calls Tryz.prog 12 #[.pointer (some ⟨pd, 0, none⟩)] w (TxOpened w B pd X) := by
  have H := Lib.hid hO
  have HT := Lib.hid hT
  have HBB := Lib.hid hB
  have hmr := fun (u : World) => meta_root u (X.g : Int) 0 (X.n : Int) (X.d : Int)
  have hmm := @run_makeMap Tryz.prog
  clear hO hT hB
  go_enter Tryz.func12, Tryz.ntmps12
  go_wp2_with fail
  refine H.out.mono ?_; rintro e w1 ⟨P, rfl, hs⟩
  have HB1 := Lib.hid hs.below
  have HK1 := Lib.hid hs.keeps
  have HG1 := Lib.hid hs.at_
  have HM : Hid (Calls Tryz.prog 46 #[.pointer (some ⟨P, 0, none⟩)] w1 fun e w' => e = .returned (.agg #[.int .i64 X.g, .int .i64 0, .int .i64 X.n, .int .i64 X.d]) ∧ Below w1.heap.size w1 w') := Lib.hid (by
    obtain ⟨lm, fm, pl, um, wm, la, v, hg⟩ := hs.at_
    have := grMeta hg
    rw [hr] at this
    exact this)
  clear hs
  go_wp2_with fail
  refine HM.out.mono ?_; rintro e w2 ⟨rfl, hb2⟩
  have HB2 := Lib.hid (HB1.out.trans (hb2.mono HG1.out.base))
  have HK2 := Lib.hid (HK1.out.trans (Keeps.below (K := ofGr) hb2))
  have HG2 := Lib.hid (HG1.out.below hb2)
  have HPG : Hid (Calls Tryz.prog 45 #[.pointer (some ⟨P, 0, none⟩), .int .i64 0] w2 fun e w' => e = .returned (.tuple #[.slice none 0 0, .int .i64 0]) ∧ Below w2.heap.size w2 w') := Lib.hid ((pagesZ_any (HT.out.below ht HB2.out) HG2.out hz ht 0 (fun h => absurd rfl h)).mono fun e w' ⟨h1, h2⟩ => ⟨by rw [h1, if_pos rfl], h2⟩)
  clear hb2
  go_wp2_with fail
  refine HPG.out.mono ?_; rintro e w3 ⟨rfl, hb3⟩
  have HB3 := Lib.hid (HB2.out.trans (hb3.mono HG2.out.base))
  have HK3 := Lib.hid (HK2.out.trans (Keeps.below (K := ofGr) hb3))
  have HG3 := Lib.hid (HG2.out.below hb3)
  have HKN : Hid (Calls Tryz.prog 47 #[.pointer (some ⟨P, 0, none⟩), .slice none 0 0] w3 fun e w' => e = .returned (.int .i64 0) ∧ GrStep w3 w' B P pd { X with kept := true }) := Lib.hid (by
    obtain ⟨lm, fm, pl, um, wm, la, v, hg⟩ := HG3.out
    exact grKeepNil hg hk hl)
  clear hb3
  go_wp2_with fail
  refine HKN.out.mono ?_; rintro e w4 ⟨rfl, hs4⟩
  have HB4 := Lib.hid (HB3.out.trans hs4.below)
  have HK4 := Lib.hid (HK3.out.trans hs4.keeps)
  have HG4 := Lib.hid hs4.at_
  clear hs4
  go_wp2
  go_ret2
  have hb := sbox2 w4 (.map #[] 0) (.cells #[.pointer (some ⟨P, 0, none⟩), .pointer none, .map (some w4.heap.size), .bool false] 62)
  have hn := heap_alloc_new (w4.alloc (.map #[] 0)) (.cells #[.pointer (some ⟨P, 0, none⟩), .pointer none, .map (some w4.heap.size), .bool false] 62)
  have e1 : (w4.alloc (.map #[] 0)).heap.size = w4.heap.size + 1 := by simp
  rw [e1] at hn
  refine ⟨w4.heap.size + 1, P, w4.heap.size, rfl, hn, HG4.out.below hb, HB4.out.trans (hb.mono HG4.out.base), HK4.out.trans (Keeps.below hb), ?_⟩
  have := HK4.out.size
  omega
end

end Go.Proofs.YtngnmakeaniapaaGreatDoor

set_option linter.unusedVariables false
set_option linter.unusedSimpArgs false
set_option maxRecDepth 100000
namespace Go.Proofs.YtngnmakeaniapaaGreatDoor
open Go.RowKit

/-- A pager without pages, i commits behind its start. -/
structure NX (X : PG) (i : Nat) : Prop where
  v : PInv X [] [] [] []
  ws : X.S.waits = []
  l : X.L = fun _ => false
  r : X.r = 0
  lf : X.S.left = -1
  o : X.S.ops ≤ 100 + 3 * i
  g : X.g ≤ 2 + i
  z : X.S.size = 50

theorem NX.mright {X : PG} {i : Nat} (h : NX X i) {n d : Nat} (hn : 1 ≤ n ∧ n ≤ 1000) (hd : 1 ≤ d ∧ d ≤ 1000) (hi : i ≤ 1000) : MRight ((X.g + 1 : Nat) : Int) (0 : Nat) n d := by
  have hg := h.g
  refine ⟨⟨?_, ?_⟩, ?_, ⟨?_, ?_⟩, ⟨?_, ?_⟩⟩ <;> first | omega | (left; omega)

theorem NX.commit {X : PG} {i : Nat} (h : NX X i) {n d : Nat} (hn : 1 ≤ n ∧ n ≤ 1000) (hd : 1 ≤ d ∧ d ≤ 1000) (hi : i ≤ 1000) (hn2 : X.n ≤ n) (hd2 : X.d ≤ d) : Follows X 0 n d ∧ Fit X.S 999999990 ∧ NX (X.commit 0 n d) (i + 1) ∧ (X.commit 0 n d).n = n ∧ (X.commit 0 n d).d = d := by
  have hm := h.mright hn hd hi
  obtain ⟨f1, f2⟩ := h.v.follows hm (.inl rfl) hn2 hd2
  have hg := h.g
  have ho := h.o
  have hl := h.lf
  refine ⟨f1, ⟨by omega, by omega, by omega⟩, ⟨h.v.commit hm f2, rfl, rfl, rfl, PG.comS_left h.lf _ _ _, ?_, ?_, h.z⟩, rfl, rfl⟩
  · show (X.comS 0 n d).ops ≤ _
    rw [PG.comS_ops]
    omega
  · show X.g + 1 ≤ _
    omega

theorem NX.abort {X : PG} {i : Nat} (h : NX X i) : X.failed = false ∧ (∀ k, X.L k = true → X.F.st k = 2) ∧ NX X.abort i ∧ X.abort.n = X.n ∧ X.abort.d = X.d :=
  ⟨h.v.failed, (by intro k hk; rw [h.l] at hk; cases hk), ⟨h.v.abort, h.ws, rfl, h.r, h.lf, h.o, h.g, h.z⟩, rfl, rfl⟩

theorem NX.up {X : PG} {i j : Nat} (h : NX X i) (hj : i ≤ j) : NX X j := ⟨h.v, h.ws, h.l, h.r, h.lf, by have := h.o; omega, by have := h.g; omega, h.z⟩

theorem read_done {S : SD} (h : S.waits = []) (k : Int) : S.read k = S.lasts k := by
  unfold SD.read
  rw [h]
  rfl

/-- .. as the next opening finds it. -/
theorem NX.found {X : PG} {i : Nat} (h : NX X i) : MRight X.g (0 : Nat) X.n X.d ∧ X.S.read ((X.g % 2 : Nat) : Int) = mPage X.g 0 X.n X.d ∧ mG (X.S.read (((X.g + 1) % 2 : Nat) : Int)) (((X.g + 1) % 2 : Nat) : Int) < X.g ∧ openS X.S X.g = X.S := by
  have hD := h.v.D
  have hr := h.r
  have hm1 := hD.m1
  have hri := hD.right
  rw [hr] at hm1 hri
  obtain ⟨g', r', n', d', q1, q2, q3⟩ := hD.m2
  have hno : (((X.g + 1) % 2 : Nat) : Int) = ((g' % 2 : Nat) : Int) := by omega
  obtain ⟨e1, e2, _⟩ := page_is q1 (no := ((g' % 2 : Nat) : Int)) rfl
  refine ⟨hri, by rw [read_done h.ws]; exact hm1, ?_, ?_⟩
  · rw [read_done h.ws, hno, q3, e2]
    omega
  · unfold openS
    rw [if_pos]
    rw [read_done h.ws, hno, q3]
    exact e1

/-- .. and opened. -/
theorem NX.opened {X : PG} {i : Nat} (h : NX X i) : NX { PG.new X.S X.g 0 X.n X.d with kept := true } i := by
  have hD := h.v.D
  rw [h.r] at hD
  have hz := h.z
  refine ⟨⟨hD, ⟨?_, ?_, ?_, ?_, ?_, ?_⟩, rfl, rfl, rfl, fun k => ?_, List.nodup_nil, (fun k hk => by cases hk), (fun k hk => by cases hk), (fun k w hk => by cases hk), (fun k hk => by cases hk), rfl, (fun i p g hp => by cases hp), ⟨List.Pairwise.nil, (fun x hx => by cases hx), (fun x hx => by cases hx), (fun x hx => by cases hx)⟩, (fun x hx => by cases hx), (fun x hx => by cases hx), (fun x hx => by cases hx)⟩, h.ws, rfl, rfl, h.lf, h.o, h.g, h.z⟩
  · show (0 : Int) ≤ 2; omega
  · show (2 : Int) ≤ X.S.size; omega
  · show X.S.size ≤ 4096; omega
  · intro k hk; cases hk
  · intro k hk; cases hk
  · intro k hk; cases hk
  · constructor
    · intro h; cases h
    · intro h; cases h

theorem NX.start {S : SD} (hz : S.size = 50) (hl : S.left = -1) (ho : S.ops = 0) (hok : (fmtS S 2).flush.Ok) : NX { PG.new (fmtS S 2).flush 2 0 1 1 with kept := true } 0 := by
  have hs : (fmtS S 2).flush.size = S.size := fmtS_size (S := S) 2
  have hF : (PG.new (fmtS S 2).flush 2 0 1 1).F.Ok := by
    refine ⟨?_, ?_, ?_, ?_, ?_, ?_⟩
    · show (0 : Int) ≤ 2; omega
    · show (2 : Int) ≤ (fmtS S 2).flush.size; omega
    · show (fmtS S 2).flush.size ≤ 4096; omega
    · intro k hk; cases hk
    · intro k hk; cases hk
    · intro k hk; cases hk
  have h1 := PInv.start (S := S) (by omega) hok hF
  have e : (PG.new (fmtS S 2).flush 2 0 1 1).F.takes [] = (PG.new (fmtS S 2).flush 2 0 1 1).F := rfl
  rw [e] at h1
  refine ⟨h1, rfl, rfl, rfl, fmt_flush_left hl, ?_, ?_, by show (fmtS S 2).flush.size = 50; omega⟩
  · show (fmtS S 2).ops + 1 ≤ _
    have := (fmtS_ops (S := S) 2).1
    omega
  · show (2 : Nat) ≤ 2 + 0; omega

/-- The law's memory: the store, its transaction, two pairs of numbers. -/
structure NumM (w wr : World) (pd b8 b9 s P k pm : Nat) (X : PG) (n0 n1 a0 a1 c0 c1 : Nat) : Prop where
  g : GrAt wr w.heap.size P pd X
  t : TxBox wr s P (wkv k) pm false
  wk : WkBox wr k P 0 n0 n1 (.slice none 0 0) false
  x8 : wr.heap[b8]? = some (.cells #[.int .i64 a0, .int .i64 a1] 78 (0, 0))
  x9 : wr.heap[b9]? = some (.cells #[.int .i64 c0, .int .i64 c1] 78 (0, 0))
  bl : Below w.heap.size w wr
  hs : w.heap.size ≤ s
  hk : w.heap.size ≤ k
  h8 : w.heap.size ≤ b8
  h9 : w.heap.size ≤ b9
  ne : b8 ≠ b9

section
variable {w wr w' : World} {pd b8 b9 s P k pm : Nat} {X Y : PG} {n0 n1 a0 a1 c0 c1 : Nat}
theorem NumM.low (h : NumM w wr pd b8 b9 s P k pm X n0 n1 a0 a1 c0 c1) (hb : Below wr.heap.size wr w') : NumM w w' pd b8 b9 s P k pm X n0 n1 a0 a1 c0 c1 :=
  ⟨h.g.below hb, h.t.low hb, h.wk.low hb, (Keeps.below (K := fun _ _ => false) hb).stay h.x8 rfl, (Keeps.below (K := fun _ _ => false) hb).stay h.x9 rfl, h.bl.trans (hb.mono h.bl.size), h.hs, h.hk, h.h8, h.h9, h.ne⟩
/-- A number is taken. -/
theorem NumM.next (h : NumM w wr pd b8 b9 s P k pm X n0 n1 a0 a1 c0 c1) {m0 m1 : Nat} (hw : WkBox w' k P 0 m0 m1 (.slice none 0 0) false) (hg : wr.grownBy w' (some k)) : NumM w w' pd b8 b9 s P k pm X m0 m1 a0 a1 c0 c1 := by
  obtain ⟨q1, q2, q3, q4⟩ := h.wk.set h.g h.hk hw hg
  exact ⟨q2, q4.stay h.t rfl, q1, q4.stay h.x8 rfl, q4.stay h.x9 rfl, h.bl.trans q3, h.hs, h.hk, h.h8, h.h9, h.ne⟩
/-- A pair is written. -/
theorem NumM.own (h : NumM w wr pd b8 b9 s P k pm X n0 n1 a0 a1 c0 c1) {b : Nat} (hb : b = b8 ∨ b = b9) (hg : wr.grownBy w' (some b)) {a0' a1' c0' c1' : Nat} (h8 : w'.heap[b8]? = some (.cells #[.int .i64 a0', .int .i64 a1'] 78 (0, 0))) (h9 : w'.heap[b9]? = some (.cells #[.int .i64 c0', .int .i64 c1'] 78 (0, 0))) :
    NumM w w' pd b8 b9 s P k pm X n0 n1 a0' a1' c0' c1' := by
  have hob : ∃ c, wr.heap[b]? = some (.cells c 78 (0, 0)) := by
    rcases hb with rfl | rfl
    · exact ⟨_, h.x8⟩
    · exact ⟨_, h.x9⟩
  obtain ⟨c, hob⟩ := hob
  have hB : w.heap.size ≤ b := by
    rcases hb with rfl | rfl
    · exact h.h8
    · exact h.h9
  have hk : Keeps (isTy 78) wr w' := Keeps.of_grown hg hob (by simp [isTy])
  have hgr : GrAt w' w.heap.size P pd X := by
    obtain ⟨lm, fm, pl, um, wm, la, v, hg⟩ := h.g
    exact ⟨lm, fm, pl, um, wm, la, v, ⟨hk.stay hg.blk rfl, hg.disk.keeps hk (fun _ _ _ => rfl) (fun _ _ _ => rfl) (fun _ _ _ => rfl) (fun _ _ => rfl) (fun _ _ => rfl), hg.list.keeps hk (fun _ => rfl) (fun _ _ => rfl) (fun _ _ => rfl), hg.mla.keeps hk (fun _ _ => rfl), pins_keeps hg.pins hk (fun _ _ _ => rfl), hg.bP, hg.bu, hg.bw, hg.ba, hg.nlm, hg.nfm, hg.nla, hg.g0, hg.mP⟩⟩
  exact ⟨hgr, hk.stay h.t rfl, hk.stay h.wk rfl, h8, h9, h.bl.trans ((Below.refl _ wr).grown hg h.bl.size (fun k hk => by cases hk; exact hB)), h.hs, h.hk, h.h8, h.h9, h.ne⟩

/-- Without a transaction. -/
structure NumN (w wr : World) (pd b8 b9 s P pm : Nat) (X : PG) (a0 a1 c0 c1 : Nat) : Prop where
  g : GrAt wr w.heap.size P pd X
  t : TxBox wr s P (.pointer none) pm false
  x8 : wr.heap[b8]? = some (.cells #[.int .i64 a0, .int .i64 a1] 78 (0, 0))
  x9 : wr.heap[b9]? = some (.cells #[.int .i64 c0, .int .i64 c1] 78 (0, 0))
  bl : Below w.heap.size w wr
  hs : w.heap.size ≤ s
  h8 : w.heap.size ≤ b8
  h9 : w.heap.size ≤ b9
  ne : b8 ≠ b9
/-- The transaction has ended. -/
theorem NumM.end_ (h : NumM w wr pd b8 b9 s P k pm X n0 n1 a0 a1 c0 c1) (ht : TxBox w' s P (.pointer none) pm false) (hg : GrAt w' w.heap.size P pd Y) (hb : Below w.heap.size wr w') (hk : Keeps (ofTx P) wr w') : NumN w w' pd b8 b9 s P pm Y a0 a1 c0 c1 :=
  ⟨hg, ht, hk.stay h.x8 rfl, hk.stay h.x9 rfl, h.bl.trans hb, h.hs, h.h8, h.h9, h.ne⟩
/-- The disk is opened anew. -/
theorem NumN.open_ (h : NumN w wr pd b8 b9 s P pm X a0 a1 c0 c1) {s' P' pm' : Nat} (ht : TxBox w' s' P' (.pointer none) pm' false) (hg : GrAt w' w.heap.size P' pd Y) (hb : Below w.heap.size wr w') (hk : Keeps ofGr wr w') (hs : wr.heap.size ≤ s') : NumN w w' pd b8 b9 s' P' pm' Y a0 a1 c0 c1 :=
  ⟨hg, ht, hk.stay h.x8 rfl, hk.stay h.x9 rfl, h.bl.trans hb, Nat.le_trans h.bl.size hs, h.h8, h.h9, h.ne⟩
/-- .. a transaction is begun. -/
theorem NumN.begin (h : NumN w wr pd b8 b9 s P pm X a0 a1 c0 c1) {r n d : Nat} (hr : r = 0) (hX : (∃ k, TxBox w' s P (wkv k) pm false ∧ WkBox w' k P r n d (.slice none 0 0) false ∧ GrAt w' w.heap.size P pd X ∧ Below w.heap.size wr w' ∧ Keeps (isTy 62) wr w' ∧ wr.heap.size ≤ k)) :
    ∃ k, NumM w w' pd b8 b9 s P k pm X n d a0 a1 c0 c1 := by
  obtain ⟨k, q1, q2, q3, q4, q5, q6⟩ := hX
  subst hr
  exact ⟨k, q3, q1, q2, q5.stay h.x8 rfl, q5.stay h.x9 rfl, h.bl.trans q4, h.hs, Nat.le_trans h.bl.size q6, h.h8, h.h9, h.ne⟩
end

end Go.Proofs.YtngnmakeaniapaaGreatDoor

set_option linter.unusedVariables false
set_option maxRecDepth 100000
namespace Go.Proofs.YtngnmakeaniapaaGreatDoor
open Go.ChangeShapes Go.WideShapes Go.ChangeAt Go.RowKit

/-- Bools lie at an address. -/
def Bls (w : World) (q : Option Addr) (l : List Bool) : Prop := l ≠ [] → ∃ b o, q = some ⟨b, o, none⟩ ∧ ∀ i x, l[i]? = some x → w.cell? ⟨b, o + i, none⟩ = some (.bool x)
theorem Bls.below {w w' : World} {q : Option Addr} {l : List Bool} (h : Bls w q l) (hb : Below w.heap.size w w') : Bls w' q l := by
  intro hne
  obtain ⟨b, o, hp, hc⟩ := h hne
  refine ⟨b, o, hp, fun i u hi => ?_⟩
  have h1 := hc i u hi
  rw [hb.cell (World.block_lt_of_cell? _ _ h1)]
  exact h1
structure BlsOk (w : World) (q : Option Addr) (m c : Nat) (l : List Bool) : Prop where
  hn : m = l.length
  h1 : m ≤ c
  h2 : c ≤ 9223372036854775807
  hl : Bls w q l
theorem BlsOk.below {w w' : World} {q : Option Addr} {m c : Nat} {l : List Bool} (h : BlsOk w q m c l) (hb : Below w.heap.size w w') : BlsOk w' q m c l := ⟨h.hn, h.h1, h.h2, h.hl.below hb⟩
theorem cells_bool1 : Tryz.prog.cellsOf 4 = 1 := by kernel_rfl

theorem open_bools {H : Type} {enc : TypeId × Value → H} {W : World} {fuel : Nat} {cs : List Value} {x : DataW H × List MemPlace}
    (h : DataW.trod enc Tryz.prog W 0 (fun _ => true) true fuel 77 cs = some x) : ∃ (q : Option Addr) (m c : Nat) (l : List Bool), cs = [.slice q m c] ∧ BlsOk W q m c l := by
  rcases Deep.open_slice Tryz.underlying77 h with ⟨hcs, _⟩ | ⟨a, len, cap, m, n, D, Pl, hcs, _, hl, hm, hmm, hx, hi⟩
  · exact ⟨none, 0, 0, [], hcs, rfl, by omega, by omega, fun h => absurd rfl h⟩
  · simp only [if_true] at hmm
    obtain rfl := hmm
    have hcell : ∀ i, i < len → ∃ t : Bool, W.cells? 0 (a.add (i * 1)) 1 = some [.bool t] := by
      intro i hil
      obtain ⟨cs', h1, h2⟩ := hi i (by omega)
      obtain ⟨s, e0, _⟩ := DataW.trod_bool Tryz.underlying4 h2
      rw [cells_bool1, e0] at h1
      exact ⟨s, h1⟩
    obtain ⟨F, hF⟩ := Deep.choose_lt hcell
    unfold maxLen at hm
    refine ⟨some a, len, m, (List.range len).map F, hcs, by simp, hl, by omega, ?_⟩
    intro hne
    have h0 : 0 < len := by
      rcases Nat.eq_zero_or_pos len with h | h
      · subst h; simp at hne
      · exact h
    obtain ⟨b, o, s⟩ := a
    have hs : s = none := by
      obtain ⟨_, _, hc⟩ := World.cells?_some (hF 0 h0)
      have := World.cell?_spot ((hc 0 (by omega)).trans rfl)
      simpa [Addr.add] using this
    subst hs
    refine ⟨b, o, rfl, fun i t hit => ?_⟩
    rw [List.getElem?_map] at hit
    have hil : i < len := by
      rcases Nat.lt_or_ge i len with h | h
      · exact h
      · rw [List.getElem?_eq_none (by simpa using h)] at hit
        cases hit
    rw [List.getElem?_eq_getElem (by simpa using hil)] at hit
    simp only [List.getElem_range, Option.map_some, Option.some.injEq] at hit
    subst hit
    obtain ⟨_, _, hc⟩ := World.cells?_some (hF i hil)
    have c0 := hc 0 (by omega)
    rw [Deep.add_add, add_plain, Nat.mul_one, Nat.add_zero] at c0
    exact c0

end Go.Proofs.YtngnmakeaniapaaGreatDoor

