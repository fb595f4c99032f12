/-
  pager: put, Lay.
  A tree's node, plain: its sizes, whether it is right, its bytes.
  A tree's node in memory; what stays where one block alone changes.
  bytes.Compare tells the order of two byte slices: a contract for the walks (split off by what a seat holds).
-/
import Derived.Test.YtfpdcfomfikkiaaGreatDoorH14
import Derived.Test.YtfpdcfomfikkiaaGreatDoorH00
import Derived.Test.YtfpdcfomfikkiaaGreatDoorH05
import Derived.Deep.QuietTactic
import Derived.BigQuiet
set_option linter.unusedVariables false
set_option maxRecDepth 100000
namespace Go.Proofs.YtfpdcfomfikkiaaGreatDoor
open Go.RowKit

/-- Bytes that stay while a pager changes. -/
def GBytes (w : World) (B : Nat) (q : Option Addr) (l : List UInt8) : Prop := ∀ w', Below B w w' → Keeps ofGr w w' → Bs w' q l
theorem GBytes.on {w w' : World} {B : Nat} {q : Option Addr} {l : List UInt8} (h : GBytes w B q l) (h1 : Below B w w') (h2 : Keeps ofGr w w') : GBytes w' B q l := fun w2 h3 h4 => h w2 (h1.trans h3) (h2.trans h4)
theorem GBytes.bs {w : World} {B : Nat} {q : Option Addr} {l : List UInt8} (h : GBytes w B q l) : Bs w q l := h w (Below.refl _ _) (Keeps.refl _ _)
theorem GBytes.nil (w : World) (B : Nat) (q : Option Addr) : GBytes w B q [] := fun _ _ _ => Bs.nil _ _
theorem GBytes.arg {W w : World} {q : Option Addr} {l : List UInt8} (h : Bs W q l) (hb : Below W.heap.size W w) : GBytes w W.heap.size q l := fun w' h1 _ => h.below (hb.trans h1)
theorem ofGr_u8 (i : Nat) (c : Array Value) (f : Nat × Nat) : ofGr i (.cells c 5 f) = false := by
  show ((5 : TypeId) == 144 || (5 : TypeId) == 149 || (5 : TypeId) == 63 || (5 : TypeId) == 256) = false
  decide
theorem GBytes.sec {w : World} {B g : Nat} {l : List UInt8} (h : Sec w g l) : GBytes w B (some ⟨g, 0, none⟩) l := fun w' _ h2 => Sec.bs (h2.stay h (ofGr_u8 _ _ _))

theorem setOf_add (L : Int → Bool) (k : Int) : (fun x => if x = k then some (Value.agg #[]) else setOf L x) = setOf (fun x => if x = k then true else L x) := by
  funext x
  simp only [setOf]
  split <;> simp
theorem setOf_del (L : Int → Bool) (k : Int) : (fun x => if x = k then none else setOf L x) = setOf (fun x => if x = k then false else L x) := by
  funext x
  simp only [setOf]
  split <;> simp

section
variable {w w' : World} {B P pd lm fm pl um wm la : Nat} {v : Value} {X : PG}

set_option maxHeartbeats 1600000 in
theorem grPut_gen (hT : Tab w) (h : GrIs w B P pd lm fm pl um wm la v X) (kind : UInt8) {k : Nat} (hk : k < 4096) (hg : X.g + 1 ≤ 1152921504606846976) {q : Option Addr} {n c : Nat} {l : List UInt8} (hl : Bs w q l) (hn : n = l.length) (hnc : n ≤ c) (hc : c ≤ 9223372036854775807) (h493 : n ≤ 493) {z : Int} {R : World → Prop}
    (HW : ∀ w1 g, Below w.heap.size w w1 → Sec w1 g (pageB kind k (X.g + 1) l) → Calls Tryz.prog 53 #[.pointer (some ⟨pd, 0, none⟩), .int .i64 (k : Int), .slice (some ⟨g, 0, none⟩) 512 512] w1 fun e w' => e = .returned (.int .i64 z) ∧ R w') :
    Calls Tryz.prog 20 #[.pointer (some ⟨P, 0, none⟩), .int .u8 (kind.toNat : Int), .int .i64 (k : Int), .slice q n c] w fun e w' => e = .returned (.int .i64 z) ∧ R w' := by
  have HNX := Lib.hid (grNext h)
  have HS := seal_ok hT kind (no := k) (gen := X.g + 1) hk hg hl hn hnc hc h493
  rw [show ((X.g + 1 : Nat) : Int) = (X.g : Int) + 1 by omega] at HS
  replace HS := Lib.hid HS
  have HC0 : Hid (∀ w', Below w.heap.size w w' → w'.cell? ⟨P, 0, none⟩ = some (.pointer (some ⟨pd, 0, none⟩))) := Lib.hid fun w' hb => (h.below hb).c0
  have HWh := Lib.hid HW
  clear h HW hT hl hk hn hnc hc
  generalize pageB kind k (X.g + 1) l = pg at *
  generalize (X.g : Int) = g at *
  generalize (k : Int) = k' at *
  generalize (kind.toNat : Int) = kk at *
  go_enter Tryz.func20, Tryz.ntmps20
  go_wp2_with fail
  refine HNX.out.mono ?_; rintro e w1 ⟨rfl, rfl⟩
  go_wp2_with fail
  refine HS.out.mono ?_; rintro e w1 ⟨rfl, hs, hb⟩
  have HB := Lib.hid hb
  have HSEC := Lib.hid (show Sec w1 _ pg from hs)
  have c0 := HC0.out _ hb
  clear hs hb
  go_wp2_with fail
  refine (HWh.out _ _ HB.out HSEC.out).mono ?_; rintro e w2 ⟨rfl, hr⟩
  have HR := Lib.hid hr
  clear hr
  go_wp2
  go_ret
  exact ⟨rfl, HR.out⟩

/-- Behind a page that was laid. -/
def PG.lay (X : PG) (k : Int) (pg : List UInt8) : PG := { X with S := X.S.write k pg, F := X.F.take k, L := fun x => if x = k then true else X.L x, laid := true }

theorem FL.alloc_some {F : FL} {k : Int} (h : F.least = some k) : F.alloc = F.take k ∧ F.allocV = .tuple #[.int .i64 k, .int .i64 0] := by
  unfold FL.alloc FL.allocV
  rw [h]
  exact ⟨rfl, rfl⟩
theorem FL.alloc_none {F : FL} (h : F.least = none) : F.alloc = F ∧ F.allocV = .tuple #[.int .i64 0, .int .i64 15] := by
  unfold FL.alloc FL.allocV
  rw [h]
  exact ⟨rfl, rfl⟩
theorem FL.take_drop {F : FL} {k : Int} (h : F.used k = false) : (F.take k).drop k = F := by
  have e : ((F.take k).drop k).used = F.used := by
    funext x
    simp only [FL.take, FL.drop]
    split
    · rename_i hx; rw [hx, h]
    · rfl
  obtain ⟨lo, hi, u, ws⟩ := F
  simp only [FL.take, FL.drop] at e ⊢
  rw [e]
theorem FL.free_used {F : FL} {k : Int} (h : F.st k = 1) : F.used k = false ∧ F.waits k = none ∧ F.lo ≤ k ∧ k < F.hi := by
  unfold FL.st at h
  cases hh : F.has k <;> cases hu : F.used k <;> cases hw : F.waits k <;> simp [hh, hu, hw] at h ⊢
  exact FL.has_iff.1 hh

set_option maxHeartbeats 1600000 in
theorem grLay_full (h : GrIs w B P pd lm fm pl um wm la v X) (hf : X.failed = false) (hF : X.F.least = none) (kind : UInt8) (q : Option Addr) {n : Nat} (c : Nat) (h493 : n ≤ 493) :
    Calls Tryz.prog 7 #[.pointer (some ⟨P, 0, none⟩), .int .u8 (kind.toNat : Int), .slice q n c] w fun e w' => e = .returned (.tuple #[.int .i64 0, .int .i64 15]) ∧ GrStep w w' B P pd X := by
  have HM := Lib.hid h.made
  have c10 := h.c10
  have c1 := h.c1
  rw [hf] at c10
  obtain ⟨a1, a2⟩ := FL.alloc_none hF
  have HA := frAlloc_any h.list
  rw [a1, a2] at HA
  replace HA := Lib.hid HA
  have H := Lib.hid h
  have d1 : decide ((493 : Int) < (n : Int)) = false := decide_eq_false (by omega)
  clear h a1 a2 hF
  go_enter Tryz.func7, Tryz.ntmps7
  go_wp2_with fail
  refine HM.out.mono ?_; rintro e w1 ⟨rfl, rfl⟩
  go_wp2_with fail
  refine HA.out.mono ?_; rintro e w1 ⟨rfl, hfr, hon⟩
  have HG := Lib.hid (GrStep.list H.out hfr hon)
  clear hfr hon
  go_wp2
  go_ret2
  exact ⟨rfl, HG.out⟩

set_option maxHeartbeats 3200000 in
theorem grLay_cut (hT : Tab w) (hB : 0 < B) (h : GrIs w B P pd lm fm pl um wm la v X) (hf : X.failed = false) {k : Nat} (hF : X.F.least = some (k : Int)) (h0 : X.S.left = 0) (hz : X.F.hi = X.S.size) (hg : X.g + 1 ≤ 1152921504606846976) (kind : UInt8) {q : Option Addr} {n c : Nat} {l : List UInt8} (hl : GBytes w B q l) (hn : n = l.length) (hnc : n ≤ c) (hc : c ≤ 9223372036854775807) (h493 : n ≤ 493) :
    Calls Tryz.prog 7 #[.pointer (some ⟨P, 0, none⟩), .int .u8 (kind.toNat : Int), .slice q n c] w fun e w' => e = .returned (.tuple #[.int .i64 0, .int .i64 17]) ∧ GrStep w w' B P pd X := by
  have HM := Lib.hid h.made
  have c10 := h.c10
  have c1 := h.c1
  rw [hf] at c10
  obtain ⟨a1, a2⟩ := FL.alloc_some hF
  have hst := (FL.least_some hF).1
  obtain ⟨u1, u2, u3, u4⟩ := FL.free_used hst
  have h96 := h.list.ok.h2
  have hlo := h.list.ok.h0
  have HA := frAlloc_any h.list
  rw [a1, a2] at HA
  replace HA := Lib.hid HA
  have HP : Hid (∀ w1, GrIs w1 B P pd lm fm pl um wm la v { X with F := X.F.take k } → Below B w w1 → Keeps ofGr w w1 → Calls Tryz.prog 20 #[.pointer (some ⟨P, 0, none⟩), .int .u8 (kind.toNat : Int), .int .i64 (k : Int), .slice q n c] w1 fun e w2 => e = .returned (.int .i64 17) ∧ Below w1.heap.size w1 w2) := Lib.hid fun w1 h1 hb hkk =>
    grPut_gen (k := k) (hT.below hB hb) h1 kind (by omega) hg (hl w1 hb hkk) hn hnc hc h493 fun w2 g hb2 hs =>
      (write_cut (k := (k : Int)) (h1.disk.below hb2) h0 (by omega) (by show (k : Int) < X.S.size; omega) (some ⟨g, 0, none⟩) 512 512 (by omega)).mono fun e w3 ⟨he, hb3⟩ => ⟨he, hb2.trans (hb3.mono hb2.size)⟩
  have HGV : Hid (∀ w1, GrIs w1 B P pd lm fm pl um wm la v { X with F := X.F.take k } → Calls Tryz.prog 21 #[.pointer (some ⟨pl, 0, none⟩), .int .i64 (k : Int)] w1 (FrStep w1 pl um wm X.F (.int .i64 0))) := Lib.hid fun w1 h1 => by
    have hst2 : (X.F.take k).st k = 2 := FL.st_two.2 ⟨FL.has_iff.2 ⟨u3, u4⟩, by simp [FL.take]⟩
    have hh := frGive_any h1.list (k := k) (FL.has_iff.2 ⟨u3, u4⟩)
    rw [if_pos hst2, if_pos hst2, FL.take_drop u1] at hh
    exact hh
  have H := Lib.hid h
  have d1 : decide ((493 : Int) < (n : Int)) = false := decide_eq_false (by omega)
  clear h a1 a2 hF hT hst u1 u2 u3 u4 h96 hlo hl hn hnc hc
  generalize (k : Int) = kk at *
  go_enter Tryz.func7, Tryz.ntmps7
  go_wp2_with fail
  refine HM.out.mono ?_; rintro e w1 ⟨rfl, rfl⟩
  go_wp2_with fail
  refine HA.out.mono ?_; rintro e w1 ⟨rfl, hfr, hon⟩
  obtain ⟨g1, g2, g3⟩ := H.out.onList hfr hon
  have G1 := Lib.hid g1
  have G2 := Lib.hid g2
  have G3 := Lib.hid (g3.mono isMaps_ofGr)
  clear hfr hon g1 g2 g3
  go_wp2_with fail
  refine (HP.out _ G1.out G2.out G3.out).mono ?_; rintro e w2 ⟨rfl, hb2⟩
  have G4 := Lib.hid (G1.out.below hb2)
  have G5 := Lib.hid (G2.out.trans (hb2.mono G1.out.base))
  have G6 := Lib.hid (G3.out.trans (Keeps.below hb2))
  have c1 := (G1.out.below hb2).c1
  clear hb2
  go_wp2_with fail
  refine (HGV.out _ G4.out).mono ?_; rintro e w3 ⟨rfl, hfr, hon⟩
  have HG := Lib.hid (GrStep.of G5.out G6.out (GrStep.list G4.out hfr hon))
  clear hfr hon c1
  go_wp2
  go_ret2
  exact ⟨rfl, HG.out⟩

set_option maxHeartbeats 3200000 in
theorem grLay_ok (hT : Tab w) (hB : 0 < B) (h : GrIs w B P pd lm fm pl um wm la v X) (hf : X.failed = false) {k : Nat} (hF : X.F.least = some (k : Int)) (h0 : X.S.left ≠ 0) (h1 : -1 ≤ X.S.left) (h2 : X.S.left ≤ 9223372036854775807) (ho : X.S.ops ≤ 999999999) (hz : X.F.hi = X.S.size) (hg : X.g + 1 ≤ 1152921504606846976) (kind : UInt8) {q : Option Addr} {n c : Nat} {l : List UInt8} (hl : GBytes w B q l) (hn : n = l.length) (hnc : n ≤ c) (hc : c ≤ 9223372036854775807) (h493 : n ≤ 493) :
    Calls Tryz.prog 7 #[.pointer (some ⟨P, 0, none⟩), .int .u8 (kind.toNat : Int), .slice q n c] w fun e w' => e = .returned (.tuple #[.int .i64 (k : Int), .int .i64 0]) ∧ GrStep w w' B P pd (X.lay k (pageB kind k (X.g + 1) l)) := by
  have HM := Lib.hid h.made
  have c10 := h.c10
  have c1 := h.c1
  rw [hf] at c10
  obtain ⟨a1, a2⟩ := FL.alloc_some hF
  have hst := (FL.least_some hF).1
  obtain ⟨u1, u2, u3, u4⟩ := FL.free_used hst
  have h96 := h.list.ok.h2
  have hlo := h.list.ok.h0
  have HA := frAlloc_any h.list
  rw [a1, a2] at HA
  replace HA := Lib.hid HA
  have hpl : (pageB kind k (X.g + 1) l).length = 512 := pageB_length (by omega)
  have HP : Hid (∀ w1, GrIs w1 B P pd lm fm pl um wm la v { X with F := X.F.take k } → Below B w w1 → Keeps ofGr w w1 → Calls Tryz.prog 20 #[.pointer (some ⟨P, 0, none⟩), .int .u8 (kind.toNat : Int), .int .i64 (k : Int), .slice q n c] w1 fun e w2 => e = .returned (.int .i64 0) ∧ DiskStep w1 w2 B pd lm fm (X.S.write k (pageB kind k (X.g + 1) l))) := Lib.hid fun w1 hw1 hb hkk =>
    grPut_gen (k := k) (hT.below hB hb) hw1 kind (by omega) hg (hl w1 hb hkk) hn hnc hc h493 fun w2 g hb2 hs =>
      (write_any (k := (k : Int)) (hw1.disk.below hb2) h0 h1 h2 ho (by omega) (by show (k : Int) < X.S.size; omega) 512 (Bytes.sec hs) hpl.symm (Nat.le_of_eq hpl)).mono fun e w3 ⟨he, hs3⟩ => ⟨he, DiskStep.of (hb2.mono hw1.base) (Keeps.below hb2) hs3⟩
  have H := Lib.hid h
  have d1 : decide ((493 : Int) < (n : Int)) = false := decide_eq_false (by omega)
  clear h a1 a2 hF hT hst u1 u2 u3 u4 h96 hlo hl hn hnc hc hpl h1 h2
  generalize pageB kind k (X.g + 1) l = pg at *
  generalize (k : Int) = kk at *
  go_enter Tryz.func7, Tryz.ntmps7
  go_wp2_with fail
  refine HM.out.mono ?_; rintro e w1 ⟨rfl, rfl⟩
  go_wp2_with fail
  refine HA.out.mono ?_; rintro e w1 ⟨rfl, hfr, hon⟩
  obtain ⟨g1, g2, g3⟩ := H.out.onList hfr hon
  have G1 := Lib.hid g1
  have G2 := Lib.hid g2
  have G3 := Lib.hid (g3.mono isMaps_ofGr)
  clear hfr hon g1 g2 g3
  go_wp2_with fail
  refine (HP.out _ G1.out G2.out G3.out).mono ?_; rintro e w2 ⟨rfl, hs2⟩
  have G4 := Lib.hid (G1.out.onDisk hs2)
  have G5 := Lib.hid (G2.out.trans hs2.below)
  have G6 := Lib.hid (G3.out.trans (hs2.keeps.mono ofDisk_ofGr))
  have c6 := (G1.out.onDisk hs2).c6
  clear hs2
  go_wp2_with (at_mapUpdate; refine st_store rfl _ _ _ _ 3 67 rfl Tryz.underlying58 Tryz.underlying3 rfl G4.out.mla rfl rfl ?_; intro w3 hm hg3; obtain ⟨g7, g8, g9⟩ := G4.out.onLaid (L := fun x => if x = kk then true else X.L x) ((setOf_add X.L kk) ▸ hm) hg3; have G7 := Lib.hid g7; have G8 := Lib.hid (G5.out.trans g8); have G9 := Lib.hid (G6.out.trans (g9.mono isMaps_ofGr)); have c9 := g7.c9; have u9 := g7.soft 9; clear hm hg3 g7 g8 g9)
  go_ret2
  obtain ⟨b1, b2⟩ := cell_set (i := 9) (v := .bool true) G7.out.blk
  exact ⟨rfl, GrStep.of G8.out G9.out (GrStep.own (Y := X.lay kk pg) G7.out (by simpa [grCells, PG.lay] using b1) b2 G7.out.pins rfl rfl rfl G7.out.g0)⟩
end

end Go.Proofs.YtfpdcfomfikkiaaGreatDoor

set_option linter.unusedVariables false
set_option maxRecDepth 100000
namespace Go.Proofs.YtfpdcfomfikkiaaGreatDoor
open Go.RowKit

/-- A value; a node. -/
structure VlS where
  l : List UInt8
  g : Int
  p : Int
structure NdS where
  leaf : Bool
  ks : List (List UInt8)
  vs : List VlS
  is : List Int
def VlS.zero : VlS := ⟨[], 0, 0⟩
def NdS.zero : NdS := ⟨false, [], [], []⟩

def entS (k : List UInt8) (v : VlS) : Nat := if v.p = 0 then k.length + v.l.length + 2 else k.length + 6
def sizeL : List (List UInt8) → List VlS → Nat
  | [], _ => 0
  | k :: ks, [] => entS k .zero + sizeL ks []
  | k :: ks, v :: vs => entS k v + sizeL ks vs
def sizeB : List (List UInt8) → Nat
  | [] => 0
  | k :: ks => k.length + 3 + sizeB ks
def NdS.size (n : NdS) : Nat := if n.leaf then 1 + sizeL n.ks n.vs else 3 + sizeB n.ks

theorem sizeL_drop {ks : List (List UInt8)} {vs : List VlS} {j : Nat} {k : List UInt8} (h : ks[j]? = some k) :
    sizeL (ks.drop j) (vs.drop j) = entS k (vs[j]?.getD .zero) + sizeL (ks.drop (j + 1)) (vs.drop (j + 1)) := by
  rw [drop_get h]
  cases hv : vs[j]? with
  | none =>
    have hl : vs.length ≤ j := List.getElem?_eq_none_iff.1 hv
    rw [List.drop_eq_nil_of_le hl, (List.drop_eq_nil_of_le (Nat.le_succ_of_le hl) : vs.drop (j + 1) = [])]
    rfl
  | some v =>
    rw [drop_get hv]
    rfl
theorem sizeB_drop {ks : List (List UInt8)} {j : Nat} {k : List UInt8} (h : ks[j]? = some k) : sizeB (ks.drop j) = k.length + 3 + sizeB (ks.drop (j + 1)) := by
  rw [drop_get h]
  rfl

/-- How much there is of it. -/
def lens {α : Type} (f : α → List UInt8) : List α → Nat
  | [] => 0
  | a :: l => (f a).length + lens f l
theorem lens_mem {α : Type} {f : α → List UInt8} : ∀ {l : List α} {a : α}, a ∈ l → (f a).length ≤ lens f l
  | b :: l, a, h => by
    rcases List.mem_cons.1 h with rfl | h
    · exact Nat.le_add_right _ _
    · exact Nat.le_trans (lens_mem h) (Nat.le_add_left _ _)
theorem lens_take {α : Type} {f : α → List UInt8} : ∀ {l : List α} {j : Nat} {a : α}, l[j]? = some a → lens f (l.take (j + 1)) = lens f (l.take j) + (f a).length
  | b :: l, 0, a, h => by
    simp only [List.getElem?_cons_zero, Option.some.injEq] at h
    subst h
    simp [lens]
  | b :: l, j + 1, a, h => by
    have := lens_take (f := f) (l := l) (j := j) (a := a) (by simpa using h)
    simp only [List.take_succ_cons, lens] at this ⊢
    omega
theorem lens_append {α : Type} {f : α → List UInt8} : ∀ (l m : List α), lens f (l ++ m) = lens f l + lens f m
  | [], m => by simp [lens]
  | a :: l, m => by simp only [List.cons_append, lens, lens_append l m]; omega
def NdS.count (n : NdS) : Nat := n.ks.length + n.vs.length + n.is.length + lens id n.ks + lens VlS.l n.vs

theorem sizeL_le : ∀ (ks : List (List UInt8)) (vs : List VlS), sizeL ks vs ≤ 6 * ks.length + lens id ks + lens VlS.l vs
  | [], vs => by simp [sizeL]
  | k :: ks, [] => by
    have := sizeL_le ks []
    simp only [sizeL, entS, VlS.zero, if_true, List.length_nil, List.length_cons, lens, id] at this ⊢
    omega
  | k :: ks, v :: vs => by
    have := sizeL_le ks vs
    simp only [sizeL, entS, List.length_cons, lens, id]
    split <;> omega
theorem sizeB_le : ∀ (ks : List (List UInt8)), sizeB ks ≤ 3 * ks.length + lens id ks
  | [] => by simp [sizeB]
  | k :: ks => by
    have := sizeB_le ks
    simp only [sizeB, List.length_cons, lens, id]
    omega
theorem NdS.size_le (n : NdS) : n.size ≤ 3 + 6 * n.count := by
  unfold NdS.size NdS.count
  have h1 := sizeL_le n.ks n.vs
  have h2 := sizeB_le n.ks
  split <;> omega

/-- The keys rise. -/
def Rise (ks : List (List UInt8)) : Prop := ∀ i k, ks[i]? = some k → k.length ≤ 72 ∧ ∀ k', 0 < i → ks[i - 1]? = some k' → Lib.compareBytes k' k < 0
def PageOk (i : Int) : Prop := 2 ≤ i ∧ i < 4096
def VlS.Right (v : VlS) : Prop := (v.p = 0 ∧ v.g = 0 ∧ v.l.length ≤ 64) ∨ (PageOk v.p ∧ 65 ≤ v.g ∧ v.g ≤ 4096 ∧ v.l = [])
def NdS.LeafRight (n : NdS) : Prop := n.vs.length = n.ks.length ∧ n.is = [] ∧ ∀ v ∈ n.vs, v.Right
def NdS.BranchRight (n : NdS) : Prop := n.is.length = n.ks.length + 1 ∧ n.vs = [] ∧ ∀ i ∈ n.is, PageOk i
structure NdS.Right (n : NdS) : Prop where
  many : n.ks.length ≤ 250
  rise : Rise n.ks
  leaf : n.leaf = true → n.LeafRight
  branch : n.leaf = false → n.BranchRight
  size : n.size ≤ 493

/-- Its bytes. -/
def two (n : Nat) : List UInt8 := [UInt8.ofNat n, UInt8.ofNat (n / 256)]
def txtB (l : List UInt8) : List UInt8 := UInt8.ofNat l.length :: l
def valB (v : VlS) : List UInt8 := if v.p = 0 then txtB v.l else 255 :: (two v.g.toNat ++ two v.p.toNat)
def entsL : List (List UInt8) → List VlS → List UInt8
  | k :: ks, v :: vs => txtB k ++ valB v ++ entsL ks vs
  | _, _ => []
def entsB : List (List UInt8) → List Int → List UInt8
  | k :: ks, i :: is => txtB k ++ two i.toNat ++ entsB ks is
  | _, _ => []
def NdS.put (n : NdS) : List UInt8 := UInt8.ofNat n.ks.length :: (if n.leaf then entsL n.ks n.vs else two (n.is.headD 0).toNat ++ entsB n.ks n.is.tail)

theorem entsL_drop {ks : List (List UInt8)} {vs : List VlS} {j : Nat} {k : List UInt8} {v : VlS} (h : ks[j]? = some k) (h' : vs[j]? = some v) :
    entsL (ks.drop j) (vs.drop j) = txtB k ++ valB v ++ entsL (ks.drop (j + 1)) (vs.drop (j + 1)) := by
  rw [drop_get h, drop_get h']
  rfl
theorem entsB_drop {ks : List (List UInt8)} {is : List Int} {j : Nat} {k : List UInt8} {i : Int} (h : ks[j]? = some k) (h' : is[j]? = some i) :
    entsB (ks.drop j) (is.drop j) = txtB k ++ two i.toNat ++ entsB (ks.drop (j + 1)) (is.drop (j + 1)) := by
  rw [drop_get h, drop_get h']
  rfl
theorem entsL_length : ∀ {ks : List (List UInt8)} {vs : List VlS}, vs.length = ks.length → (entsL ks vs).length = sizeL ks vs
  | [], [], _ => rfl
  | k :: ks, v :: vs, h => by
    have := entsL_length (ks := ks) (vs := vs) (by simpa using h)
    simp only [entsL, sizeL, List.length_append, this, txtB, valB, entS, List.length_cons]
    split
    all_goals
      simp [two]
      try omega
  | [], _ :: _, h => by simp at h
  | _ :: _, [], h => by simp at h
theorem entsB_length : ∀ {ks : List (List UInt8)} {is : List Int}, is.length = ks.length → (entsB ks is).length = sizeB ks
  | [], [], _ => rfl
  | k :: ks, v :: vs, h => by
    have := entsB_length (ks := ks) (is := vs) (by simpa using h)
    simp [entsB, sizeB, this, txtB, two]
    try omega
  | [], _ :: _, h => by simp at h
  | _ :: _, [], h => by simp at h
theorem NdS.Right.length {n : NdS} (h : n.Right) : n.put.length = n.size := by
  unfold NdS.put NdS.size
  cases hl : n.leaf
  · obtain ⟨h1, _, _⟩ := h.branch hl
    rw [if_neg (by simp), if_neg (by simp), List.length_cons, List.length_append, entsB_length (by rw [List.length_tail]; omega)]
    simp only [two, List.length_cons, List.length_nil]
    omega
  · obtain ⟨h1, _, _⟩ := h.leaf hl
    rw [if_pos rfl, if_pos rfl, List.length_cons, entsL_length h1]
    omega

end Go.Proofs.YtfpdcfomfikkiaaGreatDoor

set_option linter.unusedVariables false
set_option maxRecDepth 100000
namespace Go.Proofs.YtfpdcfomfikkiaaGreatDoor
open Go.RowKit

/-- A key, a value that lies somewhere. -/
structure Kb where
  q : Option Addr
  c : Nat
  l : List UInt8
structure Kb.Ok (w : World) (x : Kb) : Prop where
  bs : Bs w x.q x.l
  h1 : x.l.length ≤ x.c
  h2 : x.c ≤ 9223372036854775807
  z : x.q = none → x.c = 0
structure Vl where
  q : Option Addr
  c : Nat
  l : List UInt8
  g : Int
  p : Int
structure Vl.Ok (w : World) (x : Vl) : Prop where
  bs : Bs w x.q x.l
  h1 : x.l.length ≤ x.c
  h2 : x.c ≤ 9223372036854775807
  z : x.q = none → x.c = 0
  g1 : -9223372036854775808 ≤ x.g
  g2 : x.g ≤ 9223372036854775807
  p1 : -9223372036854775808 ≤ x.p
  p2 : x.p ≤ 9223372036854775807
def Vl.s (x : Vl) : VlS := ⟨x.l, x.g, x.p⟩
def Kb.v (x : Kb) : Value := .slice x.q x.l.length x.c
def Vl.cell (x : Vl) : Value := .agg #[.slice x.q x.l.length x.c, .int .i64 x.g, .int .i64 x.p]

theorem Kb.Ok.below {w w' : World} {x : Kb} (h : x.Ok w) (hb : Below w.heap.size w w') : x.Ok w' := ⟨h.bs.below hb, h.h1, h.h2, h.z⟩
theorem Vl.Ok.below {w w' : World} {x : Vl} (h : x.Ok w) (hb : Below w.heap.size w w') : x.Ok w' := ⟨h.bs.below hb, h.h1, h.h2, h.z, h.g1, h.g2, h.p1, h.p2⟩

/-- They lie at q. -/
def Kbs (w : World) (q : Option Addr) (ls : List Kb) : Prop := ls ≠ [] → ∃ b o, q = some ⟨b, o, none⟩ ∧ ∀ i x, ls[i]? = some x → w.cell? ⟨b, o + i, none⟩ = some (.slice x.q x.l.length x.c)
def Vls (w : World) (q : Option Addr) (ls : List Vl) : Prop := ls ≠ [] → ∃ b o, q = some ⟨b, o, none⟩ ∧ ∀ i x, ls[i]? = some x → w.cell? ⟨b, o + i * 3, none⟩ = some (.slice x.q x.l.length x.c) ∧ w.cell? ⟨b, o + i * 3 + 1, none⟩ = some (.int .i64 x.g) ∧ w.cell? ⟨b, o + i * 3 + 2, none⟩ = some (.int .i64 x.p)
theorem Kbs.at {w : World} {q : Option Addr} {l : List Kb} (h : Kbs w q l) {i : Nat} {x : Kb} (hx : l[i]? = some x) : ∃ b o, q = some ⟨b, o, none⟩ ∧ b < w.heap.size ∧ w.cell? ⟨b, o + i, none⟩ = some (.slice x.q x.l.length x.c) := by
  obtain ⟨b, o, hp, hc⟩ := h (by intro e; subst e; simp at hx)
  exact ⟨b, o, hp, World.block_lt_of_cell? _ _ (hc i x hx), hc i x hx⟩
theorem Kbs.below {w w' : World} {q : Option Addr} {l : List Kb} (h : Kbs w q l) (hb : Below w.heap.size w w') : Kbs w' q l := by
  intro hne
  obtain ⟨b, o, hp, hc⟩ := h hne
  refine ⟨b, o, hp, fun i u hi => ?_⟩
  have h1 := hc i u hi
  rw [hb.cell (World.block_lt_of_cell? _ _ h1)]
  exact h1
theorem Vls.at {w : World} {q : Option Addr} {l : List Vl} (h : Vls w q l) {i : Nat} {x : Vl} (hx : l[i]? = some x) : ∃ b o, q = some ⟨b, o, none⟩ ∧ b < w.heap.size ∧ w.cell? ⟨b, o + i * 3, none⟩ = some (.slice x.q x.l.length x.c) ∧ w.cell? ⟨b, o + i * 3 + 1, none⟩ = some (.int .i64 x.g) ∧ w.cell? ⟨b, o + i * 3 + 2, none⟩ = some (.int .i64 x.p) := by
  obtain ⟨b, o, hp, hc⟩ := h (by intro e; subst e; simp at hx)
  exact ⟨b, o, hp, World.block_lt_of_cell? _ _ (hc i x hx).1, hc i x hx⟩
theorem Vls.below {w w' : World} {q : Option Addr} {l : List Vl} (h : Vls w q l) (hb : Below w.heap.size w w') : Vls w' q l := by
  intro hne
  obtain ⟨b, o, hp, hc⟩ := h hne
  refine ⟨b, o, hp, fun i u hi => ?_⟩
  obtain ⟨h1, h2, h3⟩ := hc i u hi
  rw [hb.cell (World.block_lt_of_cell? _ _ h1), hb.cell (World.block_lt_of_cell? _ _ h2), hb.cell (World.block_lt_of_cell? _ _ h3)]
  exact ⟨h1, h2, h3⟩

/-- A node. -/
structure Nd where
  leaf : Bool
  kq : Option Addr
  kc : Nat
  ks : List Kb
  vq : Option Addr
  vc : Nat
  vs : List Vl
  iq : Option Addr
  ic : Nat
  is : List Int
def Nd.cell (n : Nd) : Value := .agg #[.bool n.leaf, .slice n.kq n.ks.length n.kc, .slice n.vq n.vs.length n.vc, .slice n.iq n.is.length n.ic]
def Nd.cells (n : Nd) : Array Value := #[.bool n.leaf, .slice n.kq n.ks.length n.kc, .slice n.vq n.vs.length n.vc, .slice n.iq n.is.length n.ic]
def Nd.s (n : Nd) : NdS := ⟨n.leaf, n.ks.map Kb.l, n.vs.map Vl.s, n.is⟩
def Nd.zero : Nd := ⟨false, none, 0, [], none, 0, [], none, 0, []⟩
structure Nd.Ok (w : World) (n : Nd) : Prop where
  k1 : n.ks.length ≤ n.kc
  k2 : n.kc ≤ 9223372036854775807
  kz : n.kq = none → n.kc = 0
  kl : Kbs w n.kq n.ks
  ko : ∀ x ∈ n.ks, x.Ok w
  v1 : n.vs.length ≤ n.vc
  v2 : n.vc ≤ 9223372036854775807
  vz : n.vq = none → n.vc = 0
  vl : Vls w n.vq n.vs
  vo : ∀ x ∈ n.vs, x.Ok w
  i1 : n.is.length ≤ n.ic
  i2 : n.ic ≤ 9223372036854775807
  iz : n.iq = none → n.ic = 0
  il : Ks w n.iq n.is
  io : ∀ x ∈ n.is, -9223372036854775808 ≤ x ∧ x ≤ 9223372036854775807
theorem Nd.Ok.below {w w' : World} {n : Nd} (h : n.Ok w) (hb : Below w.heap.size w w') : n.Ok w' :=
  ⟨h.k1, h.k2, h.kz, h.kl.below hb, fun x hx => (h.ko x hx).below hb, h.v1, h.v2, h.vz, h.vl.below hb, fun x hx => (h.vo x hx).below hb, h.i1, h.i2, h.iz, h.il.below hb, h.io⟩
theorem Nd.zero_ok (w : World) : Nd.zero.Ok w := ⟨Nat.le_refl _, (by show 0 ≤ _; omega), fun _ => rfl, (fun h => absurd rfl h), (fun x hx => by cases hx), Nat.le_refl _, (by show 0 ≤ _; omega), fun _ => rfl, (fun h => absurd rfl h), (fun x hx => by cases hx), Nat.le_refl _, (by show 0 ≤ _; omega), fun _ => rfl, (fun h => absurd rfl h), (fun x hx => by cases hx)⟩

/-- All blocks stay but g. -/
theorem gb_refl (w : World) (g : Nat) : w.grownBy w (some g) := ⟨rfl, rfl, rfl, Nat.le_refl _, fun _ _ _ => rfl⟩
theorem gb_below {w w' : World} {g : Nat} (h : Below w.heap.size w w') : w.grownBy w' (some g) := ⟨h.os, h.tape, h.output, h.size, fun k hk _ => h.block k hk⟩
theorem gb_trans {w w1 w2 : World} {g : Nat} (h : w.grownBy w1 (some g)) (h' : w1.grownBy w2 (some g)) : w.grownBy w2 (some g) :=
  ⟨h'.os.trans h.os, h'.tape.trans h.tape, h'.output.trans h.output, Nat.le_trans h.size h'.size, fun k hk hne => (h'.block k (Nat.lt_of_lt_of_le hk h.size) hne).trans (h.block k hk hne)⟩
theorem gb_set {w w1 : World} {g : Nat} (h : w.grownBy w1 (some g)) (i : Nat) (v : Value) : w.grownBy (w1.setCell ⟨g, i, none⟩ v) (some g) :=
  ⟨h.os, h.tape, h.output, by simpa using h.size, fun k hk hne => by
    have hk' : k ≠ g := fun e => hne (by rw [e])
    have e : (w1.setCell ⟨g, i, none⟩ v).heap[k]? = w1.heap[k]? := by simp [World.setCell, Array.getElem?_modify, Ne.symm hk']
    rw [e]
    exact h.block k hk hne⟩
theorem gb_low {w w' : World} {g : Nat} (h : w.grownBy w' (some g)) (hg : g ≤ w.heap.size) : Below g w w' := ⟨h.os, h.tape, h.output, h.size, fun k hk => h.block k (by omega) (fun e => by have := Option.some.inj e; omega)⟩
theorem Bs.low {w w' : World} {g : Nat} {p : Option Addr} {l : List UInt8} (h : Bs w p l) (hp : ∀ a, p = some a → a.block < g) (hb : Below g w w') : Bs w' p l := by
  intro hne
  obtain ⟨b, o, hpe, hc⟩ := h hne
  exact ⟨b, o, hpe, fun i u hi => by rw [hb.cell (p := ⟨b, o + i, none⟩) (hp ⟨b, o, none⟩ hpe)]; exact hc i u hi⟩

/-- A block of bytes; an address below g that lies in one. -/
def U8 (w : World) (b : Nat) : Prop := ∃ c f, w.heap[b]? = some (.cells c 5 f)
def Lo (w : World) (g : Nat) (a : Addr) : Prop := a.block < g ∧ U8 w a.block
theorem U8.below {w w' : World} {b : Nat} (h : U8 w b) (hb : Below w.heap.size w w') : U8 w' b := by
  obtain ⟨c, f, h⟩ := h
  exact ⟨c, f, by rw [hb.block _ (Array.getElem?_eq_some_iff.1 h).1]; exact h⟩
theorem U8.low {w w' : World} {b B : Nat} (h : U8 w b) (hb : Below B w w') (hB : b < B) : U8 w' b := by
  obtain ⟨c, f, h⟩ := h
  exact ⟨c, f, by rw [hb.block _ hB]; exact h⟩
theorem Lo.low {w w' : World} {g : Nat} {a : Addr} (h : Lo w g a) (hb : Below g w w') : Lo w' g a := ⟨h.1, h.2.low hb h.1⟩
theorem Bs.low' {w w' : World} {g : Nat} {p : Option Addr} {l : List UInt8} (h : Bs w p l) (hp : ∀ a, p = some a → Lo w g a) (hb : Below g w w') : Bs w' p l := h.low (fun a ha => (hp a ha).1) hb
/-- A key, a value whose bytes lie in a block of bytes. -/
def Kb.Ty (w : World) (x : Kb) : Prop := ∀ a, x.q = some a → U8 w a.block
def Vl.Ty (w : World) (x : Vl) : Prop := ∀ a, x.q = some a → U8 w a.block

/-- The box of a node. -/
structure NBox (w : World) (b : Nat) (n : Nd) : Prop where
  c0 : w.cell? ⟨b, 0, none⟩ = some (.bool n.leaf)
  c1 : w.cell? ⟨b, 1, none⟩ = some (.slice n.kq n.ks.length n.kc)
  c2 : w.cell? ⟨b, 2, none⟩ = some (.slice n.vq n.vs.length n.vc)
  c3 : w.cell? ⟨b, 3, none⟩ = some (.slice n.iq n.is.length n.ic)
theorem NBox.lt {w : World} {b : Nat} {n : Nd} (h : NBox w b n) : b < w.heap.size := World.block_lt_of_cell? _ _ h.c0
theorem NBox.low {w w' : World} {b B : Nat} {n : Nd} (h : NBox w b n) (hb : Below B w w') (hB : b < B) : NBox w' b n := by
  obtain ⟨c0, c1, c2, c3⟩ := h
  exact ⟨by rw [hb.cell hB]; exact c0, by rw [hb.cell hB]; exact c1, by rw [hb.cell hB]; exact c2, by rw [hb.cell hB]; exact c3⟩
theorem NBox.new (w : World) (n : Nd) (t : TypeId) : NBox (w.alloc (.cells #[.bool n.leaf, .slice n.kq n.ks.length n.kc, .slice n.vq n.vs.length n.vc, .slice n.iq n.is.length n.ic] t)) w.heap.size n := by
  have h := heap_alloc_new w (.cells #[.bool n.leaf, .slice n.kq n.ks.length n.kc, .slice n.vq n.vs.length n.vc, .slice n.iq n.is.length n.ic] t)
  exact ⟨Joins.cell_of_block h 0, Joins.cell_of_block h 1, Joins.cell_of_block h 2, Joins.cell_of_block h 3⟩

end Go.Proofs.YtfpdcfomfikkiaaGreatDoor

set_option linter.unusedVariables false
set_option maxRecDepth 100000
namespace Go.Proofs.YtfpdcfomfikkiaaGreatDoor
open Go.RowKit

set_option maxHeartbeats 400000 in
theorem bytesCompare_any {w : World} {p q : Option Addr} {l m : List UInt8} (hl : Bs w p l) (hm : Bs w q m) (n c k d : Nat) (hn : n = l.length) (hk : k = m.length) (hp : p = none → c = 0) (hq : q = none → d = 0) :
    Calls Tryz.prog 60 #[.slice p n c, .slice q k d] w fun e w' => e = .returned (.int .i64 (Lib.compareBytes l m)) ∧ w = w' := by
  have hr := run_cmp hl hm hn hk hp hq
  have hx : (callFunc 89 #[.slice p n c, .slice q k d]).run Tryz.prog w = .ok (.value (.int .i64 (Lib.compareBytes l m))) w := by
    rw [run_callFunc_extern Tryz.func89 (by kernel_rfl) (by kernel_rfl) (by kernel_rfl) (e := Extern.BytealgCompare.compare) (by kernel_rfl), hr]
    rfl
  clear hr hl hm hn hk hp hq
  generalize Lib.compareBytes l m = r at hx ⊢
  go_enter Tryz.func60, Tryz.ntmps60
  go_wp2
  go_ret
  exact ⟨rfl, rfl⟩

end Go.Proofs.YtfpdcfomfikkiaaGreatDoor

