/-
  pager.Open on disks that have a Meta, and on those that have none.
  pager: put, Lay.
  pager: settle; clear of a map; pins in memory.
  pager: follows, finish, Commit.
-/
import Derived.Test.YtngnmakeaniapaaGreatDoorH15
import Derived.BigQuiet
import Derived.Deep.RegionWith
set_option linter.unusedVariables false
set_option maxRecDepth 100000
namespace Go.Proofs.YtngnmakeaniapaaGreatDoor
open Go.RowKit

theorem zeros_none (no : Int) : mE (zeros 512) no ≠ 0 := by
  intro h
  have h1 := (mE_zero.1 h).2.1
  simp [zeros] at h1
theorem zeros_mG (no : Int) : mG (zeros 512) no = 0 := (m_none (zeros_none no)).1
theorem pad_same {l : List UInt8} (h : l.length = 512) : pad l = l := by
  unfold pad zeros
  rw [h]
  simp
theorem SD.flush_read (S : SD) (k : Int) : S.flush.read k = S.read k := read_flush _ _ _
theorem SD.write_read (S : SD) (k : Int) (b : List UInt8) (j : Int) : (S.write k b).read j = if j = k then pad b else S.read j := by
  unfold SD.read SD.write
  rw [found_snoc]
  unfold putAt
  split <;> rfl
theorem SD.new_read (n k : Int) : (SD.new n).read k = zeros 512 := rfl

theorem mPage_pad (g r n d : Nat) : pad (mPage g r n d) = mPage g r n d := pad_same (mPage_length g r n d)

/-- What Newest tells, where a Meta is newer than what stands beside it. -/
theorem newest_is {a b : List UInt8} {g r n d : Nat} (h : MRight g r n d) (hz : (g % 2 = 0 ∧ a = mPage g r n d ∧ mG b 1 < g) ∨ (g % 2 = 1 ∧ b = mPage g r n d ∧ mG a 0 < g)) : newG a b = g ∧ newR a b = r ∧ newN a b = n ∧ newD a b = d := by
  unfold newG newR newN newD
  rcases hz with ⟨h0, rfl, hlt⟩ | ⟨h0, rfl, hlt⟩
  · obtain ⟨_, e1, e2, e3, e4⟩ := page_is h (no := 0) (by omega)
    rw [e1, e2, e3, e4]
    have : ¬ g < mG b 1 := by omega
    simp [this]
  · obtain ⟨_, e1, e2, e3, e4⟩ := page_is h (no := 1) (by omega)
    rw [e1, e2, e3, e4]
    simp [hlt]

/-- The disk behind Open. -/
noncomputable def openS (S : SD) (g : Nat) : SD := open Classical in if mE (S.read (((g + 1) % 2 : Nat) : Int)) (((g + 1) % 2 : Nat) : Int) = 0 then S else (S.write (((g + 1) % 2 : Nat) : Int) []).flush

theorem openS_left {S : SD} (h : S.left = -1) (g : Nat) : (openS S g).left = -1 := by
  unfold openS
  split
  · exact h
  · exact SD.tick_left (S := S.write _ _) (SD.tick_left h)
theorem openS_size (S : SD) (g : Nat) : (openS S g).size = S.size := by
  unfold openS
  split <;> rfl
theorem openS_ops (S : SD) (g : Nat) : (openS S g).ops ≤ S.ops + 2 := by
  unfold openS
  split
  · omega
  · show S.ops + 1 + 1 ≤ _; omega
/-- All but the sector of the other Meta is as it was. -/
theorem openS_read (S : SD) (g : Nat) {k : Int} (hk : k ≠ (((g + 1) % 2 : Nat) : Int)) : (openS S g).read k = S.read k := by
  unfold openS
  split
  · rfl
  · rw [SD.flush_read, SD.write_read, if_neg hk]

theorem grOpen_meta {w : World} (hT : Tab w) {B pd lm fm : Nat} {S : SD} (h : DiskAt w B pd lm fm S) (hB : B ≤ w.heap.size) (hl : S.left = -1) (ho : S.ops ≤ 999999990) (h2 : 2 ≤ S.size) {g r n d : Nat} (hm : MRight g r n d) (hr : (r : Int) < S.size)
    (hp : S.read ((g % 2 : Nat) : Int) = mPage g r n d) (hlt : mG (S.read (((g + 1) % 2 : Nat) : Int)) (((g + 1) % 2 : Nat) : Int) < g) :
    Calls Tryz.prog 44 #[.pointer (some ⟨pd, 0, none⟩)] w (OpenedPost w B pd (PG.new (openS S g) g r n d)) := by
  have hb := hm.b
  have hOn := openOn hT h
  obtain ⟨e1, e2, e3, e4⟩ := newest_is (a := S.read 0) (b := read1 S) hm (by
    unfold read1
    rw [if_pos (by omega)]
    rcases Nat.mod_two_eq_zero_or_one g with h0 | h0
    · refine .inl ⟨h0, ?_, ?_⟩
      · rw [← hp, h0]; rfl
      · have : (g + 1) % 2 = 1 := by omega
        rw [this] at hlt
        exact hlt
    · refine .inr ⟨h0, ?_, ?_⟩
      · rw [← hp, h0]; rfl
      · have : (g + 1) % 2 = 0 := by omega
        rw [this] at hlt
        exact hlt)
  rw [e1, e2, e3, e4] at hOn
  refine grOpen_yes (S := S) (S' := openS S g) (lm := lm) (fm := fm) hOn hB (by omega) (by omega) hr (openS_size S g) h2 fun w1 hb1 => ?_
  have h1 := h.below hb1
  have hT1 := hT.below hT.lt hb1
  have hno : (((g + 1) % 2 : Nat) : Int) = 0 ∨ (((g + 1) % 2 : Nat) : Int) = 1 := by omega
  unfold openS
  by_cases hE : mE (S.read (((g + 1) % 2 : Nat) : Int)) (((g + 1) % 2 : Nat) : Int) = 0
  · rw [if_pos hE]
    exact (grMend_there (mendOn hT1 h1 hno h2) hE).mono fun e w' ⟨he, hb'⟩ => ⟨he, h1.below hb', hb'.mono h1.base, Keeps.below hb'⟩
  · rw [if_neg hE]
    exact grMend_mend hT1 h1 hl ho hno h2 hE

/-- Open of a disk whose first sector has no bytes. -/
def Open1Post (w : World) (B pd : Nat) (S : SD) (e : Ending) (w' : World) : Prop :=
  ∃ a x lm fm S', e = .returned (.tuple #[.pointer a, .int .i64 x]) ∧ DiskAt w' B pd lm fm S' ∧ Below B w w' ∧ S'.size = S.size ∧ S'.left = -1 ∧ S'.ops ≤ S.ops + 2 ∧ (2 < S.size → a = none ∧ x = 18)

theorem grOpen_first {w : World} (hT : Tab w) {B pd lm fm : Nat} {S : SD} (h : DiskAt w B pd lm fm S) (hB : B ≤ w.heap.size) (hl : S.left = -1) (ho : S.ops ≤ 999999990) (h0 : S.read 0 = zeros 512) (h1 : 2 < S.size → S.read 1 = zeros 512) :
    Calls Tryz.prog 44 #[.pointer (some ⟨pd, 0, none⟩)] w (Open1Post w B pd S) := by
  have hOn := openOn hT h
  have hno : ∀ e w', (e = .returned (.tuple #[.pointer none, .int .i64 18]) ∧ Below w.heap.size w w') → Open1Post w B pd S e w' := by
    rintro e w' ⟨rfl, hb⟩
    exact ⟨none, 18, lm, fm, S, rfl, h.below hb, hb.mono hB, rfl, hl, by omega, fun _ => ⟨rfl, rfl⟩⟩
  have hs1 := h.ok.s1
  by_cases hG : newG (S.read 0) (read1 S) = 0
  · exact (grOpen_none hOn hG).mono hno
  · by_cases hr : S.size ≤ (newR (S.read 0) (read1 S) : Int)
    · exact (grOpen_root hOn hG hr).mono hno
    · -- the disk has two sectors, and the second one a Meta
      have hz : mG (S.read 0) 0 = 0 := by rw [h0]; exact zeros_mG 0
      have h2 : S.size = 2 := by
        rcases Int.lt_or_le 2 S.size with h3 | h3
        · exfalso
          apply hG
          have e : read1 S = zeros 512 := by unfold read1; rw [if_pos (show 1 < S.size by omega), h1 h3]
          unfold newG
          rw [e, hz, zeros_mG]
          simp
        · rcases Int.lt_or_le 1 S.size with h4 | h4
          · omega
          · exfalso
            apply hG
            have e : read1 S = [] := by unfold read1; rw [if_neg (show ¬ 1 < S.size by omega)]
            unfold newG
            rw [e, hz, (nil_not 1).1]
            simp
      have e1 : read1 S = S.read 1 := by unfold read1; rw [if_pos (by omega)]
      have hgt : newG (S.read 0) (read1 S) = mG (S.read 1) 1 := by
        unfold newG
        rw [hz, e1]
        split
        · rfl
        · omega
      have hne : mG (S.read 1) 1 ≠ 0 := by rw [← hgt]; exact hG
      have hE := m_gen.2 hne
      obtain ⟨f1, _⟩ := m_some hE
      obtain ⟨_, _, _, hodd, _, hR⟩ := mE_zero.1 hE
      have hb := hR.b
      have hpar : (newG (S.read 0) (read1 S) + 1) % 2 = 0 := by rw [hgt, f1]; omega
      refine (grOpen_yes (S := S) (S' := (S.write 0 []).flush) (lm := lm) (fm := fm) hOn hB hG (by rw [hgt, f1]; omega) (by omega) rfl (by omega) fun w1 hb1 => ?_).mono ?_
      · rw [hpar]
        exact grMend_mend (hT.below hT.lt hb1) (h.below hb1) hl ho (.inl rfl) (by omega) (by show mE (S.read 0) 0 ≠ 0; rw [h0]; exact zeros_none 0)
      · rintro e w' ⟨P, rfl, hs⟩
        obtain ⟨lm', fm', pl, um, wm, la, v, hg⟩ := hs.at_
        exact ⟨some ⟨P, 0, none⟩, 0, lm', fm', (S.write 0 []).flush, rfl, hg.disk, hs.below, rfl, SD.tick_left (S := S.write 0 []) (SD.tick_left hl), by show S.ops + 1 + 1 ≤ _; omega, fun h => by omega⟩

/-- A disk that was formatted. -/
theorem fmt_read {S : SD} : (fmtS S 2).flush.read 0 = mPage 2 0 1 1 ∧ (fmtS S 2).flush.read 1 = mPage 1 0 1 1 := by
  rw [SD.flush_read, SD.flush_read]
  show ((S.write 1 (mPage 1 0 1 1)).write 0 (mPage 2 0 1 1)).read 0 = _ ∧ ((S.write 1 (mPage 1 0 1 1)).write 0 (mPage 2 0 1 1)).read 1 = _
  refine ⟨?_, ?_⟩
  · rw [SD.write_read, if_pos rfl]
    exact mPage_pad _ _ _ _
  · rw [SD.write_read, if_neg (by decide), SD.write_read, if_pos rfl]
    exact mPage_pad _ _ _ _
theorem fmt_flush_left {S : SD} (h : S.left = -1) : (fmtS S 2).flush.left = -1 := SD.tick_left (fmtS_left h 2)

theorem grOpen_fmt {w : World} (hT : Tab w) {B pd lm fm : Nat} {S : SD} (h : DiskAt w B pd lm fm (fmtS S 2).flush) (hB : B ≤ w.heap.size) (hl : S.left = -1) (ho : S.ops ≤ 999999980) (h4 : 4 ≤ S.size) :
    Calls Tryz.prog 44 #[.pointer (some ⟨pd, 0, none⟩)] w (OpenedPost w B pd (PG.new (fmtS S 2).flush 2 0 1 1)) := by
  obtain ⟨r0, r1⟩ := fmt_read (S := S)
  have hm1 : MRight (1 : Nat) (0 : Nat) (1 : Nat) (1 : Nat) := fmt_right (by omega) (by omega)
  have hm2 : MRight (2 : Nat) (0 : Nat) (1 : Nat) (1 : Nat) := fmt_right (by omega) (by omega)
  obtain ⟨q1, q2, _⟩ := page_is hm1 (no := 1) rfl
  have hz : (fmtS S 2).flush.size = S.size := fmtS_size (S := S) 2
  have h1 := grOpen_meta hT h hB (fmt_flush_left hl) (by show (fmtS S 2).ops + 1 ≤ _; have := (fmtS_ops (S := S) 2).1; omega) (by omega) hm2 (by rw [hz]; show (0 : Int) < _; omega) r0 (by
    show mG ((fmtS S 2).flush.read 1) 1 < 2
    rw [r1, q2]
    decide)
  have e : openS (fmtS S 2).flush 2 = (fmtS S 2).flush := by
    have hx : mE ((fmtS S 2).flush.read (((2 + 1) % 2 : Nat) : Int)) (((2 + 1) % 2 : Nat) : Int) = 0 := by
      show mE ((fmtS S 2).flush.read 1) 1 = 0
      rw [r1]
      exact q1
    exact if_pos hx
  rwa [e] at h1

end Go.Proofs.YtngnmakeaniapaaGreatDoor

set_option linter.unusedVariables false
set_option maxRecDepth 100000
namespace Go.Proofs.YtngnmakeaniapaaGreatDoor
open Go.RowKit

/-- Bytes that stay while a pager changes. -/
def GBytes (w : World) (B : Nat) (q : Option Addr) (l : List UInt8) : Prop := ∀ w', Below B w w' → Keeps ofGr w w' → Bs w' q l
theorem GBytes.on {w w' : World} {B : Nat} {q : Option Addr} {l : List UInt8} (h : GBytes w B q l) (h1 : Below B w w') (h2 : Keeps ofGr w w') : GBytes w' B q l := fun w2 h3 h4 => h w2 (h1.trans h3) (h2.trans h4)
theorem GBytes.bs {w : World} {B : Nat} {q : Option Addr} {l : List UInt8} (h : GBytes w B q l) : Bs w q l := h w (Below.refl _ _) (Keeps.refl _ _)
theorem GBytes.nil (w : World) (B : Nat) (q : Option Addr) : GBytes w B q [] := fun _ _ _ => Bs.nil _ _
theorem GBytes.arg {W w : World} {q : Option Addr} {l : List UInt8} (h : Bs W q l) (hb : Below W.heap.size W w) : GBytes w W.heap.size q l := fun w' h1 _ => h.below (hb.trans h1)
theorem ofGr_u8 (i : Nat) (c : Array Value) (f : Nat × Nat) : ofGr i (.cells c 5 f) = false := by
  show ((5 : TypeId) == 56 || (5 : TypeId) == 102 || (5 : TypeId) == 140 || (5 : TypeId) == 183) = false
  decide
theorem GBytes.sec {w : World} {B g : Nat} {l : List UInt8} (h : Sec w g l) : GBytes w B (some ⟨g, 0, none⟩) l := fun w' _ h2 => Sec.bs (h2.stay h (ofGr_u8 _ _ _))

theorem setOf_add (L : Int → Bool) (k : Int) : (fun x => if x = k then some (Value.agg #[]) else setOf L x) = setOf (fun x => if x = k then true else L x) := by
  funext x
  simp only [setOf]
  split <;> simp
theorem setOf_del (L : Int → Bool) (k : Int) : (fun x => if x = k then none else setOf L x) = setOf (fun x => if x = k then false else L x) := by
  funext x
  simp only [setOf]
  split <;> simp

section
variable {w w' : World} {B P pd lm fm pl um wm la : Nat} {v : Value} {X : PG}

set_option maxHeartbeats 1600000 in
theorem grPut_gen (hT : Tab w) (h : GrIs w B P pd lm fm pl um wm la v X) (kind : UInt8) {k : Nat} (hk : k < 4096) (hg : X.g + 1 ≤ 1152921504606846976) {q : Option Addr} {n c : Nat} {l : List UInt8} (hl : Bs w q l) (hn : n = l.length) (hnc : n ≤ c) (hc : c ≤ 9223372036854775807) (h493 : n ≤ 493) {z : Int} {R : World → Prop}
    (HW : ∀ w1 g, Below w.heap.size w w1 → Sec w1 g (pageB kind k (X.g + 1) l) → Calls Tryz.prog 115 #[.pointer (some ⟨pd, 0, none⟩), .int .i64 (k : Int), .slice (some ⟨g, 0, none⟩) 512 512] w1 fun e w' => e = .returned (.int .i64 z) ∧ R w') :
    Calls Tryz.prog 247 #[.pointer (some ⟨P, 0, none⟩), .int .u8 (kind.toNat : Int), .int .i64 (k : Int), .slice q n c] w fun e w' => e = .returned (.int .i64 z) ∧ R w' := by
  have HNX := Lib.hid (grNext h)
  have HS := seal_ok hT kind (no := k) (gen := X.g + 1) hk hg hl hn hnc hc h493
  rw [show ((X.g + 1 : Nat) : Int) = (X.g : Int) + 1 by omega] at HS
  replace HS := Lib.hid HS
  have HC0 : Hid (∀ w', Below w.heap.size w w' → w'.cell? ⟨P, 0, none⟩ = some (.pointer (some ⟨pd, 0, none⟩))) := Lib.hid fun w' hb => (h.below hb).c0
  have HWh := Lib.hid HW
  clear h HW hT hl hk hn hnc hc
  generalize pageB kind k (X.g + 1) l = pg at *
  generalize (X.g : Int) = g at *
  generalize (k : Int) = k' at *
  generalize (kind.toNat : Int) = kk at *
  go_enter Tryz.func247, Tryz.ntmps247
  go_wp2_with fail
  refine HNX.out.mono ?_; rintro e w1 ⟨rfl, rfl⟩
  go_wp2_with fail
  refine HS.out.mono ?_; rintro e w1 ⟨rfl, hs, hb⟩
  have HB := Lib.hid hb
  have HSEC := Lib.hid (show Sec w1 _ pg from hs)
  have c0 := HC0.out _ hb
  clear hs hb
  go_wp2_with fail
  refine (HWh.out _ _ HB.out HSEC.out).mono ?_; rintro e w2 ⟨rfl, hr⟩
  have HR := Lib.hid hr
  clear hr
  go_wp2
  go_ret
  exact ⟨rfl, HR.out⟩

/-- Behind a page that was laid. -/
def PG.lay (X : PG) (k : Int) (pg : List UInt8) : PG := { X with S := X.S.write k pg, F := X.F.take k, L := fun x => if x = k then true else X.L x, laid := true }

theorem FL.alloc_some {F : FL} {k : Int} (h : F.least = some k) : F.alloc = F.take k ∧ F.allocV = .tuple #[.int .i64 k, .int .i64 0] := by
  unfold FL.alloc FL.allocV
  rw [h]
  exact ⟨rfl, rfl⟩
theorem FL.alloc_none {F : FL} (h : F.least = none) : F.alloc = F ∧ F.allocV = .tuple #[.int .i64 0, .int .i64 15] := by
  unfold FL.alloc FL.allocV
  rw [h]
  exact ⟨rfl, rfl⟩
theorem FL.take_drop {F : FL} {k : Int} (h : F.used k = false) : (F.take k).drop k = F := by
  have e : ((F.take k).drop k).used = F.used := by
    funext x
    simp only [FL.take, FL.drop]
    split
    · rename_i hx; rw [hx, h]
    · rfl
  obtain ⟨lo, hi, u, ws⟩ := F
  simp only [FL.take, FL.drop] at e ⊢
  rw [e]
theorem FL.free_used {F : FL} {k : Int} (h : F.st k = 1) : F.used k = false ∧ F.waits k = none ∧ F.lo ≤ k ∧ k < F.hi := by
  unfold FL.st at h
  cases hh : F.has k <;> cases hu : F.used k <;> cases hw : F.waits k <;> simp [hh, hu, hw] at h ⊢
  exact FL.has_iff.1 hh

set_option maxHeartbeats 1600000 in
theorem grLay_full (h : GrIs w B P pd lm fm pl um wm la v X) (hf : X.failed = false) (hF : X.F.least = none) (kind : UInt8) (q : Option Addr) {n : Nat} (c : Nat) (h493 : n ≤ 493) :
    Calls Tryz.prog 242 #[.pointer (some ⟨P, 0, none⟩), .int .u8 (kind.toNat : Int), .slice q n c] w fun e w' => e = .returned (.tuple #[.int .i64 0, .int .i64 15]) ∧ GrStep w w' B P pd X := by
  have HM := Lib.hid h.made
  have c10 := h.c10
  have c1 := h.c1
  rw [hf] at c10
  obtain ⟨a1, a2⟩ := FL.alloc_none hF
  have HA := frAlloc_any h.list
  rw [a1, a2] at HA
  replace HA := Lib.hid HA
  have H := Lib.hid h
  have d1 : decide ((493 : Int) < (n : Int)) = false := decide_eq_false (by omega)
  clear h a1 a2 hF
  go_enter Tryz.func242, Tryz.ntmps242
  go_wp2_with fail
  refine HM.out.mono ?_; rintro e w1 ⟨rfl, rfl⟩
  go_wp2_with fail
  refine HA.out.mono ?_; rintro e w1 ⟨rfl, hfr, hon⟩
  have HG := Lib.hid (GrStep.list H.out hfr hon)
  clear hfr hon
  go_wp2
  go_ret2
  exact ⟨rfl, HG.out⟩

set_option maxHeartbeats 3200000 in
theorem grLay_cut (hT : Tab w) (hB : 1 < B) (h : GrIs w B P pd lm fm pl um wm la v X) (hf : X.failed = false) {k : Nat} (hF : X.F.least = some (k : Int)) (h0 : X.S.left = 0) (hz : X.F.hi = X.S.size) (hg : X.g + 1 ≤ 1152921504606846976) (kind : UInt8) {q : Option Addr} {n c : Nat} {l : List UInt8} (hl : GBytes w B q l) (hn : n = l.length) (hnc : n ≤ c) (hc : c ≤ 9223372036854775807) (h493 : n ≤ 493) :
    Calls Tryz.prog 242 #[.pointer (some ⟨P, 0, none⟩), .int .u8 (kind.toNat : Int), .slice q n c] w fun e w' => e = .returned (.tuple #[.int .i64 0, .int .i64 17]) ∧ GrStep w w' B P pd X := by
  have HM := Lib.hid h.made
  have c10 := h.c10
  have c1 := h.c1
  rw [hf] at c10
  obtain ⟨a1, a2⟩ := FL.alloc_some hF
  have hst := (FL.least_some hF).1
  obtain ⟨u1, u2, u3, u4⟩ := FL.free_used hst
  have h96 := h.list.ok.h2
  have hlo := h.list.ok.h0
  have HA := frAlloc_any h.list
  rw [a1, a2] at HA
  replace HA := Lib.hid HA
  have HP : Hid (∀ w1, GrIs w1 B P pd lm fm pl um wm la v { X with F := X.F.take k } → Below B w w1 → Keeps ofGr w w1 → Calls Tryz.prog 247 #[.pointer (some ⟨P, 0, none⟩), .int .u8 (kind.toNat : Int), .int .i64 (k : Int), .slice q n c] w1 fun e w2 => e = .returned (.int .i64 17) ∧ Below w1.heap.size w1 w2) := Lib.hid fun w1 h1 hb hkk =>
    grPut_gen (k := k) (hT.below hB hb) h1 kind (by omega) hg (hl w1 hb hkk) hn hnc hc h493 fun w2 g hb2 hs =>
      (write_cut (k := (k : Int)) (h1.disk.below hb2) h0 (by omega) (by show (k : Int) < X.S.size; omega) (some ⟨g, 0, none⟩) 512 512 (by omega)).mono fun e w3 ⟨he, hb3⟩ => ⟨he, hb2.trans (hb3.mono hb2.size)⟩
  have HGV : Hid (∀ w1, GrIs w1 B P pd lm fm pl um wm la v { X with F := X.F.take k } → Calls Tryz.prog 110 #[.pointer (some ⟨pl, 0, none⟩), .int .i64 (k : Int)] w1 (FrStep w1 pl um wm X.F (.int .i64 0))) := Lib.hid fun w1 h1 => by
    have hst2 : (X.F.take k).st k = 2 := FL.st_two.2 ⟨FL.has_iff.2 ⟨u3, u4⟩, by simp [FL.take]⟩
    have hh := frGive_any h1.list (k := k) (FL.has_iff.2 ⟨u3, u4⟩)
    rw [if_pos hst2, if_pos hst2, FL.take_drop u1] at hh
    exact hh
  have H := Lib.hid h
  have d1 : decide ((493 : Int) < (n : Int)) = false := decide_eq_false (by omega)
  clear h a1 a2 hF hT hst u1 u2 u3 u4 h96 hlo hl hn hnc hc
  generalize (k : Int) = kk at *
  go_enter Tryz.func242, Tryz.ntmps242
  go_wp2_with fail
  refine HM.out.mono ?_; rintro e w1 ⟨rfl, rfl⟩
  go_wp2_with fail
  refine HA.out.mono ?_; rintro e w1 ⟨rfl, hfr, hon⟩
  obtain ⟨g1, g2, g3⟩ := H.out.onList hfr hon
  have G1 := Lib.hid g1
  have G2 := Lib.hid g2
  have G3 := Lib.hid (g3.mono (isMaps_ofGrP H.out.mUW))
  clear hfr hon g1 g2 g3
  go_wp2_with fail
  refine (HP.out _ G1.out G2.out (G3.out.mono ofGrP_ofGr)).mono ?_; rintro e w2 ⟨rfl, hb2⟩
  have G4 := Lib.hid (G1.out.below hb2)
  have G5 := Lib.hid (G2.out.trans (hb2.mono G1.out.base))
  have G6 := Lib.hid (G3.out.trans (Keeps.below hb2))
  have c1 := (G1.out.below hb2).c1
  clear hb2
  go_wp2_with fail
  refine (HGV.out _ G4.out).mono ?_; rintro e w3 ⟨rfl, hfr, hon⟩
  have HG := Lib.hid (GrStep.of G5.out G6.out (GrStep.list G4.out hfr hon))
  clear hfr hon c1
  go_wp2
  go_ret2
  exact ⟨rfl, HG.out⟩

set_option maxHeartbeats 3200000 in
theorem grLay_ok (hT : Tab w) (hB : 1 < B) (h : GrIs w B P pd lm fm pl um wm la v X) (hf : X.failed = false) {k : Nat} (hF : X.F.least = some (k : Int)) (h0 : X.S.left ≠ 0) (h1 : -1 ≤ X.S.left) (h2 : X.S.left ≤ 9223372036854775807) (ho : X.S.ops ≤ 999999999) (hz : X.F.hi = X.S.size) (hg : X.g + 1 ≤ 1152921504606846976) (kind : UInt8) {q : Option Addr} {n c : Nat} {l : List UInt8} (hl : GBytes w B q l) (hn : n = l.length) (hnc : n ≤ c) (hc : c ≤ 9223372036854775807) (h493 : n ≤ 493) :
    Calls Tryz.prog 242 #[.pointer (some ⟨P, 0, none⟩), .int .u8 (kind.toNat : Int), .slice q n c] w fun e w' => e = .returned (.tuple #[.int .i64 (k : Int), .int .i64 0]) ∧ GrStep w w' B P pd (X.lay k (pageB kind k (X.g + 1) l)) := by
  have HM := Lib.hid h.made
  have c10 := h.c10
  have c1 := h.c1
  rw [hf] at c10
  obtain ⟨a1, a2⟩ := FL.alloc_some hF
  have hst := (FL.least_some hF).1
  obtain ⟨u1, u2, u3, u4⟩ := FL.free_used hst
  have h96 := h.list.ok.h2
  have hlo := h.list.ok.h0
  have HA := frAlloc_any h.list
  rw [a1, a2] at HA
  replace HA := Lib.hid HA
  have hpl : (pageB kind k (X.g + 1) l).length = 512 := pageB_length (by omega)
  have HP : Hid (∀ w1, GrIs w1 B P pd lm fm pl um wm la v { X with F := X.F.take k } → Below B w w1 → Keeps ofGr w w1 → Calls Tryz.prog 247 #[.pointer (some ⟨P, 0, none⟩), .int .u8 (kind.toNat : Int), .int .i64 (k : Int), .slice q n c] w1 fun e w2 => e = .returned (.int .i64 0) ∧ DiskStep w1 w2 B pd lm fm (X.S.write k (pageB kind k (X.g + 1) l))) := Lib.hid fun w1 hw1 hb hkk =>
    grPut_gen (k := k) (hT.below hB hb) hw1 kind (by omega) hg (hl w1 hb hkk) hn hnc hc h493 fun w2 g hb2 hs =>
      (write_any (k := (k : Int)) (hw1.disk.below hb2) h0 h1 h2 ho (by omega) (by show (k : Int) < X.S.size; omega) 512 (Bytes.sec hs) hpl.symm (Nat.le_of_eq hpl)).mono fun e w3 ⟨he, hs3⟩ => ⟨he, DiskStep.of (hb2.mono hw1.base) (Keeps.below hb2) hs3⟩
  have H := Lib.hid h
  have d1 : decide ((493 : Int) < (n : Int)) = false := decide_eq_false (by omega)
  clear h a1 a2 hF hT hst u1 u2 u3 u4 h96 hlo hl hn hnc hc hpl h1 h2
  generalize pageB kind k (X.g + 1) l = pg at *
  generalize (k : Int) = kk at *
  go_enter Tryz.func242, Tryz.ntmps242
  go_wp2_with fail
  refine HM.out.mono ?_; rintro e w1 ⟨rfl, rfl⟩
  go_wp2_with fail
  refine HA.out.mono ?_; rintro e w1 ⟨rfl, hfr, hon⟩
  obtain ⟨g1, g2, g3⟩ := H.out.onList hfr hon
  have G1 := Lib.hid g1
  have G2 := Lib.hid g2
  have G3 := Lib.hid (g3.mono (isMaps_ofGrP H.out.mUW))
  clear hfr hon g1 g2 g3
  go_wp2_with fail
  refine (HP.out _ G1.out G2.out (G3.out.mono ofGrP_ofGr)).mono ?_; rintro e w2 ⟨rfl, hs2⟩
  have G4 := Lib.hid (G1.out.onDisk hs2)
  have G5 := Lib.hid (G2.out.trans hs2.below)
  have G6 := Lib.hid (G3.out.trans (hs2.keeps.mono (ofDisk_ofGrP H.out.mP.1 H.out.mP.2.1)))
  have c6 := (G1.out.onDisk hs2).c6
  clear hs2
  go_wp2_with (at_mapUpdate; refine st_store rfl _ _ _ _ 3 162 rfl Tryz.underlying135 Tryz.underlying3 rfl G4.out.mla rfl rfl ?_; intro w3 hm hg3; obtain ⟨g7, g8, g9⟩ := G4.out.onLaid (L := fun x => if x = kk then true else X.L x) ((setOf_add X.L kk) ▸ hm) hg3; have G7 := Lib.hid g7; have G8 := Lib.hid (G5.out.trans g8); have G9 := Lib.hid (G6.out.trans (g9.mono (isMaps_ofGrP H.out.mLa))); have c9 := g7.c9; have u9 := g7.soft 9; clear hm hg3 g7 g8 g9)
  go_ret2
  obtain ⟨b1, b2⟩ := cell_set (i := 9) (v := .bool true) G7.out.blk
  exact ⟨rfl, GrStep.of G8.out G9.out (GrStep.own (Y := X.lay kk pg) G7.out (by simpa [grCells, PG.lay] using b1) b2 G7.out.pins rfl rfl rfl G7.out.g0)⟩
end

end Go.Proofs.YtngnmakeaniapaaGreatDoor

set_option linter.unusedVariables false
set_option maxRecDepth 100000
namespace Go.Proofs.YtngnmakeaniapaaGreatDoor
open Go.RowKit Go.MapKept
open Go.ChangeMaps (setBlock heap_setBlock_same heap_setBlock_other)

section
variable {P : Program} {w : World} {ops : Array Oper} {rest : List Oper} {o : Oper} {a : Act} {Q : Exit → Act → World → Prop} {b : Nat} {f : Int → Option Value} {t kt et : TypeId}

theorem MapSt.clear (h : MapSt w b f) (ht : P.underlying t = some (.map kt et)) (ty : TypeId) :
    ∃ w', (Builtin.clear_ #[t] ty #[.map (some b)]).run P w = .ok (.tuple #[]) w' ∧ MapSt w' b (fun _ => none) ∧ w.grownBy w' (some b) := by
  obtain ⟨es, c, hb, _⟩ := h.st
  refine ⟨setBlock w b (.map #[] c), ?_, ⟨⟨#[], c, heap_setBlock_same hb _, by simp, by simp, by simp⟩, #[], c, heap_setBlock_same hb _, by simp, by simp⟩, setBlock_grown hb⟩
  have hg := run_getObj_map w b es c hb (P := P)
  simp [Builtin.clear_, run_underlying ht, hg, run_setObj_map _ hb, Result.andThen, setBlock]

/-- clear(m) -/
theorem st_clear (hg : o.guard = none) (m : Operand) (t kt et : TypeId) (hop : o.op = Op.call { callee := Callee.builtin Builtin.clear, args := #[m], argTypes := #[t] }) (ht : P.underlying t = some (.map kt et))
    (hm : a.eval m = .map (some b)) (h : MapSt w b f)
    (hK : ∀ w', MapSt w' b (fun _ => none) → w.grownBy w' (some b) → wpList P ops Q rest (a.put o.dst (.tuple #[])) w') : wpList P ops Q (o :: rest) a w := by
  refine wpList_plain hg fun K' hK' => ?_
  obtain ⟨w1, hrun, h1, h2⟩ := h.clear ht o.type
  unfold Oper.wp
  simp [execOp, hop, resolve, invoke, builtin, hm, hrun, Result.andThen]
  exact hK' _ _ (hK _ h1 h2)
end

theorem setOf_none : setOf (fun _ => false) = fun _ => none := by funext k; simp [setOf]

theorem pcells_get {ps : List (Int × Int)} {i : Nat} {x : Int × Int} (h : ps[i]? = some x) : (pcells ps)[i * 2]? = some (.int .i64 x.1) ∧ (pcells ps)[i * 2 + 1]? = some (.int .i64 x.2) := by
  induction ps generalizing i with
  | nil => simp at h
  | cons y ms ih =>
    cases i with
    | zero =>
      simp at h
      subst h
      exact ⟨rfl, rfl⟩
    | succ i =>
      have h' := ih (by simpa using h)
      have e : pcells (y :: ms) = [.int .i64 y.1, .int .i64 y.2] ++ pcells ms := rfl
      rw [e]
      have e1 : (i + 1) * 2 = 2 + i * 2 := by omega
      rw [e1, List.getElem?_append_right (by simp), List.getElem?_append_right (by simp; omega)]
      have e2 : 2 + i * 2 - [Value.int IntKind.i64 y.1, Value.int IntKind.i64 y.2].length = i * 2 := by simp
      have e3 : 2 + i * 2 + 1 - [Value.int IntKind.i64 y.1, Value.int IntKind.i64 y.2].length = i * 2 + 1 := by simp; omega
      rw [e2, e3]
      exact h'

/-- The pins, in memory. -/
theorem pins_at {w : World} {B : Nat} {v : Value} {ps : List (Int × Int)} (h : w.ownsRow B 183 2 v ps.length (pcells ps)) :
    (v = .slice none 0 0 ∧ ps = []) ∨ ∃ g cap, v = .slice (some ⟨g, 0, none⟩) ps.length cap ∧ B ≤ g ∧ g < w.heap.size ∧ ps.length ≤ cap ∧ cap ≤ 9223372036854775807 ∧
      (∀ i x, ps[i]? = some x → w.cell? ⟨g, i * 2, none⟩ = some (.int .i64 x.1) ∧ w.cell? ⟨g, i * 2 + 1, none⟩ = some (.int .i64 x.2)) ∧ ∀ j, w.frozen? ⟨g, j, none⟩ = false := by
  rcases h.2 with ⟨rfl, h0⟩ | ⟨g, cap, cur, rfl, hb, hg, hnc, hcm, hcs, htake⟩
  · exact .inl ⟨rfl, List.eq_nil_of_length_eq_zero h0⟩
  · refine .inr ⟨g, cap, rfl, hb, (Array.getElem?_eq_some_iff.1 hg).1, hnc, by unfold maxLen at hcm; omega, fun i x hx => ?_, fun j => Joins.unfrozen_of_block hg j⟩
    obtain ⟨h1, h2⟩ := pcells_get hx
    have a1 := h.cells (g := g) rfl (i * 2) _ h1
    have a2 := h.cells (g := g) rfl (i * 2 + 1) _ h2
    rw [Addr.add_lit, Nat.zero_add] at a1 a2
    exact ⟨a1, a2⟩

/-- The least generation that is pinned, or the committed one. -/
def PG.low (X : PG) : Int := match X.pins with | [] => X.g | x :: _ => x.1
def PG.settle (X : PG) : PG := { X with F := X.F.leave fun g => decide (g ≤ X.low) }

section
variable {w w' : World} {B P pd lm fm pl um wm la : Nat} {v : Value} {X : PG}

set_option maxHeartbeats 1600000 in
theorem grSettle (h : GrIs w B P pd lm fm pl um wm la v X) :
    Calls Tryz.prog 109 #[.pointer (some ⟨P, 0, none⟩)] w fun e w' => e = .returned (.tuple #[]) ∧ GrStep w w' B P pd X.settle := by
  have c1 := h.c1
  have c2 := h.c2
  have c7 := h.c7
  have HS := frSettle_any h.list X.low
  have H := Lib.hid h
  rcases pins_at h.pins with ⟨hv, hp⟩ | ⟨g, cap, hv, hgB, hgl, hnc, hcap, hcell, _⟩
  · have e : X.low = X.g := by unfold PG.low; rw [hp]
    have HF : Hid (X.settle = { X with F := X.F.leave fun g => decide (g ≤ (X.g : Int)) }) := Lib.hid (by unfold PG.settle; rw [e])
    rw [e] at HS
    replace HS := Lib.hid HS
    rw [hv] at c7
    clear h hp e hv
    go_enter Tryz.func109, Tryz.ntmps109
    go_wp2_with fail
    refine HS.out.mono ?_; rintro e w1 ⟨rfl, hfr, hon⟩
    have HG := Lib.hid (GrStep.list H.out hfr hon)
    clear hfr hon
    go_wp2
    go_end0
    exact ⟨rfl, by rw [HF.out]; exact HG.out⟩
  · cases hp : X.pins with
    | nil =>
      have e : X.low = X.g := by unfold PG.low; rw [hp]
      have HF : Hid (X.settle = { X with F := X.F.leave fun g => decide (g ≤ (X.g : Int)) }) := Lib.hid (by unfold PG.settle; rw [e])
      rw [e] at HS
      replace HS := Lib.hid HS
      rw [hv, hp] at c7
      simp only [List.length_nil] at c7
      clear h hp e hv hcell hnc
      go_enter Tryz.func109, Tryz.ntmps109
      go_wp2_with fail
      refine HS.out.mono ?_; rintro e w1 ⟨rfl, hfr, hon⟩
      have HG := Lib.hid (GrStep.list H.out hfr hon)
      clear hfr hon
      go_wp2
      go_end0
      exact ⟨rfl, by rw [HF.out]; exact HG.out⟩
    | cons x ps =>
      have e : X.low = x.1 := by unfold PG.low; rw [hp]
      have HF : Hid (X.settle = { X with F := X.F.leave fun g => decide (g ≤ x.1) }) := Lib.hid (by unfold PG.settle; rw [e])
      rw [e] at HS
      replace HS := Lib.hid HS
      obtain ⟨x0, _⟩ := hcell 0 x (by rw [hp]; rfl)
      rw [hv] at c7
      obtain ⟨m, hm⟩ : ∃ m, m = X.pins.length := ⟨_, rfl⟩
      have hm1 : 0 < m := by rw [hm, hp]; simp
      rw [← hm] at c7 hnc
      have hm63 : m ≤ 9223372036854775807 := by omega
      have hd : decide ((0 : Int) < (m : Int)) = true := decide_eq_true (by omega)
      clear h hp e hv hcell hm
      simp only [Nat.zero_mul] at x0
      generalize x.1 = x1 at *
      go_enter Tryz.func109, Tryz.ntmps109
      go_wp2_with fail
      refine HS.out.mono ?_; rintro e w1 ⟨rfl, hfr, hon⟩
      have HG := Lib.hid (GrStep.list H.out hfr hon)
      clear hfr hon
      go_wp2
      go_end0
      exact ⟨rfl, by rw [HF.out]; exact HG.out⟩
end

end Go.Proofs.YtngnmakeaniapaaGreatDoor

set_option linter.unusedVariables false
set_option maxRecDepth 100000
namespace Go.Proofs.YtngnmakeaniapaaGreatDoor
open Go.RowKit

section
variable {w w' : World} {B P pd lm fm pl um wm la : Nat} {v : Value} {X : PG}

/-- What follows asks of a Meta that may be committed. -/
structure Follows (X : PG) (r n d : Nat) : Prop where
  root : r = 0 ∨ (r ≠ 0 ∧ X.F.st r = 2)
  right : MRight ((X.g + 1 : Nat) : Int) r n d
  n : X.n ≤ n
  d : X.d ≤ d

set_option maxHeartbeats 3200000 in
theorem grFollows (hT : Tab w) (h : GrIs w B P pd lm fm pl um wm la v X) {r n d : Nat} (hf : Follows X r n d) :
    Calls Tryz.prog 107 #[.pointer (some ⟨P, 0, none⟩), .agg #[.int .i64 ((X.g : Int) + 1), .int .i64 r, .int .i64 n, .int .i64 d]] w fun e w' => e = .returned (.bool true) ∧ Below w.heap.size w w' := by
  obtain ⟨W, hW⟩ : ∃ W, W = w.alloc (.cells #[.int .i64 ((X.g : Int) + 1), .int .i64 r, .int .i64 n, .int .i64 d] 92) := ⟨_, rfl⟩
  have hb : Below w.heap.size w W := by rw [hW]; exact sbox1 w _
  have hx : W.heap[w.heap.size]? = some (.cells #[.int .i64 ((X.g : Int) + 1), .int .i64 r, .int .i64 n, .int .i64 d] 92 (0, 0)) := by rw [hW]; exact heap_alloc_new w _
  have HB := Lib.hid hb
  have h1 := h.below hb
  have c1 := h1.c1
  have HST := Lib.hid fun k => frState_any (h.below (belowN hb k)).list r
  have HX : Hid (∀ w', Below W.heap.size W w' → w'.cell? ⟨w.heap.size, 0, none⟩ = some (.int .i64 ((X.g : Int) + 1)) ∧ w'.cell? ⟨w.heap.size, 1, none⟩ = some (.int .i64 r) ∧ w'.cell? ⟨w.heap.size, 2, none⟩ = some (.int .i64 n) ∧ w'.cell? ⟨w.heap.size, 3, none⟩ = some (.int .i64 d)) := Lib.hid fun w' hb' => by
    have hx' : w'.heap[w.heap.size]? = _ := (hb'.block _ (Array.getElem?_eq_some_iff.1 hx).1).trans hx
    exact ⟨(Joins.cell_of_block hx' 0).trans rfl, (Joins.cell_of_block hx' 1).trans rfl, (Joins.cell_of_block hx' 2).trans rfl, (Joins.cell_of_block hx' 3).trans rfl⟩
  have HP4 : Hid (∀ w', Below W.heap.size W w' → w'.cell? ⟨P, 4, none⟩ = some (.int .i64 X.n) ∧ w'.cell? ⟨P, 5, none⟩ = some (.int .i64 X.d)) := Lib.hid fun w' hb' => ⟨(h1.below hb').c4, (h1.below hb').c5⟩
  have HS : Hid (∀ w1, Below W.heap.size W w1 → Calls Tryz.prog 114 #[.agg #[.int .i64 ((X.g : Int) + 1), .int .i64 r, .int .i64 n, .int .i64 d]] w1 (MSealPost w1 (mPage (X.g + 1) r n d) ((X.g + 1) % 2))) := Lib.hid fun w1 hb1 => by
    have hh := mseal_ok (hT.below hT.lt (hb.trans (hb1.mono hb.size))) hf.right
    rw [show ((X.g + 1 : Nat) : Int) = (X.g : Int) + 1 by omega] at hh
    exact hh
  have dn : decide ((X.n : Int) ≤ (n : Int)) = true := decide_eq_true (by have := hf.n; omega)
  have dd : decide ((X.d : Int) ≤ (d : Int)) = true := decide_eq_true (by have := hf.d; omega)
  obtain ⟨x0, x1, x2, x3⟩ := HX.out W (Below.refl _ _)
  rcases hf.root with h0 | ⟨hr0', h2⟩
  · have hr0 : ((r : Int) != 0) = false := by rw [h0]; rfl
    clear h h1 hT hf hb hx HST
    generalize mPage (X.g + 1) r n d = pg at *
    generalize (X.g + 1) % 2 = no at *
    generalize (X.g : Int) = g at *
    generalize (X.n : Int) = xn at *
    generalize (X.d : Int) = xd at *
    generalize (n : Int) = n' at *
    generalize (d : Int) = d' at *
    generalize (r : Int) = r' at *
    go_enter Tryz.func107, Tryz.ntmps107
    go_wp2_with fail
    rw [← hW]
    clear hW
    go_quiet (fail)
    have HBQ : Hid (Below W.heap.size W (W.drewN nq)) := Lib.hid (belowN (Below.refl _ _) nq)
    clear c1 x0 x1 x2 x3
    have c1 := HX.out _ HBQ.out
    obtain ⟨x0, x1, x2, x3⟩ := c1
    go_wp2_with fail
    refine (HS.out _ HBQ.out).mono ?_; rintro e w2 ⟨v2, rfl, _, hb2⟩
    have hbw := HBQ.out.trans (hb2.mono HBQ.out.size)
    have HBW := Lib.hid (HB.out.trans (hbw.mono HB.out.size))
    obtain ⟨y0, y1, y2, y3⟩ := HX.out _ hbw
    obtain ⟨y4, y5⟩ := HP4.out _ hbw
    clear hb2 hbw
    go_wp2_with fail
    go_quiet (fail)
    go_wp2
    go_ret
    exact ⟨rfl, belowN HBW.out _⟩
  · have hr0 : ((r : Int) != 0) = true := by
      rw [bne_iff_ne]
      omega
    have HST1 : Hid (Calls Tryz.prog 132 #[.pointer (some ⟨pl, 0, none⟩), .int .i64 r] W.drew fun e w' => e = .returned (.int .i64 2) ∧ Below W.heap.size W w') := Lib.hid ((frState_any (h.below hb.drew).list r).mono fun e w' ⟨he, hb'⟩ => ⟨by rw [he, h2], (Below.drew (Below.refl W.heap.size W)).trans hb'⟩)
    clear h h1 hT hf hb hx HST h2
    generalize mPage (X.g + 1) r n d = pg at *
    generalize (X.g + 1) % 2 = no at *
    generalize (X.g : Int) = g at *
    generalize (X.n : Int) = xn at *
    generalize (X.d : Int) = xd at *
    generalize (n : Int) = n' at *
    generalize (d : Int) = d' at *
    generalize (r : Int) = r' at *
    go_enter Tryz.func107, Tryz.ntmps107
    go_wp2_with fail
    rw [← hW]
    clear hW
    go_region_with (first | (go_at_call 132; (with_reducible refine HST1.out.mono ?_); rintro e w5 ⟨rfl, hb5⟩; have HBQ := Lib.hid hb5; clear hb5; obtain ⟨z0, z1, z2, z3⟩ := HX.out _ HBQ.out))
    all_goals
      go_wp2_with fail
      refine (HS.out _ HBQ.out).mono ?_; rintro e w2 ⟨v2, rfl, _, hb2⟩
      have hbw := HBQ.out.trans (hb2.mono HBQ.out.size)
      have HBW := Lib.hid (HB.out.trans (hbw.mono HB.out.size))
      obtain ⟨y0, y1, y2, y3⟩ := HX.out _ hbw
      obtain ⟨y4, y5⟩ := HP4.out _ hbw
      clear hb2 hbw
      go_wp2_with fail
      go_quiet (fail)
      go_wp2
      go_ret
      exact ⟨rfl, belowN HBW.out _⟩
end

end Go.Proofs.YtngnmakeaniapaaGreatDoor

