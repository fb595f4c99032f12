/-
  pager.Open on disks that have a Meta, and on those that have none.
  pager: put, Lay.
  pager: Drop.
-/
import Derived.Test.YtmlnpgbnbchbkaaDoorH19
import Derived.Deep.RegionWith
set_option linter.unusedVariables false
set_option maxRecDepth 100000
namespace Go.Proofs.YtmlnpgbnbchbkaaDoor
open Go.RowKit

theorem zeros_none (no : Int) : mE (zeros 512) no ≠ 0 := by
  intro h
  have h1 := (mE_zero.1 h).2.1
  simp [zeros] at h1
theorem zeros_mG (no : Int) : mG (zeros 512) no = 0 := (m_none (zeros_none no)).1
theorem pad_same {l : List UInt8} (h : l.length = 512) : pad l = l := by
  unfold pad zeros
  rw [h]
  simp
theorem SD.flush_read (S : SD) (k : Int) : S.flush.read k = S.read k := read_flush _ _ _
theorem SD.write_read (S : SD) (k : Int) (b : List UInt8) (j : Int) : (S.write k b).read j = if j = k then pad b else S.read j := by
  unfold SD.read SD.write
  rw [found_snoc]
  unfold putAt
  split <;> rfl
theorem SD.new_read (n k : Int) : (SD.new n).read k = zeros 512 := rfl

theorem mPage_pad (g r n d : Nat) : pad (mPage g r n d) = mPage g r n d := pad_same (mPage_length g r n d)

/-- What Newest tells, where a Meta is newer than what stands beside it. -/
theorem newest_is {a b : List UInt8} {g r n d : Nat} (h : MRight g r n d) (hz : (g % 2 = 0 ∧ a = mPage g r n d ∧ mG b 1 < g) ∨ (g % 2 = 1 ∧ b = mPage g r n d ∧ mG a 0 < g)) : newG a b = g ∧ newR a b = r ∧ newN a b = n ∧ newD a b = d := by
  unfold newG newR newN newD
  rcases hz with ⟨h0, rfl, hlt⟩ | ⟨h0, rfl, hlt⟩
  · obtain ⟨_, e1, e2, e3, e4⟩ := page_is h (no := 0) (by omega)
    rw [e1, e2, e3, e4]
    have : ¬ g < mG b 1 := by omega
    simp [this]
  · obtain ⟨_, e1, e2, e3, e4⟩ := page_is h (no := 1) (by omega)
    rw [e1, e2, e3, e4]
    simp [hlt]

/-- The disk behind Open. -/
noncomputable def openS (S : SD) (g : Nat) : SD := open Classical in if mE (S.read (((g + 1) % 2 : Nat) : Int)) (((g + 1) % 2 : Nat) : Int) = 0 then S else (S.write (((g + 1) % 2 : Nat) : Int) []).flush

theorem openS_left {S : SD} (h : S.left = -1) (g : Nat) : (openS S g).left = -1 := by
  unfold openS
  split
  · exact h
  · exact SD.tick_left (S := S.write _ _) (SD.tick_left h)
theorem openS_size (S : SD) (g : Nat) : (openS S g).size = S.size := by
  unfold openS
  split <;> rfl
theorem openS_ops (S : SD) (g : Nat) : (openS S g).ops ≤ S.ops + 2 := by
  unfold openS
  split
  · omega
  · show S.ops + 1 + 1 ≤ _; omega
/-- All but the sector of the other Meta is as it was. -/
theorem openS_read (S : SD) (g : Nat) {k : Int} (hk : k ≠ (((g + 1) % 2 : Nat) : Int)) : (openS S g).read k = S.read k := by
  unfold openS
  split
  · rfl
  · rw [SD.flush_read, SD.write_read, if_neg hk]

theorem grOpen_meta {w : World} (hT : Tab w) {B pd lm fm : Nat} {S : SD} (h : DiskAt w B pd lm fm S) (hB : B ≤ w.heap.size) (hl : S.left = -1) (ho : S.ops ≤ 999999990) (h2 : 2 ≤ S.size) {g r n d : Nat} (hm : MRight g r n d) (hr : (r : Int) < S.size)
    (hp : S.read ((g % 2 : Nat) : Int) = mPage g r n d) (hlt : mG (S.read (((g + 1) % 2 : Nat) : Int)) (((g + 1) % 2 : Nat) : Int) < g) :
    Calls Tryd.prog 6 #[.pointer (some ⟨pd, 0, none⟩)] w (OpenedPost w B pd (PG.new (openS S g) g r n d)) := by
  have hb := hm.b
  have hOn := openOn hT h
  obtain ⟨e1, e2, e3, e4⟩ := newest_is (a := S.read 0) (b := read1 S) hm (by
    unfold read1
    rw [if_pos (by omega)]
    rcases Nat.mod_two_eq_zero_or_one g with h0 | h0
    · refine .inl ⟨h0, ?_, ?_⟩
      · rw [← hp, h0]; rfl
      · have : (g + 1) % 2 = 1 := by omega
        rw [this] at hlt
        exact hlt
    · refine .inr ⟨h0, ?_, ?_⟩
      · rw [← hp, h0]; rfl
      · have : (g + 1) % 2 = 0 := by omega
        rw [this] at hlt
        exact hlt)
  rw [e1, e2, e3, e4] at hOn
  refine grOpen_yes (S := S) (S' := openS S g) (lm := lm) (fm := fm) hOn hB (by omega) (by omega) hr (openS_size S g) h2 fun w1 hb1 => ?_
  have h1 := h.below hb1
  have hT1 := hT.below hT.lt hb1
  have hno : (((g + 1) % 2 : Nat) : Int) = 0 ∨ (((g + 1) % 2 : Nat) : Int) = 1 := by omega
  unfold openS
  by_cases hE : mE (S.read (((g + 1) % 2 : Nat) : Int)) (((g + 1) % 2 : Nat) : Int) = 0
  · rw [if_pos hE]
    exact (grMend_there (mendOn hT1 h1 hno h2) hE).mono fun e w' ⟨he, hb'⟩ => ⟨he, h1.below hb', hb'.mono h1.base, Keeps.below hb'⟩
  · rw [if_neg hE]
    exact grMend_mend hT1 h1 hl ho hno h2 hE

/-- Open of a disk whose first sector has no bytes. -/
def Open1Post (w : World) (B pd : Nat) (S : SD) (e : Ending) (w' : World) : Prop :=
  ∃ a x lm fm S', e = .returned (.tuple #[.pointer a, .int .i64 x]) ∧ DiskAt w' B pd lm fm S' ∧ Below B w w' ∧ S'.size = S.size ∧ S'.left = -1 ∧ S'.ops ≤ S.ops + 2 ∧ (2 < S.size → a = none ∧ x = 18)

theorem grOpen_first {w : World} (hT : Tab w) {B pd lm fm : Nat} {S : SD} (h : DiskAt w B pd lm fm S) (hB : B ≤ w.heap.size) (hl : S.left = -1) (ho : S.ops ≤ 999999990) (h0 : S.read 0 = zeros 512) (h1 : 2 < S.size → S.read 1 = zeros 512) :
    Calls Tryd.prog 6 #[.pointer (some ⟨pd, 0, none⟩)] w (Open1Post w B pd S) := by
  have hOn := openOn hT h
  have hno : ∀ e w', (e = .returned (.tuple #[.pointer none, .int .i64 18]) ∧ Below w.heap.size w w') → Open1Post w B pd S e w' := by
    rintro e w' ⟨rfl, hb⟩
    exact ⟨none, 18, lm, fm, S, rfl, h.below hb, hb.mono hB, rfl, hl, by omega, fun _ => ⟨rfl, rfl⟩⟩
  have hs1 := h.ok.s1
  by_cases hG : newG (S.read 0) (read1 S) = 0
  · exact (grOpen_none hOn hG).mono hno
  · by_cases hr : S.size ≤ (newR (S.read 0) (read1 S) : Int)
    · exact (grOpen_root hOn hG hr).mono hno
    · -- the disk has two sectors, and the second one a Meta
      have hz : mG (S.read 0) 0 = 0 := by rw [h0]; exact zeros_mG 0
      have h2 : S.size = 2 := by
        rcases Int.lt_or_le 2 S.size with h3 | h3
        · exfalso
          apply hG
          have e : read1 S = zeros 512 := by unfold read1; rw [if_pos (show 1 < S.size by omega), h1 h3]
          unfold newG
          rw [e, hz, zeros_mG]
          simp
        · rcases Int.lt_or_le 1 S.size with h4 | h4
          · omega
          · exfalso
            apply hG
            have e : read1 S = [] := by unfold read1; rw [if_neg (show ¬ 1 < S.size by omega)]
            unfold newG
            rw [e, hz, (nil_not 1).1]
            simp
      have e1 : read1 S = S.read 1 := by unfold read1; rw [if_pos (by omega)]
      have hgt : newG (S.read 0) (read1 S) = mG (S.read 1) 1 := by
        unfold newG
        rw [hz, e1]
        split
        · rfl
        · omega
      have hne : mG (S.read 1) 1 ≠ 0 := by rw [← hgt]; exact hG
      have hE := m_gen.2 hne
      obtain ⟨f1, _⟩ := m_some hE
      obtain ⟨_, _, _, hodd, _, hR⟩ := mE_zero.1 hE
      have hb := hR.b
      have hpar : (newG (S.read 0) (read1 S) + 1) % 2 = 0 := by rw [hgt, f1]; omega
      refine (grOpen_yes (S := S) (S' := (S.write 0 []).flush) (lm := lm) (fm := fm) hOn hB hG (by rw [hgt, f1]; omega) (by omega) rfl (by omega) fun w1 hb1 => ?_).mono ?_
      · rw [hpar]
        exact grMend_mend (hT.below hT.lt hb1) (h.below hb1) hl ho (.inl rfl) (by omega) (by show mE (S.read 0) 0 ≠ 0; rw [h0]; exact zeros_none 0)
      · rintro e w' ⟨P, rfl, hs⟩
        obtain ⟨lm', fm', pl, um, wm, la, v, hg⟩ := hs.at_
        exact ⟨some ⟨P, 0, none⟩, 0, lm', fm', (S.write 0 []).flush, rfl, hg.disk, hs.below, rfl, SD.tick_left (S := S.write 0 []) (SD.tick_left hl), by show S.ops + 1 + 1 ≤ _; omega, fun h => by omega⟩

/-- A disk that was formatted. -/
theorem fmt_read {S : SD} : (fmtS S 2).flush.read 0 = mPage 2 0 1 1 ∧ (fmtS S 2).flush.read 1 = mPage 1 0 1 1 := by
  rw [SD.flush_read, SD.flush_read]
  show ((S.write 1 (mPage 1 0 1 1)).write 0 (mPage 2 0 1 1)).read 0 = _ ∧ ((S.write 1 (mPage 1 0 1 1)).write 0 (mPage 2 0 1 1)).read 1 = _
  refine ⟨?_, ?_⟩
  · rw [SD.write_read, if_pos rfl]
    exact mPage_pad _ _ _ _
  · rw [SD.write_read, if_neg (by decide), SD.write_read, if_pos rfl]
    exact mPage_pad _ _ _ _
theorem fmt_flush_left {S : SD} (h : S.left = -1) : (fmtS S 2).flush.left = -1 := SD.tick_left (fmtS_left h 2)

theorem grOpen_fmt {w : World} (hT : Tab w) {B pd lm fm : Nat} {S : SD} (h : DiskAt w B pd lm fm (fmtS S 2).flush) (hB : B ≤ w.heap.size) (hl : S.left = -1) (ho : S.ops ≤ 999999980) (h4 : 4 ≤ S.size) :
    Calls Tryd.prog 6 #[.pointer (some ⟨pd, 0, none⟩)] w (OpenedPost w B pd (PG.new (fmtS S 2).flush 2 0 1 1)) := by
  obtain ⟨r0, r1⟩ := fmt_read (S := S)
  have hm1 : MRight (1 : Nat) (0 : Nat) (1 : Nat) (1 : Nat) := fmt_right (by omega) (by omega)
  have hm2 : MRight (2 : Nat) (0 : Nat) (1 : Nat) (1 : Nat) := fmt_right (by omega) (by omega)
  obtain ⟨q1, q2, _⟩ := page_is hm1 (no := 1) rfl
  have hz : (fmtS S 2).flush.size = S.size := fmtS_size (S := S) 2
  have h1 := grOpen_meta hT h hB (fmt_flush_left hl) (by show (fmtS S 2).ops + 1 ≤ _; have := (fmtS_ops (S := S) 2).1; omega) (by omega) hm2 (by rw [hz]; show (0 : Int) < _; omega) r0 (by
    show mG ((fmtS S 2).flush.read 1) 1 < 2
    rw [r1, q2]
    decide)
  have e : openS (fmtS S 2).flush 2 = (fmtS S 2).flush := by
    have hx : mE ((fmtS S 2).flush.read (((2 + 1) % 2 : Nat) : Int)) (((2 + 1) % 2 : Nat) : Int) = 0 := by
      show mE ((fmtS S 2).flush.read 1) 1 = 0
      rw [r1]
      exact q1
    exact if_pos hx
  rwa [e] at h1

end Go.Proofs.YtmlnpgbnbchbkaaDoor

set_option linter.unusedVariables false
set_option maxRecDepth 100000
namespace Go.Proofs.YtmlnpgbnbchbkaaDoor
open Go.RowKit

/-- Bytes that stay while a pager changes. -/
def GBytes (w : World) (B : Nat) (q : Option Addr) (l : List UInt8) : Prop := ∀ w', Below B w w' → Keeps ofGr w w' → Bs w' q l
theorem GBytes.on {w w' : World} {B : Nat} {q : Option Addr} {l : List UInt8} (h : GBytes w B q l) (h1 : Below B w w') (h2 : Keeps ofGr w w') : GBytes w' B q l := fun w2 h3 h4 => h w2 (h1.trans h3) (h2.trans h4)
theorem GBytes.bs {w : World} {B : Nat} {q : Option Addr} {l : List UInt8} (h : GBytes w B q l) : Bs w q l := h w (Below.refl _ _) (Keeps.refl _ _)
theorem GBytes.nil (w : World) (B : Nat) (q : Option Addr) : GBytes w B q [] := fun _ _ _ => Bs.nil _ _
theorem GBytes.arg {W w : World} {q : Option Addr} {l : List UInt8} (h : Bs W q l) (hb : Below W.heap.size W w) : GBytes w W.heap.size q l := fun w' h1 _ => h.below (hb.trans h1)
theorem ofGr_u8 (i : Nat) (c : Array Value) (f : Nat × Nat) : ofGr i (.cells c 5 f) = false := by
  show ((5 : TypeId) == 86 || (5 : TypeId) == 94 || (5 : TypeId) == 71 || (5 : TypeId) == 82) = false
  decide
theorem GBytes.sec {w : World} {B g : Nat} {l : List UInt8} (h : Sec w g l) : GBytes w B (some ⟨g, 0, none⟩) l := fun w' _ h2 => Sec.bs (h2.stay h (ofGr_u8 _ _ _))

theorem setOf_add (L : Int → Bool) (k : Int) : (fun x => if x = k then some (Value.agg #[]) else setOf L x) = setOf (fun x => if x = k then true else L x) := by
  funext x
  simp only [setOf]
  split <;> simp
theorem setOf_del (L : Int → Bool) (k : Int) : (fun x => if x = k then none else setOf L x) = setOf (fun x => if x = k then false else L x) := by
  funext x
  simp only [setOf]
  split <;> simp

section
variable {w w' : World} {B P pd lm fm pl um wm la : Nat} {v : Value} {X : PG}

set_option maxHeartbeats 1600000 in
theorem grPut_gen (hT : Tab w) (h : GrIs w B P pd lm fm pl um wm la v X) (kind : UInt8) {k : Nat} (hk : k < 4096) (hg : X.g + 1 ≤ 1152921504606846976) {q : Option Addr} {n c : Nat} {l : List UInt8} (hl : Bs w q l) (hn : n = l.length) (hnc : n ≤ c) (hc : c ≤ 9223372036854775807) (h493 : n ≤ 493) {z : Int} {R : World → Prop}
    (HW : ∀ w1 g, Below w.heap.size w w1 → Sec w1 g (pageB kind k (X.g + 1) l) → Calls Tryd.prog 50 #[.pointer (some ⟨pd, 0, none⟩), .int .i64 (k : Int), .slice (some ⟨g, 0, none⟩) 512 512] w1 fun e w' => e = .returned (.int .i64 z) ∧ R w') :
    Calls Tryd.prog 33 #[.pointer (some ⟨P, 0, none⟩), .int .u8 (kind.toNat : Int), .int .i64 (k : Int), .slice q n c] w fun e w' => e = .returned (.int .i64 z) ∧ R w' := by
  have HNX := Lib.hid (grNext h)
  have HS := seal_ok hT kind (no := k) (gen := X.g + 1) hk hg hl hn hnc hc h493
  rw [show ((X.g + 1 : Nat) : Int) = (X.g : Int) + 1 by omega] at HS
  replace HS := Lib.hid HS
  have HC0 : Hid (∀ w', Below w.heap.size w w' → w'.cell? ⟨P, 0, none⟩ = some (.pointer (some ⟨pd, 0, none⟩))) := Lib.hid fun w' hb => (h.below hb).c0
  have HWh := Lib.hid HW
  clear h HW hT hl hk hn hnc hc
  generalize pageB kind k (X.g + 1) l = pg at *
  generalize (X.g : Int) = g at *
  generalize (k : Int) = k' at *
  generalize (kind.toNat : Int) = kk at *
  go_enter Tryd.func33, Tryd.ntmps33
  go_wp2_with fail
  refine HNX.out.mono ?_; rintro e w1 ⟨rfl, rfl⟩
  go_wp2_with fail
  refine HS.out.mono ?_; rintro e w1 ⟨rfl, hs, hb⟩
  have HB := Lib.hid hb
  have HSEC := Lib.hid (show Sec w1 _ pg from hs)
  have c0 := HC0.out _ hb
  clear hs hb
  go_wp2_with fail
  refine (HWh.out _ _ HB.out HSEC.out).mono ?_; rintro e w2 ⟨rfl, hr⟩
  have HR := Lib.hid hr
  clear hr
  go_wp2
  go_ret
  exact ⟨rfl, HR.out⟩

/-- Behind a page that was laid. -/
def PG.lay (X : PG) (k : Int) (pg : List UInt8) : PG := { X with S := X.S.write k pg, F := X.F.take k, L := fun x => if x = k then true else X.L x, laid := true }

theorem FL.alloc_some {F : FL} {k : Int} (h : F.least = some k) : F.alloc = F.take k ∧ F.allocV = .tuple #[.int .i64 k, .int .i64 0] := by
  unfold FL.alloc FL.allocV
  rw [h]
  exact ⟨rfl, rfl⟩
theorem FL.alloc_none {F : FL} (h : F.least = none) : F.alloc = F ∧ F.allocV = .tuple #[.int .i64 0, .int .i64 15] := by
  unfold FL.alloc FL.allocV
  rw [h]
  exact ⟨rfl, rfl⟩
theorem FL.take_drop {F : FL} {k : Int} (h : F.used k = false) : (F.take k).drop k = F := by
  have e : ((F.take k).drop k).used = F.used := by
    funext x
    simp only [FL.take, FL.drop]
    split
    · rename_i hx; rw [hx, h]
    · rfl
  obtain ⟨lo, hi, u, ws⟩ := F
  simp only [FL.take, FL.drop] at e ⊢
  rw [e]
theorem FL.free_used {F : FL} {k : Int} (h : F.st k = 1) : F.used k = false ∧ F.waits k = none ∧ F.lo ≤ k ∧ k < F.hi := by
  unfold FL.st at h
  cases hh : F.has k <;> cases hu : F.used k <;> cases hw : F.waits k <;> simp [hh, hu, hw] at h ⊢
  exact FL.has_iff.1 hh

set_option maxHeartbeats 1600000 in
theorem grLay_full (h : GrIs w B P pd lm fm pl um wm la v X) (hf : X.failed = false) (hF : X.F.least = none) (kind : UInt8) (q : Option Addr) {n : Nat} (c : Nat) (h493 : n ≤ 493) :
    Calls Tryd.prog 8 #[.pointer (some ⟨P, 0, none⟩), .int .u8 (kind.toNat : Int), .slice q n c] w fun e w' => e = .returned (.tuple #[.int .i64 0, .int .i64 15]) ∧ GrStep w w' B P pd X := by
  have HM := Lib.hid h.made
  have c10 := h.c10
  have c1 := h.c1
  rw [hf] at c10
  obtain ⟨a1, a2⟩ := FL.alloc_none hF
  have HA := frAlloc_any h.list
  rw [a1, a2] at HA
  replace HA := Lib.hid HA
  have H := Lib.hid h
  have d1 : decide ((493 : Int) < (n : Int)) = false := decide_eq_false (by omega)
  clear h a1 a2 hF
  go_enter Tryd.func8, Tryd.ntmps8
  go_wp2_with fail
  refine HM.out.mono ?_; rintro e w1 ⟨rfl, rfl⟩
  go_wp2_with fail
  refine HA.out.mono ?_; rintro e w1 ⟨rfl, hfr, hon⟩
  have HG := Lib.hid (GrStep.list H.out hfr hon)
  clear hfr hon
  go_wp2
  go_ret2
  exact ⟨rfl, HG.out⟩

set_option maxHeartbeats 3200000 in
theorem grLay_cut (hT : Tab w) (hB : 0 < B) (h : GrIs w B P pd lm fm pl um wm la v X) (hf : X.failed = false) {k : Nat} (hF : X.F.least = some (k : Int)) (h0 : X.S.left = 0) (hz : X.F.hi = X.S.size) (hg : X.g + 1 ≤ 1152921504606846976) (kind : UInt8) {q : Option Addr} {n c : Nat} {l : List UInt8} (hl : GBytes w B q l) (hn : n = l.length) (hnc : n ≤ c) (hc : c ≤ 9223372036854775807) (h493 : n ≤ 493) :
    Calls Tryd.prog 8 #[.pointer (some ⟨P, 0, none⟩), .int .u8 (kind.toNat : Int), .slice q n c] w fun e w' => e = .returned (.tuple #[.int .i64 0, .int .i64 17]) ∧ GrStep w w' B P pd X := by
  have HM := Lib.hid h.made
  have c10 := h.c10
  have c1 := h.c1
  rw [hf] at c10
  obtain ⟨a1, a2⟩ := FL.alloc_some hF
  have hst := (FL.least_some hF).1
  obtain ⟨u1, u2, u3, u4⟩ := FL.free_used hst
  have h96 := h.list.ok.h2
  have hlo := h.list.ok.h0
  have HA := frAlloc_any h.list
  rw [a1, a2] at HA
  replace HA := Lib.hid HA
  have HP : Hid (∀ w1, GrIs w1 B P pd lm fm pl um wm la v { X with F := X.F.take k } → Below B w w1 → Keeps ofGr w w1 → Calls Tryd.prog 33 #[.pointer (some ⟨P, 0, none⟩), .int .u8 (kind.toNat : Int), .int .i64 (k : Int), .slice q n c] w1 fun e w2 => e = .returned (.int .i64 17) ∧ Below w1.heap.size w1 w2) := Lib.hid fun w1 h1 hb hkk =>
    grPut_gen (k := k) (hT.below hB hb) h1 kind (by omega) hg (hl w1 hb hkk) hn hnc hc h493 fun w2 g hb2 hs =>
      (write_cut (k := (k : Int)) (h1.disk.below hb2) h0 (by omega) (by show (k : Int) < X.S.size; omega) (some ⟨g, 0, none⟩) 512 512 (by omega)).mono fun e w3 ⟨he, hb3⟩ => ⟨he, hb2.trans (hb3.mono hb2.size)⟩
  have HGV : Hid (∀ w1, GrIs w1 B P pd lm fm pl um wm la v { X with F := X.F.take k } → Calls Tryd.prog 34 #[.pointer (some ⟨pl, 0, none⟩), .int .i64 (k : Int)] w1 (FrStep w1 pl um wm X.F (.int .i64 0))) := Lib.hid fun w1 h1 => by
    have hst2 : (X.F.take k).st k = 2 := FL.st_two.2 ⟨FL.has_iff.2 ⟨u3, u4⟩, by simp [FL.take]⟩
    have hh := frGive_any h1.list (k := k) (FL.has_iff.2 ⟨u3, u4⟩)
    rw [if_pos hst2, if_pos hst2, FL.take_drop u1] at hh
    exact hh
  have H := Lib.hid h
  have d1 : decide ((493 : Int) < (n : Int)) = false := decide_eq_false (by omega)
  clear h a1 a2 hF hT hst u1 u2 u3 u4 h96 hlo hl hn hnc hc
  generalize (k : Int) = kk at *
  go_enter Tryd.func8, Tryd.ntmps8
  go_wp2_with fail
  refine HM.out.mono ?_; rintro e w1 ⟨rfl, rfl⟩
  go_wp2_with fail
  refine HA.out.mono ?_; rintro e w1 ⟨rfl, hfr, hon⟩
  obtain ⟨g1, g2, g3⟩ := H.out.onList hfr hon
  have G1 := Lib.hid g1
  have G2 := Lib.hid g2
  have G3 := Lib.hid (g3.mono isMaps_ofGr)
  clear hfr hon g1 g2 g3
  go_wp2_with fail
  refine (HP.out _ G1.out G2.out G3.out).mono ?_; rintro e w2 ⟨rfl, hb2⟩
  have G4 := Lib.hid (G1.out.below hb2)
  have G5 := Lib.hid (G2.out.trans (hb2.mono G1.out.base))
  have G6 := Lib.hid (G3.out.trans (Keeps.below hb2))
  have c1 := (G1.out.below hb2).c1
  clear hb2
  go_wp2_with fail
  refine (HGV.out _ G4.out).mono ?_; rintro e w3 ⟨rfl, hfr, hon⟩
  have HG := Lib.hid (GrStep.of G5.out G6.out (GrStep.list G4.out hfr hon))
  clear hfr hon c1
  go_wp2
  go_ret2
  exact ⟨rfl, HG.out⟩

set_option maxHeartbeats 3200000 in
theorem grLay_ok (hT : Tab w) (hB : 0 < B) (h : GrIs w B P pd lm fm pl um wm la v X) (hf : X.failed = false) {k : Nat} (hF : X.F.least = some (k : Int)) (h0 : X.S.left ≠ 0) (h1 : -1 ≤ X.S.left) (h2 : X.S.left ≤ 9223372036854775807) (ho : X.S.ops ≤ 999999999) (hz : X.F.hi = X.S.size) (hg : X.g + 1 ≤ 1152921504606846976) (kind : UInt8) {q : Option Addr} {n c : Nat} {l : List UInt8} (hl : GBytes w B q l) (hn : n = l.length) (hnc : n ≤ c) (hc : c ≤ 9223372036854775807) (h493 : n ≤ 493) :
    Calls Tryd.prog 8 #[.pointer (some ⟨P, 0, none⟩), .int .u8 (kind.toNat : Int), .slice q n c] w fun e w' => e = .returned (.tuple #[.int .i64 (k : Int), .int .i64 0]) ∧ GrStep w w' B P pd (X.lay k (pageB kind k (X.g + 1) l)) := by
  have HM := Lib.hid h.made
  have c10 := h.c10
  have c1 := h.c1
  rw [hf] at c10
  obtain ⟨a1, a2⟩ := FL.alloc_some hF
  have hst := (FL.least_some hF).1
  obtain ⟨u1, u2, u3, u4⟩ := FL.free_used hst
  have h96 := h.list.ok.h2
  have hlo := h.list.ok.h0
  have HA := frAlloc_any h.list
  rw [a1, a2] at HA
  replace HA := Lib.hid HA
  have hpl : (pageB kind k (X.g + 1) l).length = 512 := pageB_length (by omega)
  have HP : Hid (∀ w1, GrIs w1 B P pd lm fm pl um wm la v { X with F := X.F.take k } → Below B w w1 → Keeps ofGr w w1 → Calls Tryd.prog 33 #[.pointer (some ⟨P, 0, none⟩), .int .u8 (kind.toNat : Int), .int .i64 (k : Int), .slice q n c] w1 fun e w2 => e = .returned (.int .i64 0) ∧ DiskStep w1 w2 B pd lm fm (X.S.write k (pageB kind k (X.g + 1) l))) := Lib.hid fun w1 hw1 hb hkk =>
    grPut_gen (k := k) (hT.below hB hb) hw1 kind (by omega) hg (hl w1 hb hkk) hn hnc hc h493 fun w2 g hb2 hs =>
      (write_any (k := (k : Int)) (hw1.disk.below hb2) h0 h1 h2 ho (by omega) (by show (k : Int) < X.S.size; omega) 512 (Bytes.sec hs) hpl.symm (Nat.le_of_eq hpl)).mono fun e w3 ⟨he, hs3⟩ => ⟨he, DiskStep.of (hb2.mono hw1.base) (Keeps.below hb2) hs3⟩
  have H := Lib.hid h
  have d1 : decide ((493 : Int) < (n : Int)) = false := decide_eq_false (by omega)
  clear h a1 a2 hF hT hst u1 u2 u3 u4 h96 hlo hl hn hnc hc hpl h1 h2
  generalize pageB kind k (X.g + 1) l = pg at *
  generalize (k : Int) = kk at *
  go_enter Tryd.func8, Tryd.ntmps8
  go_wp2_with fail
  refine HM.out.mono ?_; rintro e w1 ⟨rfl, rfl⟩
  go_wp2_with fail
  refine HA.out.mono ?_; rintro e w1 ⟨rfl, hfr, hon⟩
  obtain ⟨g1, g2, g3⟩ := H.out.onList hfr hon
  have G1 := Lib.hid g1
  have G2 := Lib.hid g2
  have G3 := Lib.hid (g3.mono isMaps_ofGr)
  clear hfr hon g1 g2 g3
  go_wp2_with fail
  refine (HP.out _ G1.out G2.out G3.out).mono ?_; rintro e w2 ⟨rfl, hs2⟩
  have G4 := Lib.hid (G1.out.onDisk hs2)
  have G5 := Lib.hid (G2.out.trans hs2.below)
  have G6 := Lib.hid (G3.out.trans (hs2.keeps.mono ofDisk_ofGr))
  have c6 := (G1.out.onDisk hs2).c6
  clear hs2
  go_wp2_with (at_mapUpdate; refine st_store rfl _ _ _ _ 3 74 rfl Tryd.underlying66 Tryd.underlying3 rfl G4.out.mla rfl rfl ?_; intro w3 hm hg3; obtain ⟨g7, g8, g9⟩ := G4.out.onLaid (L := fun x => if x = kk then true else X.L x) ((setOf_add X.L kk) ▸ hm) hg3; have G7 := Lib.hid g7; have G8 := Lib.hid (G5.out.trans g8); have G9 := Lib.hid (G6.out.trans (g9.mono isMaps_ofGr)); have c9 := g7.c9; have u9 := g7.soft 9; clear hm hg3 g7 g8 g9)
  go_ret2
  obtain ⟨b1, b2⟩ := cell_set (i := 9) (v := .bool true) G7.out.blk
  exact ⟨rfl, GrStep.of G8.out G9.out (GrStep.own (Y := X.lay kk pg) G7.out (by simpa [grCells, PG.lay] using b1) b2 G7.out.pins rfl rfl rfl G7.out.g0)⟩
end

end Go.Proofs.YtmlnpgbnbchbkaaDoor

set_option linter.unusedVariables false
set_option maxRecDepth 100000
namespace Go.Proofs.YtmlnpgbnbchbkaaDoor
open Go.RowKit

/-- Behind a page that was dropped. -/
def PG.drop (X : PG) (k : Int) : PG :=
  if X.L k = true then { X with L := fun x => if x = k then false else X.L x, F := X.F.drop k } else if X.F.st k = 2 then { X with F := X.F.late k ((X.g : Int) + 1) } else X
def PG.dropE (X : PG) (k : Int) : Int := if X.L k = true then 0 else if X.F.st k = 2 then 0 else if X.F.has k = true then 13 else 2

section
variable {w w' : World} {B P pd lm fm pl um wm la : Nat} {v : Value} {X : PG}

set_option maxHeartbeats 1600000 in
theorem grDrop_laid (h : GrIs w B P pd lm fm pl um wm la v X) {k : Int} (hL : X.L k = true) (hs : X.F.st k = 2) :
    Calls Tryd.prog 9 #[.pointer (some ⟨P, 0, none⟩), .int .i64 k] w fun e w' => e = .returned (.int .i64 0) ∧ GrStep w w' B P pd { X with L := fun x => if x = k then false else X.L x, F := X.F.drop k } := by
  have HM := Lib.hid h.made
  have c6 := h.c6
  have HL := Lib.hid hL
  have HGV : Hid (∀ w1 (Y : PG), GrIs w1 B P pd lm fm pl um wm la v Y → Y.F = X.F → Calls Tryd.prog 34 #[.pointer (some ⟨pl, 0, none⟩), .int .i64 k] w1 (FrStep w1 pl um wm (X.F.drop k) (.int .i64 0))) := Lib.hid fun w1 Y h1 hY => by
    have hh := frGive_any h1.list (k := k) (by rw [hY]; exact (FL.st_two.1 hs).1)
    rw [hY, if_pos hs, if_pos hs] at hh
    exact hh
  have H := Lib.hid h
  have c6' := (h.below (sbox1 w (.cells #[] 74))).c6
  have H1 := Lib.hid (h.below (sbox1 w (.cells #[] 74)))
  have HB1 := Lib.hid (sbox1 w (.cells #[] 74))
  clear h hL hs
  go_enter Tryd.func9, Tryd.ntmps9
  go_wp2_with fail
  refine HM.out.mono ?_; rintro e w1 ⟨rfl, rfl⟩
  go_wp2_with (first | (at_lookup; refine fr_look rfl _ _ rfl rfl H.out.mla rfl ?_; rw [HL.out]) | (at_delete; refine st_drop rfl _ _ _ 3 74 3 rfl Tryd.underlying66 Tryd.underlying3 rfl H1.out.mla rfl ?_; intro w2 hm hg; obtain ⟨g1, g2, g3⟩ := H1.out.onLaid (L := fun x => if x = k then false else X.L x) ((setOf_del X.L k) ▸ hm) hg; have G1 := Lib.hid g1; have G2 := Lib.hid ((HB1.out.mono H.out.base).trans g2); have G3 := Lib.hid ((Keeps.below HB1.out).trans (g3.mono isMaps_ofGr)); have c1 := g1.c1; clear hm hg g1 g2 g3))
  refine (HGV.out _ _ G1.out rfl).mono ?_; rintro e w3 ⟨rfl, hfr, hon⟩
  have HG := Lib.hid (GrStep.of G2.out G3.out (GrStep.list G1.out hfr hon))
  clear hfr hon c1
  go_wp2
  go_ret
  exact ⟨rfl, HG.out⟩

set_option maxHeartbeats 1600000 in
theorem grDrop_gen (h : GrIs w B P pd lm fm pl um wm la v X) {k : Int} (hL : X.L k = false) {F : FL} {z : Int}
    (HLT : ∀ w1, GrIs w1 B P pd lm fm pl um wm la v X → Calls Tryd.prog 35 #[.pointer (some ⟨pl, 0, none⟩), .int .i64 k, .int .i64 ((X.g : Int) + 1)] w1 (FrStep w1 pl um wm F (.int .i64 z))) :
    Calls Tryd.prog 9 #[.pointer (some ⟨P, 0, none⟩), .int .i64 k] w fun e w' => e = .returned (.int .i64 z) ∧ GrStep w w' B P pd { X with F := F } := by
  have HM := Lib.hid h.made
  have c6 := h.c6
  have HL := Lib.hid hL
  have HLh := Lib.hid HLT
  have H := Lib.hid h
  have HB1 := Lib.hid (sbox1 w (.cells #[] 74))
  obtain ⟨W, hW⟩ : ∃ W, W = w.alloc (.cells #[] 74) := ⟨_, rfl⟩
  rw [← hW] at HB1
  have HNX : Hid (∀ n, Calls Tryd.prog 36 #[.pointer (some ⟨P, 0, none⟩)] (W.drewN n) fun e w' => e = .returned (.int .i64 ((X.g : Int) + 1)) ∧ W.drewN n = w') := Lib.hid fun n => grNext (h.below (belowN HB1.out n))
  have HNX1 : Hid (Calls Tryd.prog 36 #[.pointer (some ⟨P, 0, none⟩)] W.drew fun e w' => e = .returned (.int .i64 ((X.g : Int) + 1)) ∧ W.drew = w') := Lib.hid (grNext (h.below HB1.out.drew))
  have H1 : Hid (GrIs W.drew B P pd lm fm pl um wm la v X) := Lib.hid (h.below HB1.out.drew)
  have c1' := (h.below HB1.out).c1
  clear h hL HLT
  generalize (X.g : Int) = g at *
  go_enter Tryd.func9, Tryd.ntmps9
  go_wp2_with fail
  refine HM.out.mono ?_; rintro e w1 ⟨rfl, rfl⟩
  go_wp2_with (first | (at_lookup; refine fr_look rfl _ _ rfl rfl H.out.mla rfl ?_; rw [HL.out]))
  rw [← hW]
  clear hW
  go_region_with (first | (go_at_call 36; (with_reducible refine HNX1.out.mono ?_); rintro e w5 ⟨rfl, rfl⟩) | (go_at_call 35; (with_reducible refine (HLh.out _ H1.out).mono ?_); rintro e w3 ⟨rfl, hfr, hon⟩; have HG := Lib.hid (GrStep.of (HB1.out.drew.mono H.out.base) (Keeps.below HB1.out.drew) (GrStep.list H1.out hfr hon)); clear hfr hon))
  all_goals
    go_wp2
    go_ret
    exact ⟨rfl, HG.out⟩

theorem grDrop_any (h : GrIs w B P pd lm fm pl um wm la v X) {k : Int} (hs : X.L k = true → X.F.st k = 2) :
    Calls Tryd.prog 9 #[.pointer (some ⟨P, 0, none⟩), .int .i64 k] w fun e w' => e = .returned (.int .i64 (X.dropE k)) ∧ GrStep w w' B P pd (X.drop k) := by
  unfold PG.drop PG.dropE
  by_cases hL : X.L k = true
  · rw [if_pos hL, if_pos hL]
    exact grDrop_laid h hL (hs hL)
  · rw [if_neg hL, if_neg hL]
    have hL' : X.L k = false := by simpa using hL
    by_cases h2 : X.F.st k = 2
    · rw [if_pos h2, if_pos h2]
      refine grDrop_gen h hL' fun w1 h1 => ?_
      have hh := frLater_any h1.list (k := k) (g := (X.g : Int) + 1) (FL.st_two.1 h2).1 (by omega)
      rw [if_pos h2, if_pos h2] at hh
      exact hh
    · rw [if_neg h2, if_neg h2]
      have e : X = { X with F := X.F } := rfl
      rw [e]
      by_cases hh : X.F.has k = true
      · rw [if_pos hh]
        refine grDrop_gen h hL' fun w1 h1 => ?_
        have hx := frLater_any h1.list (k := k) (g := (X.g : Int) + 1) hh (by omega)
        rw [if_neg h2, if_neg h2] at hx
        exact hx
      · rw [if_neg hh]
        exact grDrop_gen h hL' fun w1 h1 => frLater_arg h1.list (.inl (by simpa using hh))
end

end Go.Proofs.YtmlnpgbnbchbkaaDoor

