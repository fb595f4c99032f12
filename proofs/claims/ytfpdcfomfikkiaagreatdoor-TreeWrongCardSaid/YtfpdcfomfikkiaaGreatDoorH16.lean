/-
  tree: spans of keys: plain, and the calls.
  tree: a page that is read, whatever lies there; made, lookAt, look.page.
  free, plain: counts of pages in use and waiting; and low bits of a number.
  tree: a look (LookAt: the pager, and the map of the pages that were read); made, lookAt, look.page.
-/
import Derived.Test.YtfpdcfomfikkiaaGreatDoorH15
import Derived.Test.YtfpdcfomfikkiaaGreatDoorH02
import Derived.Test.YtfpdcfomfikkiaaGreatDoorH14
import Derived.Test.YtfpdcfomfikkiaaGreatDoorH08
set_option linter.unusedVariables false
set_option linter.unusedSimpArgs false
set_option maxRecDepth 100000
namespace Go.Proofs.YtfpdcfomfikkiaaGreatDoor
open Go.RowKit

/-- A span, plain; in memory. -/
structure SpS where
  f : List UInt8
  t : List UInt8
  e : Bool
def SpS.ahead (s : SpS) (k : List UInt8) : Bool := !s.e || decide (Lib.compareBytes k s.t < 0)
def SpS.has (s : SpS) (k : List UInt8) : Bool := decide (Lib.compareBytes s.f k ≤ 0) && s.ahead k
def SpS.none (s : SpS) : Bool := !s.ahead s.f
def SpS.all (s : SpS) : Bool := decide (s.f.length = 0) && !s.e
def SpS.meets (s r : SpS) : Bool := s.ahead r.f && r.ahead s.f
def SpS.zero : SpS := ⟨[], [], false⟩
structure Sp where
  f : Kb
  t : Kb
  e : Bool
def Kb.zero : Kb := ⟨none, 0, []⟩
theorem Kb.zero_ok (w : World) : Kb.zero.Ok w := ⟨Bs.nil _ _, Nat.le_refl _, (by show (0 : Nat) ≤ _; omega), fun _ => rfl⟩
def Sp.zero : Sp := ⟨Kb.zero, Kb.zero, false⟩
def Sp.v (s : Sp) : Value := .agg #[.slice s.f.q s.f.l.length s.f.c, .slice s.t.q s.t.l.length s.t.c, .bool s.e]
def Sp.s (s : Sp) : SpS := ⟨s.f.l, s.t.l, s.e⟩
structure Sp.Ok (w : World) (s : Sp) : Prop where
  f : s.f.Ok w
  t : s.t.Ok w
theorem Sp.Ok.below {w w' : World} {s : Sp} (h : s.Ok w) (hb : Below w.heap.size w w') : s.Ok w' := ⟨h.f.below hb, h.t.below hb⟩
theorem Sp.zero_ok (w : World) : Sp.zero.Ok w := ⟨Kb.zero_ok w, Kb.zero_ok w⟩

/-- The box of a span. -/
theorem sp_box (w : World) (s : Sp) : ∃ W, W = w.alloc (.cells #[.slice s.f.q s.f.l.length s.f.c, .slice s.t.q s.t.l.length s.t.c, .bool s.e] 77) ∧ Below w.heap.size w W ∧ W.heap.size = w.heap.size + 1 ∧
    (∀ w', Below W.heap.size W w' → Below w.heap.size w w' ∧ w'.cell? ⟨w.heap.size, 0, none⟩ = some (.slice s.f.q s.f.l.length s.f.c) ∧ w'.cell? ⟨w.heap.size, 1, none⟩ = some (.slice s.t.q s.t.l.length s.t.c) ∧ w'.cell? ⟨w.heap.size, 2, none⟩ = some (.bool s.e)) := by
  refine ⟨_, rfl, (Below.refl _ _).alloc (Nat.le_refl _) _, by simp, fun w' hb => ?_⟩
  have h1 := (hb.block w.heap.size (by simp)).trans (heap_alloc_new w _)
  exact ⟨((Below.refl _ _).alloc (Nat.le_refl _) _).trans (hb.mono (by simp)), Joins.cell_of_block h1 0, Joins.cell_of_block h1 1, Joins.cell_of_block h1 2⟩

set_option maxHeartbeats 800000 in
theorem spAhead {w : World} {s : Sp} (h : s.Ok w) {k : Kb} (hk : k.Ok w) :
    Calls Tryz.prog 63 #[s.v, .slice k.q k.l.length k.c] w fun e w' => e = .returned (.bool (s.s.ahead k.l)) ∧ Below w.heap.size w w' := by
  obtain ⟨W, hW, hbw, hws, hc⟩ := sp_box w s
  have HC := Lib.hid hc
  have HBW := Lib.hid hbw
  obtain ⟨z0, z1, z2⟩ := (hc W (Below.refl _ _)).2
  have HCMP := Lib.hid (bytesCompare_any (hk.bs.below hbw) (h.t.bs.below hbw) k.l.length k.c s.t.l.length s.t.c rfl rfl hk.z h.t.z)
  have HR : Hid (s.s.ahead k.l = (!s.e || decide (Lib.compareBytes k.l s.t.l < 0))) := Lib.hid rfl
  unfold Sp.v
  generalize s.s.ahead k.l = R at *
  generalize Lib.compareBytes k.l s.t.l = c at *
  generalize k.l.length = kn at *
  generalize s.t.l.length = tn at *
  generalize s.f.l.length = fn at *
  cases hE : s.e
  · rw [hE] at HR z2 hW
    rw [hE] at HC
    clear h hk hc hE
    go_enter Tryz.func63, Tryz.ntmps63
    go_wp2
    go_ret
    exact ⟨by rw [HR.out]; rfl, sbox1 _ _⟩
  · rw [hE] at HR z2 hW
    rw [hE] at HC
    clear h hk hc hE
    go_enter Tryz.func63, Tryz.ntmps63
    go_wp2_with fail
    rw [← hW]
    clear hW
    refine HCMP.out.mono ?_; rintro e w1 ⟨rfl, rfl⟩
    go_wp2
    go_ret
    exact ⟨by rw [HR.out]; rfl, HBW.out⟩

set_option maxHeartbeats 800000 in
theorem spHas {w : World} {s : Sp} (h : s.Ok w) {k : Kb} (hk : k.Ok w) :
    Calls Tryz.prog 31 #[s.v, .slice k.q k.l.length k.c] w fun e w' => e = .returned (.bool (s.s.has k.l)) ∧ Below w.heap.size w w' := by
  obtain ⟨W, hW, hbw, hws, hc⟩ := sp_box w s
  have HC := Lib.hid hc
  have HBW := Lib.hid hbw
  obtain ⟨z0, z1, z2⟩ := (hc W (Below.refl _ _)).2
  have HCMP := Lib.hid (bytesCompare_any (h.f.bs.below hbw) (hk.bs.below hbw) s.f.l.length s.f.c k.l.length k.c rfl rfl h.f.z hk.z)
  have HA := Lib.hid (spAhead (h.below hbw) (hk.below hbw))
  have HR : Hid (s.s.has k.l = (decide (Lib.compareBytes s.f.l k.l ≤ 0) && s.s.ahead k.l)) := Lib.hid rfl
  unfold Sp.v at *
  generalize s.s.has k.l = R at *
  generalize s.s.ahead k.l = A at *
  generalize Lib.compareBytes s.f.l k.l = c at *
  generalize k.l.length = kn at *
  generalize s.t.l.length = tn at *
  generalize s.f.l.length = fn at *
  by_cases h0 : c ≤ 0
  · have d0 : decide (c ≤ 0) = true := decide_eq_true h0
    rw [d0] at HR
    clear h hk hc
    go_enter Tryz.func31, Tryz.ntmps31
    go_wp2_with fail
    rw [← hW]
    clear hW
    refine HCMP.out.mono ?_; rintro e w1 ⟨rfl, rfl⟩
    go_wp2_with fail
    refine HA.out.mono ?_; rintro e w1 ⟨rfl, hb1⟩
    have HB1 := Lib.hid (HC.out _ hb1).1
    clear hb1
    go_wp2
    go_ret
    exact ⟨by rw [HR.out]; simp, HB1.out⟩
  · have d0 : decide (c ≤ 0) = false := decide_eq_false h0
    rw [d0] at HR
    clear h hk hc
    go_enter Tryz.func31, Tryz.ntmps31
    go_wp2_with fail
    rw [← hW]
    clear hW
    refine HCMP.out.mono ?_; rintro e w1 ⟨rfl, rfl⟩
    go_wp2
    go_ret
    exact ⟨by rw [HR.out]; simp, HBW.out⟩

set_option maxHeartbeats 800000 in
theorem spNone {w : World} {s : Sp} (h : s.Ok w) :
    Calls Tryz.prog 28 #[s.v] w fun e w' => e = .returned (.bool s.s.none) ∧ Below w.heap.size w w' := by
  obtain ⟨W, hW, hbw, hws, hc⟩ := sp_box w s
  have HC := Lib.hid hc
  obtain ⟨z0, z1, z2⟩ := (hc W (Below.refl _ _)).2
  have HA := Lib.hid (spAhead (h.below hbw) (h.f.below hbw))
  have HR : Hid (s.s.none = !s.s.ahead s.f.l) := Lib.hid rfl
  unfold Sp.v at *
  generalize s.s.none = R at *
  generalize s.s.ahead s.f.l = A at *
  generalize s.t.l.length = tn at *
  generalize s.f.l.length = fn at *
  clear h hc
  go_enter Tryz.func28, Tryz.ntmps28
  go_wp2_with fail
  rw [← hW]
  clear hW
  refine HA.out.mono ?_; rintro e w1 ⟨rfl, hb1⟩
  have HB1 := Lib.hid (HC.out _ hb1).1
  clear hb1
  go_wp2
  go_ret
  exact ⟨by rw [HR.out]; rfl, HB1.out⟩

set_option maxHeartbeats 800000 in
theorem spAll {w : World} {s : Sp} :
    Calls Tryz.prog 32 #[s.v] w fun e w' => e = .returned (.bool s.s.all) ∧ Below w.heap.size w w' := by
  obtain ⟨W, hW, hbw, hws, hc⟩ := sp_box w s
  have HBW := Lib.hid hbw
  obtain ⟨z0, z1, z2⟩ := (hc W (Below.refl _ _)).2
  have HR : Hid (s.s.all = (decide (s.f.l.length = 0) && !s.e)) := Lib.hid rfl
  unfold Sp.v at *
  generalize s.s.all = R at *
  generalize s.t.l.length = tn at *
  generalize s.f.l.length = fn at *
  generalize s.e = E at *
  clear hc
  by_cases h0 : fn = 0
  · subst h0
    go_enter Tryz.func32, Tryz.ntmps32
    go_wp2
    go_ret
    exact ⟨by rw [HR.out]; simp, sbox1 _ _⟩
  · have d0 : decide (fn = 0) = false := decide_eq_false h0
    have d1 : ((fn : Int) == 0) = false := by rw [beq_eq_false_iff_ne]; omega
    have d2 : (fn == 0) = false := by rw [beq_eq_false_iff_ne]; omega
    rw [d0] at HR
    go_enter Tryz.func32, Tryz.ntmps32
    go_wp2
    go_ret
    exact ⟨by rw [HR.out]; simp, sbox1 _ _⟩

set_option maxHeartbeats 1600000 in
theorem spMeets {w : World} {s r : Sp} (h : s.Ok w) (hr : r.Ok w) :
    Calls Tryz.prog 30 #[s.v, r.v] w fun e w' => e = .returned (.bool (s.s.meets r.s)) ∧ Below w.heap.size w w' := by
  obtain ⟨W1, hW1, hbw1, hws1, hc1⟩ := sp_box w s
  obtain ⟨W, hW, hbw, hws, hc⟩ := sp_box W1 r
  have HC1 := Lib.hid hc1
  have HC := Lib.hid hc
  have hbb : Below w.heap.size w W := (hc1 W hbw).1
  have HBW := Lib.hid hbb
  have HA := Lib.hid (spAhead (h.below hbb) (hr.f.below hbb))
  have HA2 := Lib.hid fun w' (hb : Below W.heap.size W w') => spAhead ((hr.below hbb).below hb) ((h.f.below hbb).below hb)
  have HR : Hid (s.s.meets r.s = (s.s.ahead r.f.l && r.s.ahead s.f.l)) := Lib.hid rfl
  have HZ : Hid (∀ w', Below W.heap.size W w' → (w'.cell? ⟨w.heap.size, 0, none⟩ = some (.slice s.f.q s.f.l.length s.f.c) ∧ w'.cell? ⟨w.heap.size, 1, none⟩ = some (.slice s.t.q s.t.l.length s.t.c) ∧ w'.cell? ⟨w.heap.size, 2, none⟩ = some (.bool s.e)) ∧ (w'.cell? ⟨w.heap.size + 1, 0, none⟩ = some (.slice r.f.q r.f.l.length r.f.c) ∧ w'.cell? ⟨w.heap.size + 1, 1, none⟩ = some (.slice r.t.q r.t.l.length r.t.c) ∧ w'.cell? ⟨w.heap.size + 1, 2, none⟩ = some (.bool r.e)) ∧ Below w.heap.size w w') := Lib.hid fun w' hb => ⟨(hc1 w' (hbw.trans (hb.mono hbw.size))).2, by rw [← hws1]; exact (hc w' hb).2, hbb.trans (hb.mono hbb.size)⟩
  unfold Sp.v at *
  generalize s.s.meets r.s = R at *
  generalize s.s.ahead r.f.l = A1 at *
  generalize r.s.ahead s.f.l = A2 at *
  generalize s.f.l.length = n1 at *
  generalize s.t.l.length = n2 at *
  generalize r.f.l.length = n3 at *
  generalize r.t.l.length = n4 at *
  clear h hr hc hc1 hbw hbb hbw1
  subst hW1
  cases A1
  · go_enter Tryz.func30, Tryz.ntmps30
    go_wp2_with fail
    rw [← hW]
    clear hW
    refine HA.out.mono ?_; rintro e w1 ⟨rfl, hb1⟩
    have HB1 := Lib.hid (HZ.out _ hb1)
    clear hb1
    go_wp2
    go_ret
    exact ⟨by rw [HR.out]; rfl, HB1.out.2.2⟩
  · go_enter Tryz.func30, Tryz.ntmps30
    go_wp2_with fail
    rw [← hW]
    clear hW
    refine HA.out.mono ?_; rintro e w1 ⟨rfl, hb1⟩
    obtain ⟨⟨z0, z1, z2⟩, ⟨y0, y1, y2⟩, _⟩ := HZ.out _ hb1
    have HB1 := Lib.hid hb1
    clear hb1
    go_wp2_with fail
    refine (HA2.out _ HB1.out).mono ?_; rintro e w2 ⟨rfl, hb2⟩
    have HB2 := Lib.hid (HZ.out _ (HB1.out.trans (hb2.mono HB1.out.size)))
    clear hb2
    go_wp2
    go_ret
    exact ⟨by rw [HR.out]; rfl, HB2.out.2.2⟩

end Go.Proofs.YtfpdcfomfikkiaaGreatDoor

set_option linter.unusedVariables false
set_option linter.unusedSimpArgs false
set_option maxRecDepth 100000
namespace Go.Proofs.YtfpdcfomfikkiaaGreatDoor
open Go.RowKit

/-- What Read tells of a page. -/
noncomputable def PG.page (X : PG) (k : Int) : Option (UInt8 × List UInt8) := open Classical in
  if X.F.st k = 0 then none else if openE (X.S.read k) k = 0 then some ((X.S.read k).headD 0, fIn (X.S.read k)) else none
theorem PG.page_is {X : PG} {k : Nat} (hs : X.F.st k ≠ 0) (hk : k < 4096) {kind : UInt8} {gen : Nat} {l : List UInt8} (hp : X.S.read k = pageB kind k gen l) (hl : l.length ≤ 493) (hg : gen ≤ 1152921504606846976) : X.page k = some (kind, l) := by
  unfold PG.page
  have hz := page_right (kind := kind) (no := k) (gen := gen) hl hk hg k
  rw [if_pos rfl] at hz
  obtain ⟨f1, f2, f3, f4, f5, _⟩ := page_fields (kind := kind) hl (no := k) (by omega) (gen := gen) (by omega)
  rw [if_neg hs, hp, if_pos hz, f5]
  have hh : (pageB kind k gen l).headD 0 = kind := by
    cases h : pageB kind k gen l with
    | nil => rw [h] at f1; cases f1
    | cons a m => rw [h] at f1; simpa using f1
  rw [hh]
theorem SD.read_len {S : SD} (h : S.Ok) (k : Int) : (S.read k).length = 512 := by
  unfold SD.read
  cases hf : found S.waits k with
  | none => exact h.l k
  | some l => exact found_len h.w hf
theorem PG.page_len {X : PG} {k : Int} {kind : UInt8} {l : List UInt8} (h : X.page k = some (kind, l)) : l.length ≤ 493 := by
  unfold PG.page at h
  split at h
  · cases h
  · split at h
    · rename_i h0
      simp only [Option.some.injEq, Prod.mk.injEq] at h
      rw [← h.2]
      unfold openE at h0
      split at h0
      · cases h0
      · split at h0
        · cases h0
        · split at h0
          · rename_i hr
            have := hr.2.2.2.2.1
            unfold fIn
            rw [List.length_take]
            omega
          · cases h0
    · cases h

def GrReadPost (w : World) (X : PG) (k : Int) (e : Ending) (w' : World) : Prop :=
  (∃ kind l v, X.page k = some (kind, l) ∧ e = .returned (.tuple #[.int .u8 (kind.toNat : Int), v, .int .i64 0]) ∧ Own w' w.heap.size v l ∧ Below w.heap.size w w') ∨
  (X.page k = none ∧ ∃ z : Int, z ≠ 0 ∧ z ≠ 1 ∧ e = .returned (.tuple #[.int .u8 0, .slice none 0 0, .int .i64 z]) ∧ Below w.heap.size w w')

section
variable {w w' : World} {B P pd lm fm pl um wm la : Nat} {v : Value} {X : PG}

set_option maxHeartbeats 1600000 in
theorem grRead_gen (hT : Tab w) (h : GrIs w B P pd lm fm pl um wm la v X) (hz : X.F.hi = X.S.size) (k : Int) :
    Calls Tryz.prog 56 #[.pointer (some ⟨P, 0, none⟩), .int .i64 k] w (GrReadPost w X k) := by
  have HM := Lib.hid h.made
  have c1 := h.c1
  have HST := Lib.hid (frState_any h.list k)
  by_cases hs : X.F.st k = 0
  · have hb0 : (X.F.st k == 0) = true := by rw [beq_iff_eq]; exact hs
    have HP : Hid (X.page k = none) := Lib.hid (by unfold PG.page; rw [if_pos hs])
    rw [hs] at HST
    clear h hT hs hb0
    go_enter Tryz.func56, Tryz.ntmps56
    go_wp2_with fail
    refine HM.out.mono ?_; rintro e w1 ⟨rfl, rfl⟩
    go_wp2_with fail
    refine HST.out.mono ?_; rintro e w1 ⟨rfl, hb1⟩
    have HB1 := Lib.hid hb1
    clear hb1
    go_wp2
    exact bodyPost_ret (v := .tuple #[.int .u8 0, .slice none 0 0, .int .i64 2]) (by simp [results, Tryz.results56, go_sem]) rfl (.inr ⟨HP.out, 2, by decide, by decide, rfl, HB1.out⟩)
  have hk : 0 ≤ k ∧ k < X.S.size := by
    have h1 : X.F.has k = true := by
      cases hh : X.F.has k
      · exact absurd (by unfold FL.st; rw [hh]; rfl) hs
      · rfl
    have h2 := FL.has_iff.1 h1
    have := h.list.ok.h0
    omega
  have HR := Lib.hid fun w' hb => read_any (h.disk.below (w' := w') hb) hk.1 hk.2
  have hlen := SD.read_len h.disk.ok k
  have HPL : Hid (512 = (X.S.read k).length) := Lib.hid hlen.symm
  have HO : Hid (∀ w1 g, Below w.heap.size w w1 → Sec w1 g (X.S.read k) → Calls Tryz.prog 86 #[.slice (some ⟨g, 0, none⟩) 512 512, .int .i64 k] w1 (OpenPost w1 (X.S.read k) k)) := Lib.hid fun w1 g hb hsec => pOpen_any (hT.below hT.lt hb) hsec.bs HPL.out (Nat.le_refl _) (by omega) k
  have hb0 : (X.F.st k == 0) = false := by rw [beq_eq_false_iff_ne]; exact hs
  have HP1 : Hid (openE (X.S.read k) k ≠ 0 → X.page k = none) := Lib.hid fun h0 => by unfold PG.page; rw [if_neg hs, if_neg h0]
  have HP2 : Hid (openE (X.S.read k) k = 0 → ∀ u, (X.S.read k)[0]? = some u → X.page k = some (u, fIn (X.S.read k))) := Lib.hid fun h0 u hu => by
    unfold PG.page
    rw [if_neg hs, if_pos h0]
    congr 2
    cases hx : X.S.read k with
    | nil => rw [hx] at hu; cases hu
    | cons a m => rw [hx] at hu; simpa using hu
  have HC0 : Hid (∀ w', Below w.heap.size w w' → w'.cell? ⟨P, 0, none⟩ = some (.pointer (some ⟨pd, 0, none⟩))) := Lib.hid fun w' hb => (h.below hb).c0
  clear h hs hT hlen hk hz
  generalize X.S.read k = pg at *
  generalize X.F.st k = st at *
  go_enter Tryz.func56, Tryz.ntmps56
  go_wp2_with fail
  refine HM.out.mono ?_; rintro e w1 ⟨rfl, rfl⟩
  go_wp2_with fail
  refine HST.out.mono ?_; rintro e w1 ⟨rfl, hb1⟩
  have HB1 := Lib.hid hb1
  have c0 := HC0.out _ hb1
  clear hb1
  go_wp2_with fail
  refine (HR.out _ HB1.out).mono ?_; rintro e w2 ⟨g, rfl, hg, hsec, hb2⟩
  have HB2 := Lib.hid (HB1.out.trans (hb2.mono HB1.out.size))
  have HS2 := Lib.hid hsec
  clear hb2 hsec hg c0
  go_wp2_with fail
  have HOO := Lib.hid (HO.out _ _ HB2.out HS2.out)
  clear HO
  generalize hz0 : openE pg k = z at *
  by_cases hz1 : z = 0
  · refine HOO.out.mono ?_
    rintro e w3 (⟨h1, _⟩ | ⟨h1, u, v', hu, rfl, ho, hb3⟩)
    · rw [hz0] at h1; exact absurd hz1 h1
    have HB3 := Lib.hid (HB2.out.trans (hb3.mono HB2.out.size))
    have HOW := Lib.hid ho
    have HQ := Lib.hid (HP2.out hz1 u hu)
    have HSZ := Lib.hid HB2.out.size
    clear HP1 HP2 hz0 hz1 HOO hb3 ho hu h1 HB2 HS2 HR HC0
    go_wp2
    exact bodyPost_ret (v := .tuple #[.int .u8 (u.toNat : Int), v', .int .i64 0]) (by simp [results, Tryz.results56, go_sem]) rfl (.inl ⟨u, _, v', HQ.out, rfl, HOW.out.le HSZ.out, HB3.out⟩)
  · refine HOO.out.mono ?_
    rintro e w3 h3
    obtain ⟨h1, rfl, hb3⟩ : openE pg k ≠ 0 ∧ e = .returned (.tuple #[.int .u8 0, .int .i64 0, .slice none 0 0, .int .i64 (openE pg k : Nat)]) ∧ Below w2.heap.size w2 w3 := by
      rcases h3 with h3 | h3
      · exact h3
      · exact absurd (hz0 ▸ h3.1) hz1
    have HB3 := Lib.hid (HB2.out.trans (hb3.mono HB2.out.size))
    have HQ := Lib.hid (HP1.out hz1)
    have hne : (((openE pg k : Nat) : Int) == 0) = false := by rw [hz0, beq_eq_false_iff_ne]; omega
    have hne2 : (((openE pg k : Nat) : Int) != 0) = true := by rw [hz0, bne_iff_ne]; omega
    clear HP1 HP2 HOO hb3 h1 HB2 HS2 HR HC0
    rw [hz0] at hne hne2 ⊢
    have hne3 : (z != 0) = true := by rw [bne_iff_ne]; omega
    clear hz0
    go_wp2
    exact bodyPost_ret (v := .tuple #[.int .u8 0, .slice none 0 0, .int .i64 18]) (by simp [results, Tryz.results56, go_sem]) rfl (.inr ⟨HQ.out, 18, by decide, by decide, rfl, HB3.out⟩)

end

end Go.Proofs.YtfpdcfomfikkiaaGreatDoor

set_option linter.unusedVariables false
set_option linter.unusedSimpArgs false
set_option maxRecDepth 100000
namespace Go.Proofs.YtfpdcfomfikkiaaGreatDoor
open Go.RowKit

/-- The low bits of a number. -/
theorem andLow {n : Int} {M b : Nat} (hM : M = 2 ^ b - 1) (hb : b ≤ 11) : bits BinOp.and IntKind.i64 n (M : Int) = n % 2 ^ b := by
  have hlt : M < 18446744073709551616 := by
    have : 2 ^ b ≤ 2 ^ 11 := Nat.pow_le_pow_right (by decide) hb
    omega
  have h1 : (BitVec.ofInt 64 n).toNat = (n % 18446744073709551616).toNat := by
    rw [BitVec.toNat_ofInt]
    rfl
  have h2 : (BitVec.ofInt 64 (M : Int)).toNat = M := by
    rw [BitVec.ofInt_natCast, BitVec.toNat_ofNat]
    exact Nat.mod_eq_of_lt hlt
  have h3 : bits BinOp.and IntKind.i64 n (M : Int) = IntKind.i64.wrap (((BitVec.ofInt 64 n &&& BitVec.ofInt 64 (M : Int)).toNat : Nat) : Int) := rfl
  rw [h3, BitVec.toNat_and, h1, h2, hM, Nat.and_two_pow_sub_one_eq_mod, IntKind.wrap_i64]
  have hcases : b = 0 ∨ b = 1 ∨ b = 2 ∨ b = 3 ∨ b = 4 ∨ b = 5 ∨ b = 6 ∨ b = 7 ∨ b = 8 ∨ b = 9 ∨ b = 10 ∨ b = 11 := by omega
  clear h1 h2 h3 hlt hM
  rcases hcases with rfl | rfl | rfl | rfl | rfl | rfl | rfl | rfl | rfl | rfl | rfl | rfl <;> omega
theorem and7 (x : Int) : bits BinOp.and IntKind.i64 x 7 = x % 8 := andLow (M := 7) (b := 3) rfl (by omega)
theorem and15 (x : Int) : bits BinOp.and IntKind.i64 x 15 = x % 16 := andLow (M := 15) (b := 4) rfl (by omega)
theorem and31 (x : Int) : bits BinOp.and IntKind.i64 x 31 = x % 32 := andLow (M := 31) (b := 5) rfl (by omega)

theorem FL.back_used {F : FL} (h : F.Ok) (such : Int → Bool) : (F.back such).nUsed = F.nUsed + F.nSuch such := by
  unfold FL.nUsed FL.nSuch
  show List.countP _ F.pages = List.countP _ F.pages + _
  induction F.pages with
  | nil => rfl
  | cons x l ih =>
    simp only [List.countP_cons, ih]
    cases hu : F.used x
    · cases hw : F.waits x with
      | none => simp [FL.back, hu, hw]
      | some g => cases hg : such g <;> simp [FL.back, hu, hw, hg] <;> omega
    · have := h.ha hu
      simp [FL.back, hu, this]
      omega
theorem FL.back_waits (F : FL) (such : Int → Bool) : (F.back such).nWaits = (F.leave such).nWaits := rfl
theorem FL.back_such (F : FL) (such s2 : Int → Bool) : (F.back such).nSuch s2 = (F.leave such).nSuch s2 := rfl
theorem FL.leave_used (F : FL) (such : Int → Bool) : (F.leave such).nUsed = F.nUsed := rfl
theorem FL.leave_such (F : FL) (s1 s2 : Int → Bool) : (F.leave s1).nSuch s2 = F.nSuch fun g => !s1 g && s2 g := by
  unfold FL.nSuch
  show List.countP _ F.pages = _
  refine List.countP_congr fun x _ => ?_
  cases hw : F.waits x with
  | none => simp [FL.leave, hw]
  | some g => cases h1 : s1 g <;> simp [FL.leave, hw, h1]
theorem FL.such_none {F : FL} {such : Int → Bool} (h : ∀ g, such g = false) : F.nSuch such = 0 := by
  unfold FL.nSuch
  rw [List.countP_eq_zero]
  intro x _
  cases hw : F.waits x <;> simp [h]

theorem FL.same {F G : FL} (h1 : F.lo = G.lo) (h2 : F.hi = G.hi) (h3 : ∀ x, F.used x = G.used x) (h4 : ∀ x, F.waits x = G.waits x) : F = G := by
  obtain ⟨a, b, c, d⟩ := F
  obtain ⟨a', b', c', d'⟩ := G
  obtain rfl : a = a' := h1
  obtain rfl : b = b' := h2
  obtain rfl : c = c' := funext h3
  obtain rfl : d = d' := funext h4
  rfl

/-- The first pages wait, those behind them are in use: of n pages from 0 on. -/
def FL.row (n : Nat) (L : List Int) : FL := ⟨0, n, fun x => decide ((L.length : Int) ≤ x) && decide (x < n), fun x => if 0 ≤ x then L[x.toNat]? else none⟩

theorem FL.row_ok {n : Nat} {L : List Int} (hn : n ≤ 4096) (hL : L.length ≤ n) : (FL.row n L).Ok := by
  refine ⟨Int.le_refl _, by show (0 : Int) ≤ n; omega, by show (n : Int) ≤ 4096; omega, fun {x} hx => ?_, fun {x} hx => ?_, fun {x} hx => ?_⟩
  · simp only [FL.row, Bool.and_eq_true, decide_eq_true_eq] at hx ⊢
    omega
  · simp only [FL.row] at hx ⊢
    by_cases h : 0 ≤ x
    · rw [if_pos h] at hx
      obtain ⟨v, hv⟩ := Option.isSome_iff_exists.1 hx
      have := (List.getElem?_eq_some_iff.1 hv).1
      omega
    · rw [if_neg h] at hx; cases hx
  · simp only [FL.row, Bool.and_eq_true, decide_eq_true_eq] at hx ⊢
    rw [if_pos (by omega)]
    exact List.getElem?_eq_none (by omega)

theorem FL.row_pages (n : Nat) (L : List Int) : (FL.row n L).pages = (List.range n).map fun (i : Nat) => (i : Int) := by
  unfold FL.pages FL.row
  simp

theorem FL.row_such (n : Nat) {L : List Int} (such : Int → Bool) : L.length ≤ n → (FL.row n L).nSuch such = L.countP such := by
  intro hL
  unfold FL.nSuch
  rw [FL.row_pages, List.countP_map]
  have : ∀ m, (List.range m).countP ((fun k => match (FL.row n L).waits k with | some g => such g | none => false) ∘ fun (i : Nat) => (i : Int)) = (L.take m).countP such := by
    intro m
    induction m with
    | zero => rfl
    | succ m ih =>
      rw [List.range_succ, List.countP_append, ih, List.take_add_one, List.countP_append]
      congr 1
      have e : (FL.row n L).waits (m : Int) = L[m]? := by simp [FL.row]
      cases hm : L[m]? with
      | none => simp [List.countP_cons, e, hm]
      | some g => simp [List.countP_cons, e, hm]
  refine (this n).trans ?_
  rw [List.take_of_length_le hL]
theorem FL.row_waits (n : Nat) {L : List Int} (hL : L.length ≤ n) : (FL.row n L).nWaits = L.length := by
  have h := FL.row_such n (fun _ => true) hL
  rw [List.countP_true] at h
  rw [← h]
  unfold FL.nWaits FL.nSuch
  refine List.countP_congr fun x _ => ?_
  cases (FL.row n L).waits x <;> simp
theorem FL.row_used {n : Nat} {L : List Int} (hL : L.length ≤ n) : (FL.row n L).nUsed = n - L.length := by
  unfold FL.nUsed
  rw [FL.row_pages, List.countP_map]
  have : ∀ m, m ≤ n → (List.range m).countP ((FL.row n L).used ∘ fun (i : Nat) => (i : Int)) = m - L.length := by
    intro m
    induction m with
    | zero => intro _; simp
    | succ m ih =>
      intro hm
      rw [List.range_succ, List.countP_append, ih (by omega)]
      by_cases h : L.length ≤ m
      · have e : (FL.row n L).used (m : Int) = true := by
          simp only [FL.row, Bool.and_eq_true, decide_eq_true_eq]
          omega
        simp [List.countP_cons, e]
        omega
      · have e : (FL.row n L).used (m : Int) = false := by
          simp only [FL.row, Bool.and_eq_false_iff, decide_eq_false_iff_not]
          omega
        simp [List.countP_cons, e]
        omega
  exact this n (Nat.le_refl _)
theorem FL.row_late {n : Nat} {L : List Int} (g : Int) : (FL.row n L).late L.length g = FL.row n (L ++ [g]) := by
  refine FL.same rfl rfl (fun x => ?_) (fun x => ?_)
  · show (if x = (L.length : Int) then false else (decide ((L.length : Int) ≤ x) && decide (x < n))) = (decide (((L ++ [g]).length : Int) ≤ x) && decide (x < n))
    by_cases hx : x = L.length
    · subst hx
      simp
      omega
    · simp only [hx, if_false, List.length_append, List.length_singleton]
      congr 1
      simp only [decide_eq_decide]
      omega
  · show (if x = (L.length : Int) then some g else if 0 ≤ x then L[x.toNat]? else none) = if 0 ≤ x then (L ++ [g])[x.toNat]? else none
    by_cases hx : x = L.length
    · subst hx
      simp
    · simp only [hx, if_false]
      by_cases h0 : 0 ≤ x
      · simp only [h0, if_true]
        by_cases h1 : x < L.length
        · rw [List.getElem?_append_left (by omega)]
        · rw [List.getElem?_eq_none (by omega), List.getElem?_eq_none (by simp; omega)]
      · simp only [h0, if_false]
theorem FL.row_st {n : Nat} {L : List Int} (hL : L.length < n) : (FL.row n L).has L.length = true ∧ (FL.row n L).st L.length = 2 := by
  have h1 : (FL.row n L).has L.length = true := by
    rw [FL.has_iff]
    simp only [FL.row]
    omega
  refine ⟨h1, FL.st_two.2 ⟨h1, ?_⟩⟩
  simp only [FL.row, Bool.and_eq_true, decide_eq_true_eq]
  omega

/-- The first i of n pages are in use, none waits. -/
def FL.upto (n i : Nat) : FL := ⟨0, n, fun x => decide (0 ≤ x) && decide (x < i), fun _ => none⟩
theorem FL.upto_zero (n : Nat) : FL.upto n 0 = FL.new 0 n := by
  unfold FL.upto FL.new
  congr 1
  funext x
  by_cases h : 0 ≤ x
  · simp [h]
  · simp [h]
theorem FL.upto_all (n : Nat) : FL.upto n n = FL.row n [] := by
  unfold FL.upto FL.row
  congr 1
  funext x
  by_cases h : 0 ≤ x <;> simp [h]
theorem FL.upto_least {n i : Nat} (hi : i < n) : (FL.upto n i).least = some (i : Int) := by
  have hst : ∀ k : Int, 0 ≤ k → k < n → (FL.upto n i).st k = if k < i then 2 else 1 := by
    intro k h0 h1
    have hh : (FL.upto n i).has k = true := FL.has_iff.2 ⟨h0, h1⟩
    unfold FL.st
    rw [hh]
    by_cases hk : k < i
    · simp [FL.upto, hk, h0]
    · simp [FL.upto, hk]
  cases hl : (FL.upto n i).least with
  | none =>
    have := FL.least_none hl (i : Int)
    rw [hst i (by omega) (by omega)] at this
    simp at this
  | some k =>
    obtain ⟨h1, h2⟩ := FL.least_some hl
    have hk : (FL.upto n i).has k = true := by
      cases hh : (FL.upto n i).has k
      · simp [FL.st, hh] at h1
      · rfl
    have hk2 := FL.has_iff.1 hk
    have hk3 : 0 ≤ k ∧ k < n := hk2
    rw [hst k hk3.1 hk3.2] at h1
    by_cases hki : k < i
    · rw [if_pos hki] at h1; cases h1
    · by_cases e : k = i
      · rw [e]
      · exfalso
        refine h2 i (by show (0 : Int) ≤ i; omega) (by omega) ?_
        rw [hst i (by omega) (by omega), if_neg (by omega)]
theorem FL.upto_alloc {n i : Nat} (hi : i < n) : (FL.upto n i).alloc = FL.upto n (i + 1) ∧ (FL.upto n i).allocV = .tuple #[.int .i64 i, .int .i64 0] := by
  unfold FL.alloc FL.allocV
  rw [FL.upto_least hi]
  refine ⟨?_, rfl⟩
  show (FL.upto n i).take i = _
  unfold FL.take FL.upto
  congr 1
  funext x
  by_cases hx : x = i
  · subst hx
    simp
    omega
  · simp only [hx, if_false]
    congr 1
    simp only [decide_eq_decide]
    omega

end Go.Proofs.YtfpdcfomfikkiaaGreatDoor

set_option linter.unusedVariables false
set_option linter.unusedSimpArgs false
set_option maxRecDepth 100000
namespace Go.Proofs.YtfpdcfomfikkiaaGreatDoor
open Go.RowKit

/-- What a look's calls leave: all but the look's own map stays. -/
structure LStep (sm : Nat) (w w' : World) : Prop where
  below : Below sm w w'
  keeps : Keeps (isMaps [sm]) w w'
theorem LStep.of {sm : Nat} {w w' : World} (hb : Below w.heap.size w w') (h : sm ≤ w.heap.size) : LStep sm w w' := ⟨hb.mono h, Keeps.below hb⟩
theorem LStep.trans {sm : Nat} {w w1 w2 : World} (h : LStep sm w w1) (h' : LStep sm w1 w2) : LStep sm w w2 := ⟨h.below.trans h'.below, h.keeps.trans h'.keeps⟩
theorem LStep.size {sm : Nat} {w w' : World} (h : LStep sm w w') : w.heap.size ≤ w'.heap.size := h.keeps.size
theorem isMaps_cells (bs : List Nat) (i : Nat) (c : Array Value) (t : TypeId) (f : Nat × Nat) : isMaps bs i (.cells c t f) = false := rfl

structure LookAt (w : World) (B P pd sm : Nat) (X : PG) (seen : Int → Bool) : Prop where
  T : Tab w
  g : ∃ lm fm pl um wm la v, GrIs w B P pd lm fm pl um wm la v X ∧ lm ≠ sm ∧ fm ≠ sm ∧ um ≠ sm ∧ wm ≠ sm ∧ la ≠ sm
  z : X.F.hi = X.S.size
  m : MapSt w sm (setOf seen)
  tb : 0 < B

theorem Tab.keeps {w w' : World} (h : Tab w) {bs : List Nat} (hk : Keeps (isMaps bs) w w') : Tab w' := by
  obtain ⟨t, fr, h⟩ := h
  exact ⟨t, fr, hk.stay h rfl⟩
section
variable {w w' : World} {B P pd sm : Nat} {X : PG} {seen seen' : Int → Bool}
theorem LookAt.lt (h : LookAt w B P pd sm X seen) : sm < w.heap.size := h.m.lt
theorem LookAt.keeps (h : LookAt w B P pd sm X seen) (hk : Keeps (isMaps [sm]) w w') (hm : MapSt w' sm (setOf seen')) : LookAt w' B P pd sm X seen' := by
  obtain ⟨hT, ⟨lm, fm, pl, um, wm, la, v, hg, n1, n2, n3, n4, n5⟩, hz, hm0, hb⟩ := h
  have hq : ∀ {b : Nat}, b ≠ sm → ∀ es c, isMaps [sm] b (.map es c) = false := fun {b} hb es c => by simp [isMaps, hb]
  exact ⟨hT.keeps hk, ⟨lm, fm, pl, um, wm, la, v, ⟨hk.stay hg.blk rfl, hg.disk.keeps hk (fun _ _ _ => rfl) (fun _ _ _ => rfl) (fun _ _ _ => rfl) (hq n1) (hq n2), hg.list.keeps hk (fun _ => rfl) (hq n3) (hq n4), hg.mla.keeps hk (hq n5), pins_keeps hg.pins hk (fun _ _ _ => rfl), hg.bP, hg.bu, hg.bw, hg.ba, hg.nlm, hg.nfm, hg.nla, hg.g0⟩, n1, n2, n3, n4, n5⟩, hz, hm, hb⟩
theorem LookAt.below (h : LookAt w B P pd sm X seen) (hb : Below w.heap.size w w') : LookAt w' B P pd sm X seen := h.keeps (Keeps.below hb) (h.m.block (hb.block _ h.lt))
theorem LookAt.step (h : LookAt w B P pd sm X seen) (hb : Below w.heap.size w w') : LStep sm w w' := LStep.of hb (Nat.le_of_lt h.lt)

set_option maxHeartbeats 400000 in
theorem trMade_yes (hT : Tab w) {lm fm pl um wm la : Nat} {v : Value} (h : GrIs w B P pd lm fm pl um wm la v X) (hz : X.F.hi = X.S.size) :
    Calls Tryz.prog 22 #[.pointer (some ⟨P, 0, none⟩)] w fun e w' => e = .returned (.bool true) ∧ Below w.heap.size w w' := by
  have H := Lib.hid (grRead_gen hT h hz 0)
  clear h hT hz
  go_enter Tryz.func22, Tryz.ntmps22
  go_wp2_with fail
  refine H.out.mono ?_
  rintro e w1 (⟨kind, l, u, _, rfl, ho, hb⟩ | ⟨_, z, h0, h1, rfl, hb⟩)
  · have HB := Lib.hid hb
    clear ho hb
    go_wp2
    go_ret
    exact ⟨rfl, HB.out⟩
  · have HB := Lib.hid hb
    have hne : (z != 1) = true := by rw [bne_iff_ne]; exact h1
    clear hb
    go_wp2
    go_ret
    exact ⟨rfl, HB.out⟩

def LookV (P sm : Nat) : Value := .agg #[.pointer (some ⟨P, 0, none⟩), .map (some sm)]
def LookPost (w : World) (B P pd : Nat) (X : PG) (e : Ending) (w' : World) : Prop := ∃ sm, e = .returned (.agg #[.pointer (some ⟨P, 0, none⟩), .map (some sm)]) ∧ w.heap.size ≤ sm ∧ LookAt w' B P pd sm X (fun _ => false) ∧ Below w.heap.size w w'

theorem GrIs.mlt {lm fm pl um wm la : Nat} {v : Value} (h : GrIs w B P pd lm fm pl um wm la v X) : lm < w.heap.size ∧ fm < w.heap.size ∧ um < w.heap.size ∧ wm < w.heap.size ∧ la < w.heap.size := by
  obtain ⟨v, ms, fl, ff, hd⟩ := h.disk
  exact ⟨hd.ml.lt, hd.mf.lt, h.list.mu.lt, h.list.mw.lt, h.mla.lt⟩

set_option maxHeartbeats 400000 in
theorem lookAt_any (hT : Tab w) (h : GrAt w B P pd X) (hz : X.F.hi = X.S.size) (ht : 0 < B) :
    Calls Tryz.prog 23 #[.pointer (some ⟨P, 0, none⟩)] w (LookPost w B P pd X) := by
  have hmm := @run_makeMap Tryz.prog
  go_enter Tryz.func23, Tryz.ntmps23
  go_wp2
  obtain ⟨W, hW⟩ : ∃ W, W = (w.alloc (.cells #[.pointer (some ⟨P, 0, none⟩), .map (some (w.heap.size + 1))] 70)).alloc (.map #[] 0) := ⟨_, rfl⟩
  rw [← hW]
  have e1 : (w.alloc (.cells #[.pointer (some ⟨P, 0, none⟩), .map (some (w.heap.size + 1))] 70)).heap.size = w.heap.size + 1 := by simp
  have b1 : W.heap[w.heap.size + 1]? = some (.map #[] 0) := by
    have := heap_alloc_new (w.alloc (.cells #[.pointer (some ⟨P, 0, none⟩), .map (some (w.heap.size + 1))] 70)) (.map #[] 0)
    rw [e1] at this
    rw [hW]
    exact this
  have b0 : W.heap[w.heap.size]? = some (.cells #[.pointer (some ⟨P, 0, none⟩), .map (some (w.heap.size + 1))] 70 (0, 0)) := by
    rw [hW, Below.heap_alloc _ _ _ (by omega)]
    exact heap_alloc_new w _
  have hb : Below w.heap.size w W := by rw [hW]; exact sbox2 _ _ _
  have g0 : W.cell? ⟨w.heap.size, 0, none⟩ = some (.pointer (some ⟨P, 0, none⟩)) := (Joins.cell_of_block b0 0).trans rfl
  have g1 : W.cell? ⟨w.heap.size, 1, none⟩ = some (.map (some (w.heap.size + 1))) := (Joins.cell_of_block b0 1).trans rfl
  refine bodyPost_ret (v := .agg #[.pointer (some ⟨P, 0, none⟩), .map (some (w.heap.size + 1))]) (by simp [results, Tryz.results23, go_sem, g0, g1]) rfl ⟨w.heap.size + 1, rfl, by omega, ⟨hT.below hT.lt hb, ?_, hz, ?_, ht⟩, hb⟩
  · obtain ⟨lm, fm, pl, um, wm, la, v, hg⟩ := h
    obtain ⟨m1, m2, m3, m4, m5⟩ := hg.mlt
    exact ⟨lm, fm, pl, um, wm, la, v, hg.below hb, by omega, by omega, by omega, by omega, by omega⟩
  · have := MapSt.new b1
    have e : setOf (fun _ => false) = fun _ => none := by funext k; simp [setOf]
    rw [e]
    exact this

def add (seen : Int → Bool) (k : Int) : Int → Bool := fun x => if x = k then true else seen x
def PagePost (w : World) (B P pd sm : Nat) (X : PG) (seen : Int → Bool) (k : Int) (e : Ending) (w' : World) : Prop :=
  (∃ kind l v, seen k = false ∧ X.page k = some (kind, l) ∧ e = .returned (.tuple #[.int .u8 (kind.toNat : Int), v, .int .i64 0]) ∧ Own w' w.heap.size v l ∧ LookAt w' B P pd sm X (add seen k) ∧ LStep sm w w') ∨
  (¬ (seen k = false ∧ X.page k ≠ none) ∧ e = .returned (.tuple #[.int .u8 0, .slice none 0 0, .int .i64 18]) ∧ (∃ seen', LookAt w' B P pd sm X seen') ∧ LStep sm w w')

theorem LookAt.stored (h : LookAt w B P pd sm X seen) {k : Int} (hm : MapSt w' sm fun x => if x = k then some (Value.agg #[]) else setOf seen x) (hg : w.grownBy w' (some sm)) : LookAt w' B P pd sm X (add seen k) ∧ LStep sm w w' := by
  obtain ⟨es, c, hb, _⟩ := h.m.st
  have hk : Keeps (isMaps [sm]) w w' := Keeps.of_grown hg hb (by simp [isMaps])
  exact ⟨h.keeps hk ((setOf_add seen k) ▸ hm), (Below.refl sm w).grown hg (Nat.le_of_lt h.lt) (fun k hk => by cases hk; exact Nat.le_refl _), hk⟩
theorem LookAt.read (h : LookAt w B P pd sm X seen) (k : Int) : Calls Tryz.prog 56 #[.pointer (some ⟨P, 0, none⟩), .int .i64 k] w (GrReadPost w X k) := by
  obtain ⟨lm, fm, pl, um, wm, la, v, hg, _⟩ := h.g
  exact grRead_gen h.T hg h.z k

set_option maxHeartbeats 1600000 in
theorem lookPage_any (h : LookAt w B P pd sm X seen) (k : Int) :
    Calls Tryz.prog 62 #[.agg #[.pointer (some ⟨P, 0, none⟩), .map (some sm)], .int .i64 k] w (PagePost w B P pd sm X seen k) := by
  obtain ⟨W, hW⟩ : ∃ W, W = (w.alloc (.cells #[.pointer (some ⟨P, 0, none⟩), .map (some sm)] 70)).alloc (.cells #[] 67) := ⟨_, rfl⟩
  have hbw : Below w.heap.size w W := by rw [hW]; exact sbox2 _ _ _
  have hw0 : (w.alloc (.cells #[.pointer (some ⟨P, 0, none⟩), .map (some sm)] 70)).heap[w.heap.size]? = some (.cells #[.pointer (some ⟨P, 0, none⟩), .map (some sm)] 70 (0, 0)) := heap_alloc_new w _
  have hwB : W.heap[w.heap.size]? = some (.cells #[.pointer (some ⟨P, 0, none⟩), .map (some sm)] 70 (0, 0)) := by
    rw [hW, Below.heap_alloc _ _ _ (by simp)]
    exact hw0
  have HL := Lib.hid (h.below (sbox1 w (.cells #[.pointer (some ⟨P, 0, none⟩), .map (some sm)] 70)))
  have HW := Lib.hid (h.below hbw)
  have HBW := Lib.hid hbw
  have hlt := h.lt
  have HST : Hid (LStep sm w W) := Lib.hid (h.step hbw)
  cases hs : seen k
  · have HS := Lib.hid hs
    have z0 : W.cell? ⟨w.heap.size, 0, none⟩ = some (.pointer (some ⟨P, 0, none⟩)) := (Joins.cell_of_block hwB 0).trans rfl
    have z1 : W.cell? ⟨w.heap.size, 1, none⟩ = some (.map (some sm)) := (Joins.cell_of_block hwB 1).trans rfl
    have HB0 := Lib.hid hwB
    clear h hs hwB hw0
    go_enter Tryz.func62, Tryz.ntmps62
    go_wp2_with (first | (at_lookup; refine fr_look rfl _ _ rfl rfl HL.out.m rfl ?_; rw [HS.out]) | (at_mapUpdate; rw [← hW]; refine st_store rfl _ _ _ _ 3 67 rfl Tryz.underlying58 Tryz.underlying3 rfl HW.out.m rfl rfl ?_; intro w3 hm hg; obtain ⟨l3, s3⟩ := HW.out.stored hm hg; have L3 := Lib.hid l3; have S3 := Lib.hid (HST.out.trans s3); have B3 := Lib.hid (s3.keeps.stay HB0.out rfl); have y0 : w3.cell? ⟨w.heap.size, 0, none⟩ = some (.pointer (some ⟨P, 0, none⟩)) := (Joins.cell_of_block B3.out 0).trans rfl; have y1 : w3.cell? ⟨w.heap.size, 1, none⟩ = some (.map (some sm)) := (Joins.cell_of_block B3.out 1).trans rfl; clear hm hg l3 s3))
    refine (L3.out.read k).mono ?_
    rintro e w4 (⟨kind, l, u, hp, rfl, ho, hb⟩ | ⟨hp, z, h0, h1, rfl, hb⟩)
    · have HP := Lib.hid hp
      have HO := Lib.hid ho
      have HB4 := Lib.hid hb
      clear hp ho hb y0 y1 z0 z1 hlt
      go_wp2
      exact bodyPost_ret (v := .tuple #[.int .u8 (kind.toNat : Int), u, .int .i64 0]) (by simp [results, Tryz.results62, go_sem]) rfl (.inl ⟨kind, l, u, HS.out, HP.out, rfl, HO.out.le S3.out.size, L3.out.below HB4.out, S3.out.trans (L3.out.step HB4.out)⟩)
    · have HP := Lib.hid hp
      have HB4 := Lib.hid hb
      have hne : (z != 0) = true := by rw [bne_iff_ne]; exact h0
      clear hp hb y0 y1 z0 z1 hlt
      go_wp2
      exact bodyPost_ret (v := .tuple #[.int .u8 0, .slice none 0 0, .int .i64 18]) (by simp [results, Tryz.results62, go_sem]) rfl (.inr ⟨(fun hh => hh.2 HP.out), rfl, ⟨_, L3.out.below HB4.out⟩, S3.out.trans (L3.out.step HB4.out)⟩)
  · have HS := Lib.hid hs
    clear h hs hwB hw0
    go_enter Tryz.func62, Tryz.ntmps62
    go_wp2_with (at_lookup; refine fr_look rfl _ _ rfl rfl HL.out.m rfl ?_; rw [HS.out])
    rw [← hW]
    exact bodyPost_ret (v := .tuple #[.int .u8 0, .slice none 0 0, .int .i64 18]) (by simp [results, Tryz.results62, go_sem]) rfl (.inr ⟨(fun hh => by rw [HS.out] at hh; cases hh.1), rfl, ⟨_, HW.out⟩, HST.out⟩)
end

end Go.Proofs.YtfpdcfomfikkiaaGreatDoor

