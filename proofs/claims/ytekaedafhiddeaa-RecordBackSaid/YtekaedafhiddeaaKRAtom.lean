/-
  keys.readText, readAtom: contracts for the walks.
-/
import Derived.Test.YtekaedafhiddeaaKRNum
import Derived.Outline
set_option linter.unusedVariables false
set_option maxRecDepth 100000
namespace Go.Proofs.Ytekaedafhiddeaa
open Go.RowKit

theorem bs_tail {w : World} {b o : Nat} {x : UInt8} {r : List UInt8} (hl : Bs w (some ⟨b, o, none⟩) (x :: r)) : Bs w (some ⟨b, o + 1, none⟩) r := by
  intro _
  refine ⟨b, o + 1, rfl, fun i u hi => ?_⟩
  obtain ⟨b', o', hp, hcc⟩ := hl (by simp)
  simp only [Option.some.injEq, Addr.mk.injEq, and_true] at hp
  obtain ⟨rfl, rfl⟩ := hp
  have := hcc (i + 1) u (by simpa using hi)
  rw [Nat.add_assoc, Nat.add_comm 1 i]
  exact this

set_option maxHeartbeats 1600000 in
theorem readTextK_any {w : World} {b o : Nat} {x : UInt8} {r : List UInt8} (hl : Bs w (some ⟨b, o, none⟩) (x :: r)) (n c : Nat) (hn : n = r.length + 1) (hnc : n ≤ c) (hc : c ≤ 9223372036854775807) (hlen : r.length ≤ 100000) (k : Int) :
    Calls Try.prog 106 #[.slice (some ⟨b, o, none⟩) n c, .int .i64 k] w (RAPost w (rdStr k r)) := by
  have hst := store_flt
  obtain ⟨W, hW⟩ : ∃ W, W = w.alloc (.cells #[.int .i64 0, .int .i64 0, .float .f64 0, .string ⟨#[]⟩] 43) := ⟨_, rfl⟩
  have HWs : Hid (W.heap.size = w.heap.size + 1) := Lib.hid (by rw [hW]; simp)
  have HWB : Hid (∀ w', Below W.heap.size W w' → Below w.heap.size w w') := Lib.hid fun w' h => by rw [hW] at h; exact box_below h
  have HR : Hid (∀ w', Below W.heap.size W w' → (w'.cell? ⟨w.heap.size, 0, none⟩ = some (.int .i64 0) ∧ w'.frozen? ⟨w.heap.size, 0, none⟩ = false) ∧ (w'.cell? ⟨w.heap.size, 1, none⟩ = some (.int .i64 0) ∧ w'.frozen? ⟨w.heap.size, 1, none⟩ = false) ∧ (w'.cell? ⟨w.heap.size, 2, none⟩ = some (.float .f64 0) ∧ w'.frozen? ⟨w.heap.size, 2, none⟩ = false) ∧ (w'.cell? ⟨w.heap.size, 3, none⟩ = some (.string ⟨#[]⟩) ∧ w'.frozen? ⟨w.heap.size, 3, none⟩ = false)) := Lib.hid fun w' h => by
    rw [hW] at h
    exact ⟨res_cell h 0, res_cell h 1, res_cell h 2, res_cell h 3⟩
  have hbs : Bs W (some ⟨b, o + 1, none⟩) r := (bs_tail hl).below (HWB.out _ (Below.refl _ _))
  have hcap : ∀ q : Option Addr, (if c = 1 then some (⟨b, o, none⟩ : Addr) else some ⟨b, o + 1, none⟩) = q → (q = some ⟨b, o + 1, none⟩ ∨ (c = 1 ∧ q = some ⟨b, o, none⟩)) := fun q h => by
    by_cases h1 : c = 1
    · rw [if_pos h1] at h; exact .inr ⟨h1, h.symm⟩
    · rw [if_neg h1] at h; exact .inl h.symm
  have hT : ∀ q : Option Addr, (c = 1 ∧ q = some ⟨b, o, none⟩) ∨ q = some ⟨b, o + 1, none⟩ → Calls Try.prog 59 #[.slice q (n - 1) (c - 1)] W (RPost W r) := fun q hq => by
    refine readText_any ?_ (n - 1) (c - 1) (by omega) (by omega) (by omega) (fun h => by rcases hq with ⟨_, rfl⟩ | rfl <;> cases h) hlen
    rcases hq with ⟨h1, rfl⟩ | rfl
    · have : r = [] := List.eq_nil_of_length_eq_zero (by omega)
      rw [this]
      exact Bs.nil _ _
    · exact hbs
  have HT := Lib.hid hT
  have HE : Hid (rdStr k r = if (rdT r).1 ≠ 0 then ((rdT r).1, at0, 0) else if 256 < (rdT r).2.1.length then (11, at0, 0) else (0, ⟨k, 0, 0, ⟨(rdT r).2.1.toArray⟩⟩, 1 + (rdT r).2.2)) := Lib.hid rfl
  have hn0 : 1 ≤ n := by omega
  obtain ⟨te, ts, tn, htr⟩ : ∃ te ts tn, rdT r = (te, ts, tn) := ⟨_, _, _, rfl⟩
  rw [htr] at HE
  dsimp only at HE
  have HTR := Lib.hid htr
  have htn : tn ≤ 100000 := by
    rcases rdT_sound r with ⟨_, _, h3⟩ | ⟨_, _, h3, _⟩
    · rw [htr] at h3; dsimp only at h3; omega
    · rw [htr] at h3; dsimp only at h3; omega
  have hts : (⟨ts.toArray⟩ : ByteArray).size = ts.length := rfl
  have HTS := Lib.hid hts
  clear hl hbs hT hn htr hlen hcap hts
  by_cases hc1 : c = 1
  · subst hc1
    have hn1 : n = 1 := by omega
    subst hn1
    go_enter Try.func106, Try.ntmps106
    go_wp2_with fail
    rw [← hW]
    replace hW := Lib.hid hW
    refine (HT.out _ (.inl (by simp))).mono ?_
    rintro e w1 hp1
    rw [RPost, HTR.out] at hp1
    obtain ⟨rfl, hb1⟩ := hp1
    have HB1 := Lib.hid (HWB.out _ hb1)
    obtain ⟨⟨g0, f0'⟩, ⟨g1, f1'⟩, ⟨g2, f2'⟩, ⟨g3, f3'⟩⟩ := HR.out _ hb1
    clear hb1 HT HR HWB HTR HWs hW
    by_cases he : te = 0
    · subst he
      have hE2 := HE.out
      rw [if_neg (by simp)] at hE2
      replace hE2 := Lib.hid hE2
      clear HE
      by_cases h256 : 256 < ts.length
      · have hs' : (256 : Int) < ((⟨ts.toArray⟩ : ByteArray).size : Int) := by rw [HTS.out]; omega
        have HXX : Hid (rdStr k r = (11, at0, 0)) := Lib.hid (by rw [hE2.out, if_pos h256])
        generalize (⟨ts.toArray⟩ : ByteArray) = sv at *
        clear hE2 h256
        go_wp2
        refine bodyPost_ret (v := .tuple #[at0.cell, .int .i64 0, .int .i64 11]) (by simp [results, Try.results106, go_sem, at0, At.cell, g0, g1, g2, g3]) rfl ⟨by rw [HXX.out]; rfl, ?_⟩
        exact ((((HB1.out.setCell (Nat.le_refl _) _).setCell (Nat.le_refl _) _).setCell (Nat.le_refl _) _).setCell (Nat.le_refl _) _)
      · have hs' : ¬ (256 : Int) < ((⟨ts.toArray⟩ : ByteArray).size : Int) := by rw [HTS.out]; omega
        have HXX : Hid (rdStr k r = (0, ⟨k, 0, 0, ⟨ts.toArray⟩⟩, 1 + tn)) := Lib.hid (by rw [hE2.out, if_neg h256])
        generalize (⟨ts.toArray⟩ : ByteArray) = sv at *
        clear hE2 h256
        have hcast : ((1 + tn : Nat) : Int) = 1 + (tn : Int) := by omega
        replace hcast := Lib.hid hcast
        go_wp2
        refine bodyPost_ret (v := .tuple #[.agg #[.int .i64 k, .int .i64 0, .float .f64 0, .string sv], .int .i64 (1 + (tn : Int)), .int .i64 0]) (by simp [results, Try.results106, go_sem, g0, g1, g2, g3]) rfl ⟨by rw [HXX.out]; show _ = Ending.returned (.tuple #[_, .int .i64 ((1 + tn : Nat) : Int), _]); rw [hcast.out]; rfl, ?_⟩
        exact ((((HB1.out.setCell (Nat.le_refl _) _).setCell (Nat.le_refl _) _).setCell (Nat.le_refl _) _).setCell (Nat.le_refl _) _)
    · have he' : (te != 0) = true := by simpa using he
      have HXX : Hid (rdStr k r = (te, at0, 0)) := Lib.hid (by rw [HE.out, if_pos he])
      clear he HE
      go_wp2
      refine bodyPost_ret (v := .tuple #[at0.cell, .int .i64 0, .int .i64 te]) (by simp [results, Try.results106, go_sem, at0, At.cell, g0, g1, g2, g3]) rfl ⟨by rw [HXX.out]; rfl, ?_⟩
      exact ((((HB1.out.setCell (Nat.le_refl _) _).setCell (Nat.le_refl _) _).setCell (Nat.le_refl _) _).setCell (Nat.le_refl _) _)
  · have hc2 : ¬ (c : Int) = 1 := by omega
    go_enter Try.func106, Try.ntmps106
    go_wp2_with fail
    rw [← hW]
    replace hW := Lib.hid hW
    refine (HT.out _ (.inr rfl)).mono ?_
    rintro e w1 hp1
    rw [RPost, HTR.out] at hp1
    obtain ⟨rfl, hb1⟩ := hp1
    have HB1 := Lib.hid (HWB.out _ hb1)
    obtain ⟨⟨g0, f0'⟩, ⟨g1, f1'⟩, ⟨g2, f2'⟩, ⟨g3, f3'⟩⟩ := HR.out _ hb1
    clear hb1 HT HR HWB HTR HWs hW
    by_cases he : te = 0
    · subst he
      have hE2 := HE.out
      rw [if_neg (by simp)] at hE2
      replace hE2 := Lib.hid hE2
      clear HE
      by_cases h256 : 256 < ts.length
      · have hs' : (256 : Int) < ((⟨ts.toArray⟩ : ByteArray).size : Int) := by rw [HTS.out]; omega
        have HXX : Hid (rdStr k r = (11, at0, 0)) := Lib.hid (by rw [hE2.out, if_pos h256])
        generalize (⟨ts.toArray⟩ : ByteArray) = sv at *
        clear hE2 h256
        go_wp2
        refine bodyPost_ret (v := .tuple #[at0.cell, .int .i64 0, .int .i64 11]) (by simp [results, Try.results106, go_sem, at0, At.cell, g0, g1, g2, g3]) rfl ⟨by rw [HXX.out]; rfl, ?_⟩
        exact ((((HB1.out.setCell (Nat.le_refl _) _).setCell (Nat.le_refl _) _).setCell (Nat.le_refl _) _).setCell (Nat.le_refl _) _)
      · have hs' : ¬ (256 : Int) < ((⟨ts.toArray⟩ : ByteArray).size : Int) := by rw [HTS.out]; omega
        have HXX : Hid (rdStr k r = (0, ⟨k, 0, 0, ⟨ts.toArray⟩⟩, 1 + tn)) := Lib.hid (by rw [hE2.out, if_neg h256])
        generalize (⟨ts.toArray⟩ : ByteArray) = sv at *
        clear hE2 h256
        have hcast : ((1 + tn : Nat) : Int) = 1 + (tn : Int) := by omega
        replace hcast := Lib.hid hcast
        go_wp2
        refine bodyPost_ret (v := .tuple #[.agg #[.int .i64 k, .int .i64 0, .float .f64 0, .string sv], .int .i64 (1 + (tn : Int)), .int .i64 0]) (by simp [results, Try.results106, go_sem, g0, g1, g2, g3]) rfl ⟨by rw [HXX.out]; show _ = Ending.returned (.tuple #[_, .int .i64 ((1 + tn : Nat) : Int), _]); rw [hcast.out]; rfl, ?_⟩
        exact ((((HB1.out.setCell (Nat.le_refl _) _).setCell (Nat.le_refl _) _).setCell (Nat.le_refl _) _).setCell (Nat.le_refl _) _)
    · have he' : (te != 0) = true := by simpa using he
      have HXX : Hid (rdStr k r = (te, at0, 0)) := Lib.hid (by rw [HE.out, if_pos he])
      clear he HE
      go_wp2
      refine bodyPost_ret (v := .tuple #[at0.cell, .int .i64 0, .int .i64 te]) (by simp [results, Try.results106, go_sem, at0, At.cell, g0, g1, g2, g3]) rfl ⟨by rw [HXX.out]; rfl, ?_⟩
      exact ((((HB1.out.setCell (Nat.le_refl _) _).setCell (Nat.le_refl _) _).setCell (Nat.le_refl _) _).setCell (Nat.le_refl _) _)

set_option maxHeartbeats 800000 in
theorem readAtomK_nil {w : World} (p : Option Addr) (c : Nat) : Calls Try.prog 96 #[.slice p 0 c] w (RAPost w (rdAt [])) := by
  have hst := store_flt
  go_enter Try.func96, Try.ntmps96
  go_wp2
  exact bodyPost_ret (v := .tuple #[at0.cell, .int .i64 0, .int .i64 10]) (by simp [results, Try.results96, go_sem, at0, At.cell]) rfl ⟨rfl, box_below (Below.refl _ _)⟩

set_option maxHeartbeats 4000000 in
theorem readAtomK_cons {w : World} {b o : Nat} {x : UInt8} {r : List UInt8} (hl : Bs w (some ⟨b, o, none⟩) (x :: r)) (n c : Nat) (hn : n = r.length + 1) (hnc : n ≤ c) (hc : c ≤ 9223372036854775807) (hlen : r.length ≤ 100000) :
    Calls Try.prog 96 #[.slice (some ⟨b, o, none⟩) n c] w (RAPost w (rdAt (x :: r))) := by
  have hst := store_flt
  have HE := Lib.hid (rdAt_cons x r)
  have hx := hl.cell (i := 0) (by simp)
  simp only [List.getElem_cons_zero, Nat.add_zero] at hx
  have hb := World.block_lt_of_cell? _ _ hx
  simp only at hb
  have h5 := u8_eq (c := x) (d := 5) (n := 5) rfl
  have h16 := u8_eq (c := x) (d := 16) (n := 16) rfl
  have h17 := u8_eq (c := x) (d := 17) (n := 17) rfl
  have h32 := u8_eq (c := x) (d := 32) (n := 32) rfl
  have h48 := u8_eq (c := x) (d := 48) (n := 48) rfl
  have h49 := u8_eq (c := x) (d := 49) (n := 49) rfl
  have hn0 : ((n : Int) == 0) = false := by rw [beq_eq_false_iff_ne]; omega
  have hn1 : (0 : Int) < (n : Int) := by omega
  obtain ⟨W, hW⟩ : ∃ W, W = w.alloc (.cells #[.int .i64 0, .int .i64 0, .float .f64 0, .string ⟨#[]⟩] 43) := ⟨_, rfl⟩
  have HWB : Hid (∀ w', Below W.heap.size W w' → Below w.heap.size w w') := Lib.hid fun w' h => by rw [hW] at h; exact box_below h
  have HR : Hid (∀ w', Below W.heap.size W w' → (w'.cell? ⟨w.heap.size, 0, none⟩ = some (.int .i64 0) ∧ w'.frozen? ⟨w.heap.size, 0, none⟩ = false) ∧ (w'.cell? ⟨w.heap.size, 1, none⟩ = some (.int .i64 0) ∧ w'.frozen? ⟨w.heap.size, 1, none⟩ = false) ∧ (w'.cell? ⟨w.heap.size, 2, none⟩ = some (.float .f64 0) ∧ w'.frozen? ⟨w.heap.size, 2, none⟩ = false) ∧ (w'.cell? ⟨w.heap.size, 3, none⟩ = some (.string ⟨#[]⟩) ∧ w'.frozen? ⟨w.heap.size, 3, none⟩ = false)) := Lib.hid fun w' h => by
    rw [hW] at h
    exact ⟨res_cell h 0, res_cell h 1, res_cell h 2, res_cell h 3⟩
  have HL := Lib.hid fun w' h => hl.below (HWB.out w' h)
  have HN := Lib.hid hn
  clear hl hn
  by_cases e5 : x = 5
  · rw [decide_eq_true e5] at h5
    clear h16
    clear h17
    clear h32
    clear h48
    clear h49
    have HXX : Hid (rdAt (x :: r) = (0, at0, 1)) := Lib.hid (by rw [HE.out, if_pos e5])
    have HB0 := Lib.hid (HWB.out _ (Below.refl _ _))
    clear HE e5  HL HR
    go_enter Try.func96, Try.ntmps96
    go_wp2
    refine bodyPost_ret (v := .tuple #[at0.cell, .int .i64 1, .int .i64 0]) (by simp [results, Try.results96, go_sem, at0, At.cell]) rfl ⟨by rw [HXX.out]; rfl, ?_⟩
    exact box_below (Below.refl _ _)
  rw [decide_eq_false e5] at h5
  by_cases e16 : x = 16
  · rw [decide_eq_true e16] at h16
    clear h17
    clear h32
    clear h48
    clear h49
    have HXX : Hid (rdAt (x :: r) = (0, ⟨1, 0, 0, str0⟩, 1)) := Lib.hid (by rw [HE.out, if_neg e5, if_pos e16])
    have HB0 := Lib.hid (HWB.out _ (Below.refl _ _))
    clear HE e16 e5 HL HR
    go_enter Try.func96, Try.ntmps96
    go_wp2
    refine bodyPost_ret (v := .tuple #[At.cell ⟨1, 0, 0, str0⟩, .int .i64 1, .int .i64 0]) (by simp [results, Try.results96, go_sem, str0, At.cell]) rfl ⟨by rw [HXX.out]; rfl, ?_⟩
    exact box_below (Below.refl _ _)
  rw [decide_eq_false e16] at h16
  by_cases e17 : x = 17
  · rw [decide_eq_true e17] at h17
    clear h32
    clear h48
    clear h49
    have HXX : Hid (rdAt (x :: r) = (0, ⟨1, 1, 0, str0⟩, 1)) := Lib.hid (by rw [HE.out, if_neg e5, if_neg e16, if_pos e17])
    have HB0 := Lib.hid (HWB.out _ (Below.refl _ _))
    clear HE e17 e5 e16 HL HR
    go_enter Try.func96, Try.ntmps96
    go_wp2
    refine bodyPost_ret (v := .tuple #[At.cell ⟨1, 1, 0, str0⟩, .int .i64 1, .int .i64 0]) (by simp [results, Try.results96, go_sem, str0, At.cell]) rfl ⟨by rw [HXX.out]; rfl, ?_⟩
    exact box_below (Below.refl _ _)
  rw [decide_eq_false e17] at h17
  by_cases e32 : x = 32
  · rw [decide_eq_true e32] at h32
    clear h48
    clear h49
    have HXX : Hid (rdAt (x :: r) = rdNum r) := Lib.hid (by rw [HE.out, if_neg e5, if_neg e16, if_neg e17, if_pos e32])
    have HL32 : Hid (∀ w', Below W.heap.size W w' → Bs w' (some ⟨b, o, none⟩) (32 :: r)) := Lib.hid (by rw [← e32]; exact HL.out)
    have HC := Lib.hid (readNumber_any (HL32.out _ (Below.refl _ _)) n c HN.out hnc hc)
    obtain ⟨ee, ⟨k0, n0, f0, s0⟩, uu, hxx⟩ : ∃ ee a uu, rdNum r = (ee, a, uu) := ⟨_, _, _, rfl⟩
    rw [hxx] at HC HXX
    clear HE e32 e5 e16 e17 HL hxx HL32
    go_enter Try.func96, Try.ntmps96
    go_wp2_with fail
    rw [← hW]
    replace hW := Lib.hid hW
    refine HC.out.mono ?_
    rintro e w1 ⟨rfl, hb1⟩
    have HB1 := Lib.hid (HWB.out _ hb1)
    obtain ⟨⟨g0, f0'⟩, ⟨g1, f1'⟩, ⟨g2, f2'⟩, ⟨g3, f3'⟩⟩ := HR.out _ hb1
    clear hb1 HC HR HWB hW hx hb
    dsimp only [At.cell]
    go_wp2
    refine bodyPost_ret (v := .tuple #[At.cell ⟨k0, n0, f0, s0⟩, .int .i64 (uu : Nat), .int .i64 ee]) (by simp [results, Try.results96, go_sem, At.cell, g0, g1, g2, g3]) rfl ⟨by rw [HXX.out], ?_⟩
    exact ((((HB1.out.setCell (Nat.le_refl _) _).setCell (Nat.le_refl _) _).setCell (Nat.le_refl _) _).setCell (Nat.le_refl _) _)
  rw [decide_eq_false e32] at h32
  by_cases e48 : x = 48
  · rw [decide_eq_true e48] at h48
    clear h49
    have HXX : Hid (rdAt (x :: r) = rdStr 4 r) := Lib.hid (by rw [HE.out, if_neg e5, if_neg e16, if_neg e17, if_neg e32, if_pos e48])
    have HC := Lib.hid (readTextK_any (HL.out _ (Below.refl _ _)) n c HN.out hnc hc hlen 4)
    obtain ⟨ee, ⟨k0, n0, f0, s0⟩, uu, hxx⟩ : ∃ ee a uu, rdStr 4 r = (ee, a, uu) := ⟨_, _, _, rfl⟩
    rw [hxx] at HC HXX
    clear HE e48 e5 e16 e17 e32 HL hxx
    go_enter Try.func96, Try.ntmps96
    go_wp2_with fail
    rw [← hW]
    replace hW := Lib.hid hW
    refine HC.out.mono ?_
    rintro e w1 ⟨rfl, hb1⟩
    have HB1 := Lib.hid (HWB.out _ hb1)
    obtain ⟨⟨g0, f0'⟩, ⟨g1, f1'⟩, ⟨g2, f2'⟩, ⟨g3, f3'⟩⟩ := HR.out _ hb1
    clear hb1 HC HR HWB hW hx hb
    dsimp only [At.cell]
    go_wp2
    refine bodyPost_ret (v := .tuple #[At.cell ⟨k0, n0, f0, s0⟩, .int .i64 (uu : Nat), .int .i64 ee]) (by simp [results, Try.results96, go_sem, At.cell, g0, g1, g2, g3]) rfl ⟨by rw [HXX.out], ?_⟩
    exact ((((HB1.out.setCell (Nat.le_refl _) _).setCell (Nat.le_refl _) _).setCell (Nat.le_refl _) _).setCell (Nat.le_refl _) _)
  rw [decide_eq_false e48] at h48
  by_cases e49 : x = 49
  · rw [decide_eq_true e49] at h49
    have HXX : Hid (rdAt (x :: r) = rdStr 5 r) := Lib.hid (by rw [HE.out, if_neg e5, if_neg e16, if_neg e17, if_neg e32, if_neg e48, if_pos e49])
    have HC := Lib.hid (readTextK_any (HL.out _ (Below.refl _ _)) n c HN.out hnc hc hlen 5)
    obtain ⟨ee, ⟨k0, n0, f0, s0⟩, uu, hxx⟩ : ∃ ee a uu, rdStr 5 r = (ee, a, uu) := ⟨_, _, _, rfl⟩
    rw [hxx] at HC HXX
    clear HE e49 e5 e16 e17 e32 e48 HL hxx
    go_enter Try.func96, Try.ntmps96
    go_wp2_with fail
    rw [← hW]
    replace hW := Lib.hid hW
    refine HC.out.mono ?_
    rintro e w1 ⟨rfl, hb1⟩
    have HB1 := Lib.hid (HWB.out _ hb1)
    obtain ⟨⟨g0, f0'⟩, ⟨g1, f1'⟩, ⟨g2, f2'⟩, ⟨g3, f3'⟩⟩ := HR.out _ hb1
    clear hb1 HC HR HWB hW hx hb
    dsimp only [At.cell]
    go_wp2
    refine bodyPost_ret (v := .tuple #[At.cell ⟨k0, n0, f0, s0⟩, .int .i64 (uu : Nat), .int .i64 ee]) (by simp [results, Try.results96, go_sem, At.cell, g0, g1, g2, g3]) rfl ⟨by rw [HXX.out], ?_⟩
    exact ((((HB1.out.setCell (Nat.le_refl _) _).setCell (Nat.le_refl _) _).setCell (Nat.le_refl _) _).setCell (Nat.le_refl _) _)
  rw [decide_eq_false e49] at h49
  have HXX : Hid (rdAt (x :: r) = (11, at0, 0)) := Lib.hid (by rw [HE.out, if_neg e5, if_neg e16, if_neg e17, if_neg e32, if_neg e48, if_neg e49])
  clear HE e5 e16 e17 e32 e48 e49 HL HR
  go_enter Try.func96, Try.ntmps96
  go_wp2
  refine bodyPost_ret (v := .tuple #[at0.cell, .int .i64 0, .int .i64 11]) (by simp [results, Try.results96, go_sem, at0, At.cell]) rfl ⟨by rw [HXX.out]; rfl, ?_⟩
  exact box_below (Below.refl _ _)

theorem readAtomK_any {w : World} {p : Option Addr} {l : List UInt8} (hl : Bs w p l) (n c : Nat) (hn : n = l.length) (hnc : n ≤ c) (hc : c ≤ 9223372036854775807) (hlen : l.length ≤ 100000) :
    Calls Try.prog 96 #[.slice p n c] w (RAPost w (rdAt l)) := by
  cases l with
  | nil =>
    subst hn
    exact readAtomK_nil p c
  | cons x r =>
    obtain ⟨b, o, rfl, _⟩ := hl (by simp)
    exact readAtomK_cons hl n c (by simpa using hn) hnc hc (by simp at hlen; omega)

end Go.Proofs.Ytekaedafhiddeaa
