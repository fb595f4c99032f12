/-
  keys.readList, Read: contracts for the walks.
-/
import Derived.Test.YtekaedafhiddeaaKRAtom
import Derived.Test.YtekaedafhiddeaaVOwn
import Derived.Test.YtekaedafhiddeaaBlk
import Derived.Outline
set_option linter.unusedVariables false
set_option maxRecDepth 100000
namespace Go.Proofs.Ytekaedafhiddeaa
open Go.RowKit

/-- What reading tells of a value: its atom and its atoms, how many bytes, the error. -/
def RVPost (w : World) (x : Int × At × List At × Nat) (e : Ending) (w' : World) : Prop :=
  ∃ p m c, e = .returned (.tuple #[.agg #[.int .i64 x.2.1.k, .int .i64 x.2.1.n, .float .f64 x.2.1.f, .string x.2.1.s, .slice p m c], .int .i64 (x.2.2.2 : Nat), .int .i64 x.1]) ∧ m = x.2.2.1.length ∧ AOwn w' w.heap.size (.slice p m c) x.2.2.1 ∧ Below w.heap.size w w'
/-- What is read is right. -/
theorem vaOk_own {w : World} {B : Nat} {a : At} {p : Option Addr} {m c : Nat} {l : List At} (ha : a.Ok) (hl : ∀ x ∈ l, x.Ok) (hm : m = l.length) (h : AOwn w B (.slice p m c) l) : VaOk w a p m c l := by
  obtain ⟨p', c', hv, h1, h2, h3⟩ := h.form hm
  simp only [Value.slice.injEq, true_and] at hv
  obtain ⟨rfl, rfl⟩ := hv
  exact ⟨ha, hm, h1, h2, h3, hl⟩

theorem As.one {w : World} {a : At} {g : Nat} (hg : g = w.heap.size) (t : TypeId) : As (w.alloc (.cells #[.int .i64 a.k, .int .i64 a.n, .float .f64 a.f, .string a.s] t)) (some ⟨g, 0, none⟩) [a] := by
  subst hg
  have hc := fun i => Joins.cell_of_block (heap_alloc_new w (.cells #[.int .i64 a.k, .int .i64 a.n, .float .f64 a.f, .string a.s] t)) i
  intro _
  refine ⟨w.heap.size, 0, rfl, fun i b hi => ?_⟩
  match i, hi with
  | 0, hi =>
    obtain rfl : a = b := by simpa using hi
    exact ⟨hc 0, hc 1, hc 2, hc 3⟩
  | i + 1, hi => simp at hi

theorem rdLs_step {n : Nat} {acc : List At} {u : Nat} {l : List UInt8} {x : UInt8} (hx : l[u]? = some x) : rdLs (n + 1) acc u (l.drop u) = if x = 0 then (0, acc, u + 1) else if (rdAt (l.drop u)).1 ≠ 0 then ((rdAt (l.drop u)).1, [], 0)
    else if acc.length = 16 then (11, [], 0) else rdLs n (acc ++ [(rdAt (l.drop u)).2.1]) (u + (rdAt (l.drop u)).2.2) (l.drop (u + (rdAt (l.drop u)).2.2)) := by
  have h : l.drop u = x :: l.drop (u + 1) := by
    obtain ⟨hj, rfl⟩ := List.getElem?_eq_some_iff.1 hx
    exact List.drop_eq_getElem_cons hj
  have h2 : (x :: l.drop (u + 1)).drop (rdAt (l.drop u)).2.2 = l.drop (u + (rdAt (l.drop u)).2.2) := by rw [← h, List.drop_drop]
  rw [← h2, h, rdLs_cons]

/-- A list behind its mark. -/
noncomputable def rdLV (r : List UInt8) : Int × At × List At × Nat :=
  if (rdLs 17 [] 1 r).1 ≠ 0 then ((rdLs 17 [] 1 r).1, at0, [], 0) else (0, ⟨6, 0, 0, str0⟩, (rdLs 17 [] 1 r).2.1, (rdLs 17 [] 1 r).2.2)

set_option maxHeartbeats 8000000 in
theorem readListK_any {w : World} {b o : Nat} {l : List UInt8} (hl : Bs w (some ⟨b, o, none⟩) l) (n c : Nat) (hn : n = l.length) (hn0 : 1 ≤ n) (hnc : n ≤ c) (hc : c ≤ 9223372036854775807) (hlen : l.length ≤ 100000) :
    Calls Try.prog 95 #[.slice (some ⟨b, o, none⟩) n c] w (RVPost w (rdLV (l.drop 1))) := by
  have hst := store_flt
  obtain ⟨re, rl, ru, hrr⟩ : ∃ re rl ru, rdLs 17 [] 1 (l.drop 1) = (re, rl, ru) := ⟨_, _, _, rfl⟩
  have hxl : rdLV (l.drop 1) = if re ≠ 0 then (re, at0, [], 0) else (0, ⟨6, 0, 0, str0⟩, rl, ru) := by unfold rdLV; rw [hrr]
  have HXL := Lib.hid hxl
  have HRR := Lib.hid hrr
  generalize rdLV (l.drop 1) = xl at *
  have HL := Lib.hid hl
  have HN := Lib.hid hn
  have hb : b < w.heap.size := by
    obtain ⟨b', o', hp, h, _⟩ := hl.at (by omega)
    simp only [Option.some.injEq, Addr.mk.injEq, and_true] at hp
    obtain ⟨rfl, rfl⟩ := hp
    exact h
  have hn5 : n ≤ 100000 := by omega
  clear hl hn hrr hlen hxl
  go_enter Try.func95, Try.ntmps95
  go_wp2
  go_loopw [6] (fun i wr => ∃ (fuel u : Nat) (acc : List At) (pv : Option Addr) (cv : Nat), i = .int .i64 u ∧ 1 ≤ u ∧ u ≤ n ∧ acc.length + fuel = 17 ∧ 0 < fuel ∧ rdLs fuel acc u (l.drop u) = (re, rl, ru) ∧ (∀ x ∈ acc, x.Ok) ∧
      Blk wr w.heap.size #[.int .i64 0, .int .i64 0, .float .f64 0, .string ⟨#[]⟩, .slice none 0 0] ∧ Blk wr (w.heap.size + 1) #[.int .i64 6, .int .i64 0, .float .f64 0, .string ⟨#[]⟩, .slice pv acc.length cv] ∧
      AOwn wr (w.heap.size + 2) (.slice pv acc.length cv) acc ∧ Below w.heap.size w wr) (fun i _ => n - (intOf i).toNat)
  case atStart => exact ⟨17, 1, [], none, 0, rfl, by omega, by omega, rfl, by omega, HRR.out, by simp, (Blk.new w _ rfl).alloc _, Blk.new _ _ (by simp), AOwn.nil _ _, box2_below (Below.refl _ _)⟩
  case round =>
    obtain ⟨fuel, u, acc, pv, cv, rfl, hu1, hun, hfu, hf0, hrd, hok, hk0, hk1, hown, hbw⟩ := hrel
    have HRD := Lib.hid hrd
    have HOK := Lib.hid hok
    have HK0 := Lib.hid hk0
    have HK1 := Lib.hid hk1
    have HO := Lib.hid hown
    have HB := Lib.hid hbw
    have HFU := Lib.hid hfu
    have HF0 := Lib.hid hf0
    obtain ⟨m, hm⟩ : ∃ m, m = acc.length := ⟨_, rfl⟩
    have HM := Lib.hid hm
    have hm16 : m ≤ 17 := by omega
    rw [← hm] at HK1 HO
    clear hrd hok hown hbw hfu hm hf0
    by_cases hlt : u < n
    · obtain ⟨x, hx⟩ : ∃ x, l[u]? = some x := ⟨_, List.getElem?_eq_getElem (by have := HN.out; omega)⟩
      obtain ⟨f, hf⟩ : ∃ f, fuel = f + 1 := ⟨fuel - 1, by have := HF0.out; omega⟩
      have hst2 := HRD.out
      rw [hf, rdLs_step hx] at hst2
      have HST := Lib.hid hst2
      have hcx : wr.cell? ⟨b, o + u, none⟩ = some (.int .u8 (x.toNat : Int)) := by
        obtain ⟨hj, hxe⟩ := List.getElem?_eq_some_iff.1 hx
        have := (HL.out.below HB.out).cell hj
        rw [hxe] at this
        exact this
      have hbr : b < wr.heap.size := by have := HB.out.size; omega
      have hnu : ((u : Int) == (n : Int)) = false := by rw [beq_eq_false_iff_ne]; omega
      have HF := Lib.hid hf
      clear hst2 hx hf HRD
      by_cases hx0 : x = 0
      · have hx0' : ((x.toNat : Int) != 0) = false := by rw [hx0]; rfl
        have HX : Hid (xl = (0, ⟨6, 0, 0, str0⟩, acc, u + 1)) := Lib.hid (by
          have h := HST.out
          rw [if_pos hx0] at h
          have h1 := congrArg Prod.fst h
          have h2 := congrArg (fun z => z.2.1) h
          have h3 := congrArg (fun z => z.2.2) h
          dsimp only at h1 h2 h3
          rw [HXL.out, ← h1, ← h2, ← h3, if_neg (by simp)])
        clear hx0 HST HXL
        obtain ⟨⟨g0, f0⟩, ⟨g1, f1⟩, ⟨g2, f2⟩, ⟨g3, f3⟩, ⟨g4, f4⟩⟩ : _ ∧ _ ∧ _ ∧ _ ∧ _ := ⟨HK0.out.at 0, HK0.out.at 1, HK0.out.at 2, HK0.out.at 3, HK0.out.at 4⟩
        simp only [List.getElem?_toArray, List.getElem?_cons_zero, List.getElem?_cons_succ] at g0 g1 g2 g3 g4
        obtain ⟨⟨vg0, vf0⟩, ⟨vg1, vf1⟩, ⟨vg2, vf2⟩, ⟨vg3, vf3⟩, ⟨vg4, vf4⟩⟩ : _ ∧ _ ∧ _ ∧ _ ∧ _ := ⟨HK1.out.at 0, HK1.out.at 1, HK1.out.at 2, HK1.out.at 3, HK1.out.at 4⟩
        simp only [List.getElem?_toArray, List.getElem?_cons_zero, List.getElem?_cons_succ] at vg0 vg1 vg2 vg3 vg4
        go_wp2
        refine bodyPost_ret (v := .tuple #[.agg #[.int .i64 6, .int .i64 0, .float .f64 0, .string ⟨#[]⟩, .slice pv m cv], .int .i64 ((u : Int) + 1), .int .i64 0]) (by simp [results, Try.results95, go_sem, g0, g1, g2, g3, g4]) rfl ⟨pv, m, cv, by rw [HX.out]; show _ = Ending.returned (.tuple #[_, .int .i64 ((u + 1 : Nat) : Int), _]); rw [Int.natCast_add]; rfl, by rw [HX.out]; exact HM.out, ?_, ?_⟩
        · rw [HX.out]; exact (((((HO.out.far (p := ⟨w.heap.size, 0, none⟩) (by simp) _).far (p := ⟨w.heap.size, 1, none⟩) (by simp) _).far (p := ⟨w.heap.size, 2, none⟩) (by simp) _).far (p := ⟨w.heap.size, 3, none⟩) (by simp) _).far (p := ⟨w.heap.size, 4, none⟩) (by simp) _).le (by omega)
        · exact (((((HB.out.setCell (Nat.le_refl _) _).setCell (Nat.le_refl _) _).setCell (Nat.le_refl _) _).setCell (Nat.le_refl _) _).setCell (Nat.le_refl _) _)
      · have hx0' : ((x.toNat : Int) != 0) = true := by
          rw [bne_iff_ne]
          intro h
          exact hx0 (by rw [← UInt8.toNat_inj]; show _ = 0; omega)
        have HX0 := Lib.hid hx0
        clear hx0
        have HA : Hid (Calls Try.prog 96 #[.slice (some ⟨b, o + u, none⟩) (n - u) (c - u)] wr (RAPost wr (rdAt (l.drop u)))) := Lib.hid (readAtomK_any (Bs.drop (by
          obtain ⟨b', o', hp, hcc⟩ := (HL.out.below HB.out) (by intro h; have := HN.out; rw [h] at this; simp at this; omega)
          simp only [Option.some.injEq, Addr.mk.injEq, and_true] at hp
          obtain ⟨rfl, rfl⟩ := hp
          exact hcc) u) (n - u) (c - u) (by rw [List.length_drop]; have := HN.out; omega) (by omega) (by omega) (by rw [List.length_drop]; have := HN.out; omega))
        have hrok := rdAt_ok (l.drop u)
        obtain ⟨ee, ⟨k0, n0, x0, s0⟩, kk, hxx⟩ : ∃ ee a uu, rdAt (l.drop u) = (ee, a, uu) := ⟨_, _, _, rfl⟩
        have HST2 : Hid ((if ee ≠ 0 then (ee, [], 0) else if acc.length = 16 then (11, [], 0) else rdLs f (acc ++ [⟨k0, n0, x0, s0⟩]) (u + kk) (l.drop (u + kk))) = (re, rl, ru)) := Lib.hid (by
          have h := HST.out
          rw [if_neg HX0.out, hxx] at h
          exact h)
        rw [hxx] at HA hrok
        have HROK := Lib.hid hrok
        clear hxx HST hrok
        go_wp2_with fail
        refine HA.out.mono ?_
        rintro e w1 ⟨rfl, hb1⟩
        have HB1 : Hid (Below w.heap.size w w1) := Lib.hid (HB.out.trans (hb1.mono HB.out.size))
        have HK0' := Lib.hid (HK0.out.below hb1 HK0.out.lt)
        have HK1' := Lib.hid (HK1.out.below hb1 HK1.out.lt)
        have HO1 := Lib.hid (HO.out.below hb1)
        have hlt1 : w.heap.size + 1 < w1.heap.size := HK1'.out.lt
        have hlt0 : w.heap.size < w1.heap.size := HK0'.out.lt
        clear hb1 HA hcx hbr HK0 HK1 HO HB
        dsimp only [At.cell]
        obtain ⟨⟨g0, f0⟩, ⟨g1, f1⟩, ⟨g2, f2⟩, ⟨g3, f3⟩, ⟨g4, f4⟩⟩ : _ ∧ _ ∧ _ ∧ _ ∧ _ := ⟨HK0'.out.at 0, HK0'.out.at 1, HK0'.out.at 2, HK0'.out.at 3, HK0'.out.at 4⟩
        simp only [List.getElem?_toArray, List.getElem?_cons_zero, List.getElem?_cons_succ] at g0 g1 g2 g3 g4
        obtain ⟨⟨vg0, vf0⟩, ⟨vg1, vf1⟩, ⟨vg2, vf2⟩, ⟨vg3, vf3⟩, ⟨vg4, vf4⟩⟩ : _ ∧ _ ∧ _ ∧ _ ∧ _ := ⟨HK1'.out.at 0, HK1'.out.at 1, HK1'.out.at 2, HK1'.out.at 3, HK1'.out.at 4⟩
        simp only [List.getElem?_toArray, List.getElem?_cons_zero, List.getElem?_cons_succ] at vg0 vg1 vg2 vg3 vg4
        by_cases he : ee = 0
        · have he' : (ee != 0) = false := by rw [he]; rfl
          have HE := Lib.hid he
          clear he
          by_cases h16 : m = 16
          · have h16' : ((m : Int) == 16) = true := by rw [h16]; rfl
            have HX : Hid (xl = (11, at0, [], 0)) := Lib.hid (by
              have h := HST2.out
              rw [if_neg (by rw [HE.out]; simp), if_pos (by rw [← HM.out]; exact h16)] at h
              have h1 := congrArg Prod.fst h
              dsimp only at h1
              rw [HXL.out, ← h1, if_pos (by decide)])
            clear h16 HST2 HXL
            go_wp2
            refine bodyPost_ret (v := .tuple #[.agg #[.int .i64 0, .int .i64 0, .float .f64 0, .string ⟨#[]⟩, .slice none 0 0], .int .i64 0, .int .i64 11]) (by simp [results, Try.results95, go_sem, g0, g1, g2, g3, g4, hlt0]) rfl ⟨none, 0, 0, by rw [HX.out]; rfl, by rw [HX.out]; rfl, by rw [HX.out]; exact AOwn.nil _ _, ?_⟩
            exact Below.alloc (((((HB1.out.setCell (Nat.le_refl _) _).setCell (Nat.le_refl _) _).setCell (Nat.le_refl _) _).setCell (Nat.le_refl _) _).setCell (Nat.le_refl _) _) (by simp; omega) _
          · have h16' : ((m : Int) == 16) = false := by rw [beq_eq_false_iff_ne]; omega
            have H16 := Lib.hid h16
            have HRD2 : Hid (rdLs f (acc ++ [⟨k0, n0, x0, s0⟩]) (u + kk) (l.drop (u + kk)) = (re, rl, ru)) := Lib.hid (by
              have h := HST2.out
              rw [if_neg (by rw [HE.out]; simp), if_neg (by rw [← HM.out]; exact h16)] at h
              exact h)
            have hkk : 1 ≤ kk ∧ u + kk ≤ n := by
              obtain ⟨_, _, h3, h4, _⟩ := HROK.out HE.out
              dsimp only at h3 h4
              rw [List.length_drop] at h4
              have := HN.out
              omega
            obtain ⟨hkk1, hkk2⟩ := hkk
            have HA1 : Hid (At.Ok ⟨k0, n0, x0, s0⟩) := Lib.hid (HROK.out HE.out).1
            have hl1 : (acc ++ [(⟨k0, n0, x0, s0⟩ : At)]).length = m + 1 := by rw [List.length_append, ← HM.out]; rfl
            have HL1 := Lib.hid hl1
            have hm15 : m ≤ 15 := by have := HFU.out; have := HM.out; have := HF0.out; omega
            clear h16 HST2 HXL hl1
            go_wp2_with (at_builtin; refine app_atoms rfl (.tmp 41) (.tmp 43) rfl rfl (HO1.out.below (box2_below (Below.refl _ _))) (m := [⟨k0, n0, x0, s0⟩]) rfl rfl (As.one (by simp) _) (fun h => by cases h) (by have := HM.out; simp; omega) (by simp; omega) ?_; intro v3 w3 ho3 hb3; have HB3 : Hid (Below w.heap.size w w3) := Lib.hid ((HB1.out.trans ((box2_below (Below.refl _ _)).mono HB1.out.size)).trans (hb3.mono (by omega))); have HK3 := Lib.hid (((HK0'.out.alloc _).alloc _).below hb3 (by omega)); have HK4 := Lib.hid (((HK1'.out.alloc _).alloc _).below hb3 (by omega)); obtain ⟨p3, c3, rfl, _, _, _⟩ := ho3.form HL1.out.symm; have HO3 := Lib.hid ho3; clear ho3 hb3; obtain ⟨⟨y0, z0⟩, ⟨y1, z1⟩, ⟨y2, z2⟩, ⟨y3, z3⟩, ⟨y4, z4⟩⟩ : _ ∧ _ ∧ _ ∧ _ ∧ _ := ⟨HK4.out.at 0, HK4.out.at 1, HK4.out.at 2, HK4.out.at 3, HK4.out.at 4⟩; simp only [List.getElem?_toArray, List.getElem?_cons_zero, List.getElem?_cons_succ] at y0 y1 y2 y3 y4)
            go_roundw
            case rel => exact ⟨f, u + kk, acc ++ [⟨k0, n0, x0, s0⟩], p3, c3, by go_num, by omega, hkk2, by rw [HL1.out]; have := HFU.out; have := HF.out; have := HM.out; omega, by have := HFU.out; have := HF.out; have := HM.out; have := H16.out; omega, HRD2.out, fun y hy => by
              rcases List.mem_append.1 hy with h | h
              · exact HOK.out y h
              · obtain rfl := List.mem_singleton.1 h; exact HA1.out, HK3.out.far (by simp) _, by rw [HL1.out]; exact HK4.out.set 4 _, by rw [HL1.out]; exact HO3.out.far (by simp) _, HB3.out.setCell (by simp) _⟩
            case measure => simp [intOf]; omega
        · have he' : (ee != 0) = true := by simpa using he
          have HX : Hid (xl = (ee, at0, [], 0)) := Lib.hid (by
            have h := HST2.out
            rw [if_pos he] at h
            have h1 := congrArg Prod.fst h
            dsimp only at h1
            rw [HXL.out, ← h1, if_pos he])
          clear he HST2 HXL
          go_wp2
          refine bodyPost_ret (v := .tuple #[.agg #[.int .i64 0, .int .i64 0, .float .f64 0, .string ⟨#[]⟩, .slice none 0 0], .int .i64 0, .int .i64 ee]) (by simp [results, Try.results95, go_sem, g0, g1, g2, g3, g4, hlt0]) rfl ⟨none, 0, 0, by rw [HX.out]; rfl, by rw [HX.out]; rfl, by rw [HX.out]; exact AOwn.nil _ _, ?_⟩
          exact Below.alloc (((((HB1.out.setCell (Nat.le_refl _) _).setCell (Nat.le_refl _) _).setCell (Nat.le_refl _) _).setCell (Nat.le_refl _) _).setCell (Nat.le_refl _) _) (by simp; omega) _
    · obtain ⟨⟨g0, f0⟩, ⟨g1, f1⟩, ⟨g2, f2⟩, ⟨g3, f3⟩, ⟨g4, f4⟩⟩ : _ ∧ _ ∧ _ ∧ _ ∧ _ := ⟨hk0.at 0, hk0.at 1, hk0.at 2, hk0.at 3, hk0.at 4⟩
      simp only [List.getElem?_toArray, List.getElem?_cons_zero, List.getElem?_cons_succ] at g0 g1 g2 g3 g4
      have HX : Hid (xl = (10, at0, [], 0)) := Lib.hid (by
        have h := HRD.out
        rw [List.drop_of_length_le (by have := HN.out; omega)] at h
        obtain ⟨f, rfl⟩ : ∃ f, fuel = f + 1 := ⟨fuel - 1, by have := HF0.out; omega⟩
        have h2 : re = 10 := (congrArg Prod.fst h).symm
        rw [HXL.out, h2, if_pos (by decide)])
      have hue : ((u : Int) == (n : Int)) = true := by rw [beq_iff_eq]; omega
      clear hk0 hk1
      go_wp2
      refine bodyPost_ret (v := .tuple #[.agg #[.int .i64 0, .int .i64 0, .float .f64 0, .string ⟨#[]⟩, .slice none 0 0], .int .i64 0, .int .i64 10]) (by simp [results, Try.results95, go_sem, g0, g1, g2, g3, g4]) rfl ⟨none, 0, 0, by rw [HX.out]; rfl, by rw [HX.out]; rfl, by rw [HX.out]; exact AOwn.nil _ _, ?_⟩
      exact (((((HB.out.setCell (Nat.le_refl _) _).setCell (Nat.le_refl _) _).setCell (Nat.le_refl _) _).setCell (Nat.le_refl _) _).setCell (Nat.le_refl _) _)

theorem rdV_nil : rdV [] = ((rdAt []).1, (rdAt []).2.1, [], (rdAt []).2.2) := rfl
theorem rdV_list (r : List UInt8) : rdV (64 :: r) = rdLV r := by rw [rdV_cons, if_pos rfl]; rfl

set_option maxHeartbeats 4000000 in
theorem keysRead_any {w : World} {p : Option Addr} {l : List UInt8} (hl : Bs w p l) (n c : Nat) (hn : n = l.length) (hnc : n ≤ c) (hc : c ≤ 9223372036854775807) (hlen : l.length ≤ 100000) :
    Calls Try.prog 85 #[.slice p n c] w (RVPost w (rdV l)) := by
  have hst := store_flt
  obtain ⟨W, hW⟩ : ∃ W, W = w.alloc (.cells #[.int .i64 0, .int .i64 0, .float .f64 0, .string ⟨#[]⟩, .slice none 0 0] 46) := ⟨_, rfl⟩
  have HWB : Hid (∀ w', Below W.heap.size W w' → Below w.heap.size w w') := Lib.hid fun w' h => by rw [hW] at h; exact box_below h
  have HWs : Hid (w.heap.size < W.heap.size) := Lib.hid (by rw [hW]; simp)
  have HK : Hid (∀ w', Below W.heap.size W w' → Blk w' w.heap.size #[.int .i64 0, .int .i64 0, .float .f64 0, .string ⟨#[]⟩, .slice none 0 0]) := Lib.hid fun w' h => by
    have hb0 : Blk W w.heap.size #[.int .i64 0, .int .i64 0, .float .f64 0, .string ⟨#[]⟩, .slice none 0 0] := by rw [hW]; exact Blk.new w _ rfl
    exact hb0.below h hb0.lt
  have HA : Hid (∀ w', Below W.heap.size W w' → Calls Try.prog 96 #[.slice p n c] w' (RAPost w' (rdAt l))) := Lib.hid fun w' h => readAtomK_any (hl.below (HWB.out _ h)) n c hn hnc hc hlen
  cases l with
  | nil =>
    have hn' : n = 0 := hn
    subst hn'
    clear hl hn hlen hnc
    obtain ⟨ee, ⟨k0, n0, x0, s0⟩, kk, hxx⟩ : ∃ ee a uu, rdAt [] = (ee, a, uu) := ⟨_, _, _, rfl⟩
    rw [hxx] at HA
    have HX : Hid (rdV [] = (ee, ⟨k0, n0, x0, s0⟩, [], kk)) := Lib.hid (by rw [rdV_nil, hxx])
    clear hxx
    go_enter Try.func85, Try.ntmps85
    go_wp2_with fail
    rw [← hW]
    replace hW := Lib.hid hW
    refine (HA.out _ (Below.refl _ _)).mono ?_
    rintro e w1 ⟨rfl, hb1⟩
    have HB1 := Lib.hid (HWB.out _ hb1)
    have HK1 := Lib.hid (HK.out _ hb1)
    have hlt0 : w.heap.size < w1.heap.size := HK1.out.lt
    obtain ⟨⟨g0, f0⟩, ⟨g1, f1⟩, ⟨g2, f2⟩, ⟨g3, f3⟩, ⟨g4, f4⟩⟩ : _ ∧ _ ∧ _ ∧ _ ∧ _ := ⟨HK1.out.at 0, HK1.out.at 1, HK1.out.at 2, HK1.out.at 3, HK1.out.at 4⟩
    simp only [List.getElem?_toArray, List.getElem?_cons_zero, List.getElem?_cons_succ] at g0 g1 g2 g3 g4
    clear hb1 HA HK HWB 
    dsimp only [At.cell]
    go_wp2
    refine bodyPost_ret (v := .tuple #[.agg #[.int .i64 k0, .int .i64 n0, .float .f64 x0, .string s0, .slice none 0 0], .int .i64 (kk : Nat), .int .i64 ee]) (by simp [results, Try.results85, go_sem, g0, g1, g2, g3, g4, hlt0]) rfl ⟨none, 0, 0, by rw [HX.out], by rw [HX.out]; rfl, by rw [HX.out]; exact AOwn.nil _ _, ?_⟩
    exact Below.alloc (((((HB1.out.setCell (Nat.le_refl _) _).setCell (Nat.le_refl _) _).setCell (Nat.le_refl _) _).setCell (Nat.le_refl _) _).setCell (Nat.le_refl _) _) (by simp; omega) _
  | cons x r =>
    obtain ⟨b, o, rfl, hcell⟩ := hl (by simp)
    have hx := hcell 0 x rfl
    rw [Nat.add_zero] at hx
    have hb := World.block_lt_of_cell? _ _ hx
    simp only at hb
    have hn1 : (0 : Int) < (n : Int) := by rw [hn, List.length_cons]; omega
    have h64 := u8_eq (c := x) (d := 64) (n := 64) rfl
    by_cases e64 : x = 64
    · rw [decide_eq_true e64] at h64
      have HX : Hid (rdV (x :: r) = rdLV r) := Lib.hid (by rw [e64]; exact rdV_list r)
      have HLI : Hid (Calls Try.prog 95 #[.slice (some ⟨b, o, none⟩) n c] W (RVPost W (rdLV r))) := Lib.hid (readListK_any (l := x :: r) (hl.below (HWB.out _ (Below.refl _ _))) n c hn (by omega) hnc hc hlen)
      obtain ⟨ee, ⟨k0, n0, x0, s0⟩, lv, kk, hxx⟩ : ∃ ee a lv uu, rdLV r = (ee, a, lv, uu) := ⟨_, _, _, _, rfl⟩
      rw [hxx] at HLI HX
      clear hl hcell hn hlen e64 hxx HA
      go_enter Try.func85, Try.ntmps85
      go_wp2_with fail
      rw [← hW]
      replace hW := Lib.hid hW
      refine HLI.out.mono ?_
      rintro e w1 ⟨p1, m1, c1, rfl, hm1, has1, hb1⟩
      have HB1 := Lib.hid (HWB.out _ hb1)
      have HK1 := Lib.hid (HK.out _ hb1)
      have HM1 := Lib.hid hm1
      have HAS := Lib.hid has1
      have hlt0 : w.heap.size < w1.heap.size := HK1.out.lt
      obtain ⟨⟨g0, f0⟩, ⟨g1, f1⟩, ⟨g2, f2⟩, ⟨g3, f3⟩, ⟨g4, f4⟩⟩ : _ ∧ _ ∧ _ ∧ _ ∧ _ := ⟨HK1.out.at 0, HK1.out.at 1, HK1.out.at 2, HK1.out.at 3, HK1.out.at 4⟩
      simp only [List.getElem?_toArray, List.getElem?_cons_zero, List.getElem?_cons_succ] at g0 g1 g2 g3 g4
      clear hb1 HLI HK HWB hm1 has1 hx hb
      dsimp only
      go_wp2
      refine bodyPost_ret (v := .tuple #[.agg #[.int .i64 k0, .int .i64 n0, .float .f64 x0, .string s0, .slice p1 m1 c1], .int .i64 (kk : Nat), .int .i64 ee]) (by simp [results, Try.results85, go_sem, g0, g1, g2, g3, g4]) rfl ⟨p1, m1, c1, by rw [HX.out], by rw [HX.out]; exact HM1.out, by rw [HX.out]; exact (((((HAS.out.far (p := ⟨w.heap.size, 0, none⟩) HWs.out _).far (p := ⟨w.heap.size, 1, none⟩) HWs.out _).far (p := ⟨w.heap.size, 2, none⟩) HWs.out _).far (p := ⟨w.heap.size, 3, none⟩) HWs.out _).far (p := ⟨w.heap.size, 4, none⟩) HWs.out _).le (Nat.le_of_lt HWs.out), ?_⟩
      exact (((((HB1.out.setCell (Nat.le_refl _) _).setCell (Nat.le_refl _) _).setCell (Nat.le_refl _) _).setCell (Nat.le_refl _) _).setCell (Nat.le_refl _) _)
    · rw [decide_eq_false e64] at h64
      have HX1 : Hid (rdV (x :: r) = ((rdAt (x :: r)).1, (rdAt (x :: r)).2.1, [], (rdAt (x :: r)).2.2)) := Lib.hid (by rw [rdV_cons, if_neg e64])
      clear hl hcell hn hlen e64
      obtain ⟨ee, ⟨k0, n0, x0, s0⟩, kk, hxx⟩ : ∃ ee a uu, rdAt (x :: r) = (ee, a, uu) := ⟨_, _, _, rfl⟩
      rw [hxx] at HA
      have HX : Hid (rdV (x :: r) = (ee, ⟨k0, n0, x0, s0⟩, [], kk)) := Lib.hid (by rw [HX1.out, hxx])
      clear hxx
      go_enter Try.func85, Try.ntmps85
      go_wp2_with fail
      rw [← hW]
      replace hW := Lib.hid hW
      refine (HA.out _ (Below.refl _ _)).mono ?_
      rintro e w1 ⟨rfl, hb1⟩
      have HB1 := Lib.hid (HWB.out _ hb1)
      have HK1 := Lib.hid (HK.out _ hb1)
      have hlt0 : w.heap.size < w1.heap.size := HK1.out.lt
      obtain ⟨⟨g0, f0⟩, ⟨g1, f1⟩, ⟨g2, f2⟩, ⟨g3, f3⟩, ⟨g4, f4⟩⟩ : _ ∧ _ ∧ _ ∧ _ ∧ _ := ⟨HK1.out.at 0, HK1.out.at 1, HK1.out.at 2, HK1.out.at 3, HK1.out.at 4⟩
      simp only [List.getElem?_toArray, List.getElem?_cons_zero, List.getElem?_cons_succ] at g0 g1 g2 g3 g4
      clear hb1 HA HK HWB hx hb HX1
      dsimp only [At.cell]
      go_wp2
      refine bodyPost_ret (v := .tuple #[.agg #[.int .i64 k0, .int .i64 n0, .float .f64 x0, .string s0, .slice none 0 0], .int .i64 (kk : Nat), .int .i64 ee]) (by simp [results, Try.results85, go_sem, g0, g1, g2, g3, g4, hlt0]) rfl ⟨none, 0, 0, by rw [HX.out], by rw [HX.out]; rfl, by rw [HX.out]; exact AOwn.nil _ _, ?_⟩
      exact Below.alloc (((((HB1.out.setCell (Nat.le_refl _) _).setCell (Nat.le_refl _) _).setCell (Nat.le_refl _) _).setCell (Nat.le_refl _) _).setCell (Nat.le_refl _) _) (by simp; omega) _

end Go.Proofs.Ytekaedafhiddeaa
