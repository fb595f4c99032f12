/-
  The reader of records: next at values, value, props: contracts for the walks.
-/
import Derived.Test.YtekaedafhiddeaaRdC
set_option linter.unusedVariables false
set_option maxRecDepth 100000
namespace Go.Proofs.Ytekaedafhiddeaa
open Go.RowKit

theorem gb_then {w wA wB : World} {g : Nat} (h : w.grownBy wA (some g)) (hb : Below w.heap.size wA wB) : w.grownBy wB (some g) :=
  ⟨hb.os.trans h.os, hb.tape.trans h.tape, hb.output.trans h.output, Nat.le_trans h.size hb.size, fun k hk hne => (hb.block k hk).trans (h.block k hk hne)⟩

/-- A value that is read. -/
def NvPost (w : World) (g : Nat) (x : At × List At) (s : RS) (e : Ending) (w' : World) : Prop :=
  ∃ q m c, e = .returned (.agg #[.int .i64 x.1.k, .int .i64 x.1.n, .float .f64 x.1.f, .string x.1.s, .slice q m c]) ∧ AOwn w' w.heap.size (.slice q m c) x.2 ∧ RdC w' g s ∧ w.grownBy w' (some g)

set_option maxHeartbeats 2400000 in
theorem nextV_any {w : World} {g : Nat} {s : RS} (h : RdC w g s) (hlen : s.1.length ≤ 100000) :
    Calls Try.prog 84 #[.pointer (some ⟨g, 0, none⟩), .func (.func 85) #[] #[]] w (NvPost w g (valS s).1 (valS s).2) := by
  have hst := store_flt
  have eg : ∀ args (w : World), (callFunc 85 args).run Try.prog w = .ok (.enter 85 args) w := fun _ _ => rfl
  obtain ⟨l, b⟩ := s
  have hg := h.lt
  obtain ⟨W, hW⟩ : ∃ W, W = (w.alloc (.cells #[.int .i64 0, .int .i64 0, .float .f64 0, .string ⟨#[]⟩, .slice none 0 0] 46)).alloc (.cells #[.int .i64 0, .int .i64 0, .float .f64 0, .string ⟨#[]⟩, .slice none 0 0] 46) := ⟨_, rfl⟩
  have HWB : Hid (Below w.heap.size w W) := Lib.hid (by rw [hW]; exact box2_below (Below.refl _ _))
  have HWs : Hid (W.heap.size = w.heap.size + 2) := Lib.hid (by rw [hW]; simp)
  have HK0 : Hid (∀ w', Below W.heap.size W w' → Blk w' w.heap.size #[.int .i64 0, .int .i64 0, .float .f64 0, .string ⟨#[]⟩, .slice none 0 0] ∧ Blk w' (w.heap.size + 1) #[.int .i64 0, .int .i64 0, .float .f64 0, .string ⟨#[]⟩, .slice none 0 0]) := by
    refine Lib.hid fun w' hb => ?_
    rw [hW] at hb
    exact ⟨((Blk.new w _ rfl).alloc _).below hb (by simp; omega), (Blk.new _ _ (by simp)).below hb (by simp)⟩
  have HRW := Lib.hid h
  have hgW : g < W.heap.size := by have := HWs.out; omega
  obtain ⟨p, n, c, hblk0, hbs0, hn, hnc, hc, hp, hlo⟩ := h
  obtain ⟨⟨c0, f0⟩, c1, f1⟩ := rd_cells hblk0
  have hblk : W.heap[g]? = some (.cells #[.slice p n c, .bool b] 68 (0, 0)) := by rw [HWB.out.block g hg]; exact hblk0
  have hbs : Bs W p l := hbs0.low hlo (HWB.out.mono (by omega))
  dsimp only at c1 hbs hn hlen hblk
  clear hblk0 hbs0
  cases b
  · have HRT : Hid (Calls Try.prog 85 #[.slice p n c] W (RVPost W (rdV l))) := Lib.hid (keysRead_any hbs n c hn hnc hc hlen)
    obtain ⟨er, a, ll, u, hr⟩ : ∃ er a ll u, rdV l = (er, a, ll, u) := ⟨_, _, _, _, rfl⟩
    have hx : valS (l, false) = if er = 0 then ((a, ll), (l.drop u, false)) else ((at0, []), (l, true)) := by
      unfold valS
      rw [if_neg (by simp)]
      dsimp only
      rw [hr]
    have hsound : er = 0 → u ≤ n := fun he => by
      have h := rdV_ok l (by rw [hr]; exact he)
      rw [hr] at h
      rw [hn]
      exact h.2.2.2.2.1
    have hno : er ≠ 0 → a = at0 ∧ ll = [] := fun he => by
      have h := rdV_no l (by rw [hr]; exact he)
      rw [hr] at h
      exact ⟨h.1, h.2.1⟩
    rw [hr] at HRT
    have HX := Lib.hid hx
    have HBLK := Lib.hid hblk
    have HBS := Lib.hid hbs
    have HN := Lib.hid hn
    have HLO := Lib.hid hlo
    have HP := Lib.hid hp
    clear hx hblk hbs hn hlo hp hr hlen HRW
    generalize valS (l, false) = X at *
    by_cases he : er = 0
    · have hu := hsound he
      have HXX : Hid (X = ((a, ll), (l.drop u, false))) := Lib.hid (by rw [HX.out, if_pos he])
      obtain ⟨q, hq, hq0, hqb⟩ := from_run (p := p) (l := l) (c := c) (u := u) HN.out hnc hu HP.out
      have HQ0 := Lib.hid hq0
      have HQB := Lib.hid hqb
      have HQL : Hid (∀ a, q = some a → a.block < g) := Lib.hid (by
        intro a ha
        rw [← hq] at ha
        split at ha
        · exact HLO.out a ha
        · cases p with
          | none => cases ha
          | some b =>
            simp only [Option.map_some, Option.some.injEq] at ha
            rw [← ha]
            have e : (b.add u).block = b.block := by unfold Addr.add; split <;> rfl
            rw [e]
            exact HLO.out b rfl)
      clear hsound hno hq0 hqb HX
      subst he
      obtain ⟨k0, n0, x0, s0⟩ := a
      go_enter Try.func84, Try.ntmps84
      go_wp2_with fail
      rw [← hW]
      replace hW := Lib.hid hW
      refine HRT.out.mono ?_
      rintro e w1 ⟨p1, m1, d1, rfl, hm1, ho1, hb1⟩
      have HB1 := Lib.hid hb1
      have HO1 := Lib.hid ho1
      have HBLK1 : Hid (w1.heap[g]? = some (.cells #[.slice p n c, .bool false] 68 (0, 0))) := Lib.hid (by rw [hb1.block g hgW]; exact HBLK.out)
      obtain ⟨⟨e0, h0⟩, e1, h1⟩ := rd_cells HBLK1.out
      have hg1 : g < w1.heap.size := by have := hb1.size; omega
      obtain ⟨⟨y0, g0⟩, ⟨y1, g1⟩, ⟨y2, g2⟩, ⟨y3, g3⟩, ⟨y4, g4⟩⟩ : _ ∧ _ ∧ _ ∧ _ ∧ _ := ⟨(HK0.out _ hb1).1.at 0, (HK0.out _ hb1).1.at 1, (HK0.out _ hb1).1.at 2, (HK0.out _ hb1).1.at 3, (HK0.out _ hb1).1.at 4⟩
      simp only [List.getElem?_toArray, List.getElem?_cons_zero, List.getElem?_cons_succ] at y0 y1 y2 y3 y4
      have hr1 : w.heap.size + 1 < w1.heap.size := by have := HWs.out; have := hb1.size; omega
      have hgr : g ≠ w.heap.size := by omega
      have hgr' : w.heap.size ≠ g := by omega
      have hr0 : w.heap.size < w1.heap.size := by omega
      clear hm1 ho1 hb1 c0 f0 c1 f1
      dsimp only
      go_wp2
      refine bodyPost_ret (v := .agg #[.int .i64 k0, .int .i64 n0, .float .f64 x0, .string s0, .slice p1 m1 d1]) (by simp [results, Try.results84, go_sem, y0, y1, y2, y3, y4, hr0]) rfl ?_
      rw [HXX.out]
      have hA : RdC (w1.setCell ⟨g, 0, none⟩ (.slice q (n - u) (c - u))) g (l.drop u, false) := ⟨q, n - u, c - u, rd_set0 HBLK1.out, HQB.out _ (HBS.out.low HLO.out (Below.setCell (B := g) (p := ⟨g, 0, none⟩) (HB1.out.mono (by omega)) (Nat.le_refl _) _)), by rw [List.length_drop, HN.out], by omega, by omega, HQ0.out, HQL.out⟩
      have hF2 := fun v1 v2 v3 v4 v5 o => (((((((Below.refl w.heap.size (w1.setCell ⟨g, 0, none⟩ (.slice q (n - u) (c - u)))).setCell (p := ⟨w.heap.size, 0, none⟩) (Nat.le_refl _) v1).setCell (p := ⟨w.heap.size, 1, none⟩) (Nat.le_refl _) v2).setCell (p := ⟨w.heap.size, 2, none⟩) (Nat.le_refl _) v3).setCell (p := ⟨w.heap.size, 3, none⟩) (Nat.le_refl _) v4).setCell (p := ⟨w.heap.size, 4, none⟩) (Nat.le_refl _) v5).alloc (by simp; omega) o)
      have hB1 : Below w.heap.size w w1 := HWB.out.trans (HB1.out.mono HWB.out.size)
      have hgo : g < W.heap.size := hgW
      have hwo : w.heap.size < W.heap.size := by have := HWs.out; omega
      refine ⟨p1, m1, d1, rfl, ?_, hA.below (hF2 _ _ _ _ _ _) hg, gb_then (gb_set (gb_below hB1) 0 _) (hF2 _ _ _ _ _ _)⟩
      exact (AOwn.below ((((((HO1.out.far (p := ⟨g, 0, none⟩) hgo _).far (p := ⟨w.heap.size, 0, none⟩) hwo _).far (p := ⟨w.heap.size, 1, none⟩) hwo _).far (p := ⟨w.heap.size, 2, none⟩) hwo _).far (p := ⟨w.heap.size, 3, none⟩) hwo _).far (p := ⟨w.heap.size, 4, none⟩) hwo _) ((Below.refl _ _).alloc (Nat.le_refl _) _)).le (by omega)
    · have HXX : Hid (X = ((at0, []), (l, true))) := Lib.hid (by rw [HX.out, if_neg he])
      have hen : (er != 0) = true := by simpa using he
      obtain ⟨ha, hl0⟩ := hno he
      subst ha hl0
      clear hsound hno he HX
      go_enter Try.func84, Try.ntmps84
      go_wp2_with fail
      rw [← hW]
      replace hW := Lib.hid hW
      refine HRT.out.mono ?_
      rintro e w1 ⟨p1, m1, d1, rfl, hm1, ho1, hb1⟩
      have HB1 := Lib.hid hb1
      have HBLK1 : Hid (w1.heap[g]? = some (.cells #[.slice p n c, .bool false] 68 (0, 0))) := Lib.hid (by rw [hb1.block g hgW]; exact HBLK.out)
      obtain ⟨⟨e0, h0⟩, e1, h1⟩ := rd_cells HBLK1.out
      have hg1 : g < w1.heap.size := by have := hb1.size; omega
      obtain ⟨⟨y0, g0⟩, ⟨y1, g1⟩, ⟨y2, g2⟩, ⟨y3, g3⟩, ⟨y4, g4⟩⟩ : _ ∧ _ ∧ _ ∧ _ ∧ _ := ⟨(HK0.out _ hb1).1.at 0, (HK0.out _ hb1).1.at 1, (HK0.out _ hb1).1.at 2, (HK0.out _ hb1).1.at 3, (HK0.out _ hb1).1.at 4⟩
      obtain ⟨⟨z0, i0⟩, ⟨z1, i1⟩, ⟨z2, i2⟩, ⟨z3, i3⟩, ⟨z4, i4⟩⟩ : _ ∧ _ ∧ _ ∧ _ ∧ _ := ⟨(HK0.out _ hb1).2.at 0, (HK0.out _ hb1).2.at 1, (HK0.out _ hb1).2.at 2, (HK0.out _ hb1).2.at 3, (HK0.out _ hb1).2.at 4⟩
      simp only [List.getElem?_toArray, List.getElem?_cons_zero, List.getElem?_cons_succ] at y0 y1 y2 y3 y4 z0 z1 z2 z3 z4
      have hr1 : w.heap.size + 1 < w1.heap.size := by have := HWs.out; have := hb1.size; omega
      have hgr : g ≠ w.heap.size := by omega
      have hgr' : w.heap.size ≠ g := by omega
      have hgs' : w.heap.size + 1 ≠ g := by omega
      have hr0 : w.heap.size < w1.heap.size := by omega
      clear hm1 ho1 hb1 c0 f0 c1 f1
      dsimp only
      go_wp2
      refine bodyPost_ret (v := .agg #[.int .i64 0, .int .i64 0, .float .f64 0, .string ⟨#[]⟩, .slice none 0 0]) (by simp [results, Try.results84, go_sem, y0, y1, y2, y3, y4, hr0]) rfl ?_
      rw [HXX.out]
      have hA : RdC (w1.setCell ⟨g, 1, none⟩ (.bool true)) g (l, true) := ⟨p, n, c, rd_set1 HBLK1.out, HBS.out.low HLO.out (Below.setCell (B := g) (p := ⟨g, 1, none⟩) (HB1.out.mono (by omega)) (Nat.le_refl _) _), HN.out, hnc, hc, HP.out, HLO.out⟩
      have hF2 := fun v1 v2 v3 v4 v5 o => (((((((Below.refl w.heap.size (w1.setCell ⟨g, 1, none⟩ (.bool true))).setCell (p := ⟨w.heap.size, 0, none⟩) (Nat.le_refl _) v1).setCell (p := ⟨w.heap.size, 1, none⟩) (Nat.le_refl _) v2).setCell (p := ⟨w.heap.size, 2, none⟩) (Nat.le_refl _) v3).setCell (p := ⟨w.heap.size, 3, none⟩) (Nat.le_refl _) v4).setCell (p := ⟨w.heap.size, 4, none⟩) (Nat.le_refl _) v5).alloc (by simp; omega) o)
      have hB1 : Below w.heap.size w w1 := HWB.out.trans (HB1.out.mono HWB.out.size)
      exact ⟨none, 0, 0, rfl, AOwn.nil _ _, hA.below (hF2 _ _ _ _ _ _) hg, gb_then (gb_set (gb_below hB1) 1 _) (hF2 _ _ _ _ _ _)⟩
  · have hx : valS (l, true) = ((at0, []), (l, true)) := by unfold valS; rw [if_pos rfl]
    have HX := Lib.hid hx
    obtain ⟨⟨y0, g0⟩, ⟨y1, g1⟩, ⟨y2, g2⟩, ⟨y3, g3⟩, ⟨y4, g4⟩⟩ : _ ∧ _ ∧ _ ∧ _ ∧ _ := ⟨(HK0.out _ (Below.refl _ _)).1.at 0, (HK0.out _ (Below.refl _ _)).1.at 1, (HK0.out _ (Below.refl _ _)).1.at 2, (HK0.out _ (Below.refl _ _)).1.at 3, (HK0.out _ (Below.refl _ _)).1.at 4⟩
    clear hx hblk hbs hn hlo hp hlen
    generalize valS (l, true) = X at *
    go_enter Try.func84, Try.ntmps84
    go_wp2
    rw [← hW]
    simp only [List.getElem?_toArray, List.getElem?_cons_zero, List.getElem?_cons_succ] at y0 y1 y2 y3 y4
    refine bodyPost_ret (v := .agg #[.int .i64 0, .int .i64 0, .float .f64 0, .string ⟨#[]⟩, .slice none 0 0]) (by simp [results, Try.results84, go_sem, y0, y1, y2, y3, y4]) rfl ?_
    rw [HX.out]
    exact ⟨none, 0, 0, rfl, AOwn.nil _ _, HRW.out.below HWB.out hg, gb_below HWB.out⟩

set_option maxHeartbeats 800000 in
theorem valueR_any {w : World} {g : Nat} {s : RS} (h : RdC w g s) (hlen : s.1.length ≤ 100000) :
    Calls Try.prog 60 #[.pointer (some ⟨g, 0, none⟩)] w (NvPost w g (valS s).1 (valS s).2) := by
  have hst := store_flt
  have hg := h.lt
  obtain ⟨W, hW⟩ : ∃ r, r = w.alloc (.cells #[.int .i64 0, .int .i64 0, .float .f64 0, .string ⟨#[]⟩, .slice none 0 0] 46) := ⟨_, rfl⟩
  have HWB : Hid (Below w.heap.size w W) := Lib.hid (by rw [hW]; exact (Below.refl _ _).alloc (Nat.le_refl _) _)
  have HWs : Hid (W.heap.size = w.heap.size + 1) := Lib.hid (by rw [hW]; simp)
  have HK : Hid (Blk W w.heap.size #[.int .i64 0, .int .i64 0, .float .f64 0, .string ⟨#[]⟩, .slice none 0 0]) := Lib.hid (by rw [hW]; exact Blk.new w _ rfl)
  have H := Lib.hid (nextV_any (h.below HWB.out hg) hlen)
  clear h hlen
  generalize valS s = X at *
  obtain ⟨⟨⟨k0, n0, x0, s0⟩, ll⟩, s'⟩ := X
  go_enter Try.func60, Try.ntmps60
  go_wp2_with fail
  rw [← hW]
  replace hW := Lib.hid hW
  refine H.out.mono ?_
  rintro e w1 ⟨q1, m1, d1, rfl, ho1, hr1, hgb⟩
  have HO := Lib.hid ho1
  have HR := Lib.hid hr1
  have HG := Lib.hid hgb
  have hK1 : Blk w1 w.heap.size #[.int .i64 0, .int .i64 0, .float .f64 0, .string ⟨#[]⟩, .slice none 0 0] := by
    unfold Blk
    rw [hgb.block w.heap.size (by have := HWs.out; omega) (fun e => by have := Option.some.inj e; omega)]
    exact HK.out
  obtain ⟨⟨y0, g0⟩, ⟨y1, g1⟩, ⟨y2, g2⟩, ⟨y3, g3⟩, ⟨y4, g4⟩⟩ : _ ∧ _ ∧ _ ∧ _ ∧ _ := ⟨hK1.at 0, hK1.at 1, hK1.at 2, hK1.at 3, hK1.at 4⟩
  simp only [List.getElem?_toArray, List.getElem?_cons_zero, List.getElem?_cons_succ] at y0 y1 y2 y3 y4
  have hr0 : w.heap.size < w1.heap.size := hK1.lt
  clear ho1 hr1 hgb hK1
  dsimp only
  go_wp2
  refine bodyPost_ret (v := .agg #[.int .i64 k0, .int .i64 n0, .float .f64 x0, .string s0, .slice q1 m1 d1]) (by simp [results, Try.results60, go_sem, y0, y1, y2, y3, y4]) rfl ?_
  have hF2 := fun v1 v2 v3 v4 v5 => ((((((Below.refl w.heap.size w1).setCell (p := ⟨w.heap.size, 0, none⟩) (Nat.le_refl _) v1).setCell (p := ⟨w.heap.size, 1, none⟩) (Nat.le_refl _) v2).setCell (p := ⟨w.heap.size, 2, none⟩) (Nat.le_refl _) v3).setCell (p := ⟨w.heap.size, 3, none⟩) (Nat.le_refl _) v4).setCell (p := ⟨w.heap.size, 4, none⟩) (Nat.le_refl _) v5)
  have hwo : w.heap.size < W.heap.size := by have := HWs.out; omega
  refine ⟨q1, m1, d1, rfl, ?_, HR.out.below (hF2 _ _ _ _ _) hg, gb_then (gb_trans (gb_below HWB.out) HG.out) (hF2 _ _ _ _ _)⟩
  exact (((((HO.out.far (p := ⟨w.heap.size, 0, none⟩) hwo _).far (p := ⟨w.heap.size, 1, none⟩) hwo _).far (p := ⟨w.heap.size, 2, none⟩) hwo _).far (p := ⟨w.heap.size, 3, none⟩) hwo _).far (p := ⟨w.heap.size, 4, none⟩) hwo _).le (by omega)

/-- What is read is in its bounds; what is left is no longer than what there was. -/
theorem txtS_len (s : RS) : (txtS s).1.size ≤ s.1.length ∧ (txtS s).2.1.length ≤ s.1.length := by
  unfold txtS
  split
  · exact ⟨by show (0 : Nat) ≤ _; omega, Nat.le_refl _⟩
  · split
    · rename_i h
      rcases rdT_sound s.1 with ⟨g, _⟩ | ⟨_, _, _, g⟩
      · exact absurd h g
      · refine ⟨?_, by dsimp only; rw [List.length_drop]; omega⟩
        have h1 := congrArg List.length g
        rw [txt_length, List.length_take] at h1
        have h2 := esc_ge (rdT s.1).2.1
        show (rdT s.1).2.1.length ≤ _
        omega
    · exact ⟨by show (0 : Nat) ≤ _; omega, Nat.le_refl _⟩
theorem valS_len (s : RS) : (valS s).1.1.Ok ∧ (∀ y ∈ (valS s).1.2, y.Ok) ∧ (valS s).2.1.length ≤ s.1.length := by
  have hok : at0.Ok := ⟨by show -9223372036854775808 ≤ (0 : Int); omega, by show (0 : Int) ≤ _; omega, by show -9223372036854775808 ≤ (0 : Int); omega, by show (0 : Int) ≤ _; omega, by show (0 : Nat) < _; omega, by show (0 : Nat) ≤ _; omega⟩
  unfold valS
  split
  · exact ⟨hok, by simp, Nat.le_refl _⟩
  · split
    · rename_i h
      obtain ⟨g1, g2, _⟩ := rdV_ok s.1 h
      exact ⟨g1, g2, by dsimp only; rw [List.length_drop]; omega⟩
    · exact ⟨hok, by simp, Nat.le_refl _⟩
theorem intS_len (s : RS) : (-9223372036854775808 ≤ (intS s).1 ∧ (intS s).1 ≤ 9223372036854775807) ∧ (intS s).2.1.length ≤ s.1.length := by
  unfold intS
  split
  · exact ⟨by dsimp only; omega, Nat.le_refl _⟩
  · by_cases h8 : s.1.length < 8
    · have e : rdJ s.1 = (10, 0, 0) := by unfold rdJ; rw [if_pos h8]
      rw [e, if_neg (by decide)]
      exact ⟨by dsimp only; omega, Nat.le_refl _⟩
    · have e : rdJ s.1 = (0, outKey (num (s.1.take 8)), 8) := by unfold rdJ; rw [if_neg h8]
      rw [e, if_pos rfl]
      exact ⟨outKey_bd (num_lt8 (by rw [List.length_take]; omega)), by dsimp only; rw [List.length_drop]; omega⟩
theorem cntS_len (most : Nat) (s : RS) : (cntS most s).1 ≤ most ∧ (cntS most s).2.1.length ≤ s.1.length := by
  obtain ⟨l, b⟩ := s
  match l, b with
  | c :: r, false =>
    unfold cntS
    dsimp only
    split
    · rename_i h; exact ⟨h, by simp⟩
    · exact ⟨by simp, Nat.le_refl _⟩
  | [], false => exact ⟨Nat.zero_le _, Nat.le_refl _⟩
  | [], true => exact ⟨Nat.zero_le _, Nat.le_refl _⟩
  | c :: r, true => exact ⟨Nat.zero_le _, Nat.le_refl _⟩

end Go.Proofs.Ytekaedafhiddeaa
