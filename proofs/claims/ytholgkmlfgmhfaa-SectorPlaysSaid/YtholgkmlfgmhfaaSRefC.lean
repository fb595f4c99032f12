/-
  The document's disk: Crash.
-/
import Derived.Test.YtholgkmlfgmhfaaSRefF
set_option linter.unusedVariables false
set_option maxRecDepth 100000
namespace Go.Proofs.Ytholgkmlfgmhfaa
open Go.RowKit

theorem over_eq {l m : List UInt8} {n : Nat} (h : m.length = n) : m ++ l.drop n = over l m := by subst h; rfl
theorem over512 {l m : List UInt8} {n : Nat} (hl : l.length = 512) (hm : m.length = n) (hn : n ≤ 512) : 512 = (over l m).length := by rw [over_length (by omega), hl]

theorem bs_none {w w' : World} {l : List UInt8} {q : Option Addr} (h : Bs w none (l.drop 512)) (hl : l.length = 512) : Bs w' q (l.drop 512) := by
  rw [List.drop_eq_nil_of_le (by omega)]
  exact Bs.nil _ _

def RCrashPost (w : World) (S : SD) (e : Ending) (w' : World) : Prop := ∃ p, e = .returned (.pointer (some ⟨p, 0, none⟩)) ∧ RefAt w' w.heap.size p S ∧ Below w.heap.size w w'

/-- append([][]byte{}, lists...) -/
theorem app_lists {w : World} {ops : Array Oper} {rest : List Oper} {o : Oper} {a : Act} {Q : Exit → Act → World → Prop} (hgd : o.guard = none) (s x : Operand)
    (ho : o.op = .call { callee := .builtin .append, args := #[s, x], argTypes := #[39, 39] })
    {B : Nat} {v : Value} (hs : a.eval s = v) (hown : w.ownsRow B 30 1 v 0 []) {ad : Addr} {m c : Nat} {Ls : List Bl} (hx : a.eval x = .slice (some ad) m c) (hm : m = Ls.length) (hc : ∀ j u, (Ls.map blv)[j]? = some u → w.cell? (ad.add j) = some u) (hm4 : m ≤ 4096) (hB : B ≤ w.heap.size)
    (h : ∀ v' w', w'.ownsRow B 30 1 v' m (Ls.map blv) → Below B w w' → wpList Try.prog ops Q rest (a.put o.dst v') w') : wpList Try.prog ops Q (o :: rest) a w := by
  obtain ⟨i, hi, hz0, hz1, hz2⟩ := info_parts info_bytes
  refine wpList_append_own w hgd s x _ ho B 30 i (.slice none 0 0) 1 24 Try.underlying39 hi hz0 hz1 hz2 rfl (by decide) v 0 [] hs hown ad m c (Ls.map blv) hx (by rw [List.length_map]; omega) hc (fun u hu => by obtain ⟨y, _, rfl⟩ := List.mem_map.1 hu; rfl) (by simp only [maxLen]; omega) (by omega) hB ?_
  intro v' w' h1 h2 _
  rw [Nat.zero_add, List.nil_append] at h1
  exact h v' w' h1 ((Below.refl B w).grown h2 hB fun k hk => (World.ownsRow.lt hown k hk).1)

/-- The new disk, ahead of the writes that are kept. -/
theorem ref_begun {w w1 : World} {B p : Nat} {lv wv : Value} {Ls : List Bl} {ms : List (Int × Bl)} {S : SD} (h : RefIs w B p lv wv Ls ms S) {v : Value} (hb : Below w.heap.size w w1) (hv : w1.ownsRow w.heap.size 30 1 v Ls.length (Ls.map blv)) :
    RefIs (w1.alloc (.cells #[v, .slice none 0 0, .int .i64 (-1), .int .i64 0] 42)) w.heap.size w1.heap.size v (.slice none 0 0) Ls [] ⟨S.size, S.lasts, [], -1, 0⟩ := by
  have h' := (h.below hb).below (sbox1 w1 (.cells #[v, .slice none 0 0, .int .i64 (-1), .int .i64 0] 42))
  exact ⟨heap_alloc_new w1 _, hb.size, h.ln, World.ownsRow.alloc hv _, World.ownsRow_nil _ _ _ _, h'.lu, (by simp), rfl, h.ll, ⟨h.ok.s1, h.ok.s2, h.ok.l, (fun x hx => by cases hx), (by show (0 : Int) ≤ 0; decide), (by show (0 : Int) ≤ 0; decide)⟩⟩

set_option maxHeartbeats 6400000 in
theorem rcrash_any {w : World} {B p : Nat} {S : SD} (h : RefAt w B p S) {q : Option Addr} {kn kc : Nat} {keep : List Int} (hk : Ks w q keep) (hkn : kn = keep.length) (hkc : kn ≤ 9223372036854775807) :
    Calls Try.prog 17 #[.pointer (some ⟨p, 0, none⟩), .slice q kn kc] w (RCrashPost w (S.crash keep)) := by
  obtain ⟨lv, wv, Ls, ms, h⟩ := h
  obtain ⟨lq, ln, lc, wq, wn, wc, rfl, rfl, hm⟩ := h.mem
  have hln : ln = Ls.length := hm.lh
  have hlo := h.lo
  rw [← hln] at hlo
  have hs1 := h.ok.s1
  have hs2 := h.ln
  have hs3 := h.ok.s2
  obtain ⟨lg, cur, rfl, hlgB, hlg⟩ := row_at hlo (by omega)
  have wn63 : wn ≤ 9223372036854775807 := Nat.le_trans hm.w1 hm.w2
  have HC0 : Hid (∀ w', Below w.heap.size w w' → w'.cell? ⟨p, 0, none⟩ = some (.slice (some ⟨lg, 0, none⟩) ln lc) ∧ w'.cell? ⟨p, 1, none⟩ = some (.slice wq wn wc)) := Lib.hid fun w' hb =>
    ⟨by rw [hb.cell (p := ⟨p, 0, none⟩) (World.block_lt_of_cell? _ _ hm.c0)]; exact hm.c0, by rw [hb.cell (p := ⟨p, 1, none⟩) (World.block_lt_of_cell? _ _ hm.c1)]; exact hm.c1⟩
  have HLC : Hid (∀ w', Below w.heap.size w w' → ∀ j u, (Ls.map blv)[j]? = some u → w'.cell? ((⟨lg, 0, none⟩ : Addr).add j) = some u) := Lib.hid fun w' hb j u hj => by
    have h1 := hlo.cells (g := lg) rfl j u hj
    rw [Addr.add_lit] at h1 ⊢
    rw [hb.cell (World.block_lt_of_cell? _ _ h1)]
    exact h1
  have H := Lib.hid h
  have HM := Lib.hid hm
  have HKN := Lib.hid hkn
  have HKS := Lib.hid hk
  have HO0 : Hid ((w.alloc (.cells #[] 30)).ownsRow w.heap.size 30 1 (.slice (some ⟨w.heap.size, 0, none⟩) 0 0) 0 []) := Lib.hid ⟨rfl, .inr ⟨w.heap.size, 0, #[], rfl, Nat.le_refl _, heap_alloc_new w _, Nat.le_refl _, by simp [maxLen], rfl, rfl⟩⟩
  have HL := Lib.hid hln
  have hln4 : ln ≤ 4096 := by omega
  have hln1 : 0 < ln := by omega
  have HBG : Hid (∀ w1 v, Below w.heap.size w w1 → w1.ownsRow w.heap.size 30 1 v ln (Ls.map blv) → RefIs (w1.alloc (.cells #[v, .slice none 0 0, .int .i64 (-1), .int .i64 0] 42)) w.heap.size w1.heap.size v (.slice none 0 0) Ls [] ⟨S.size, kept S.lasts ((S.waits.zip keep).take 0), [], -1, 0⟩) := Lib.hid fun w1 v hb hv => ref_begun h hb (by rw [← hln]; exact hv)
  have a0 := HC0.out _ (sbox1 w (.cells #[] 30))
  obtain ⟨a0, _⟩ := a0
  clear h hm hk hkn hln hlo hs1 hs2 hs3 hlg
  go_enter Try.func17, Try.ntmps17
  go_wp2_with (at_builtin; refine app_lists rfl (.tmp 10) (.tmp 14) rfl rfl HO0.out rfl HL.out (HLC.out _ (sbox1 _ _)) hln4 (sbox1 w _).size ?_; intro v1 w1 ho1 hb1; obtain ⟨q1, lc', rfl, _, _, _⟩ := row_slice ho1; obtain ⟨lg', cur1, rfl, hlg', _⟩ := row_at ho1 hln1; have HB1 := Lib.hid ((sbox1 w _).trans hb1); have HR1 := Lib.hid (HBG.out _ _ ((sbox1 w _).trans hb1) ho1); have HV1 := Lib.hid ho1; clear ho1 hb1)
  have HRA : Hid (Below w.heap.size w (w1.alloc (.cells #[.slice (some ⟨lg', 0, none⟩) ln lc', .slice none 0 0, .int .i64 (-1), .int .i64 0] 42))) := Lib.hid (HB1.out.alloc HB1.out.size _)
  obtain ⟨p', hpe⟩ : ∃ p', p' = w1.heap.size := ⟨_, rfl⟩
  rw [← hpe] at HR1 ⊢
  generalize (w1.alloc (.cells #[.slice (some ⟨lg', 0, none⟩) ln lc', .slice none 0 0, .int .i64 (-1), .int .i64 0] 42)) = w2 at HR1 HRA ⊢
  clear HV1 HB1 HBG HO0 a0 hpe HLC
  go_loopw [6] (fun u wr => ∃ i : Nat, u = .int .i64 i ∧ i ≤ wn ∧ i ≤ kn ∧ ∃ Ls', RefIs wr w.heap.size p' (.slice (some ⟨lg', 0, none⟩) ln lc') (.slice none 0 0) Ls' [] ⟨S.size, kept S.lasts ((S.waits.zip keep).take i), [], -1, 0⟩ ∧ Below w.heap.size w wr) (fun u _ => wn - (intOf u).toNat)
  case atStart => exact ⟨0, rfl, by omega, by omega, Ls, HR1.out, HRA.out⟩
  case round =>
    obtain ⟨i, rfl, hiw, hik, Ls', hI, hb⟩ := hrel
    have HI := Lib.hid hI
    have HB := Lib.hid hb
    obtain ⟨a0, a1⟩ := HC0.out _ hb
    clear HR1 HRA
    by_cases hlt : i < wn ∧ i < kn
    · obtain ⟨hlt1, hlt2⟩ := hlt
      have HLT : LtN i wn := ⟨hlt1⟩
      have HLT2 : LtN i kn := ⟨hlt2⟩
      obtain ⟨y, hy⟩ : ∃ y, ms[i]? = some y := ⟨_, List.getElem?_eq_getElem (by have := HM.out.wh; omega)⟩
      obtain ⟨kx, hkx⟩ : ∃ kx, keep[i]? = some kx := ⟨_, List.getElem?_eq_getElem (by have := HKN.out; omega)⟩
      obtain ⟨wg, rfl, hcw1, hcw2⟩ := HM.out.wg i y hy
      have hwgl := World.block_lt_of_cell? _ _ hcw1
      have hc1 : wr.cell? ⟨wg, i * 2, none⟩ = some (.int .i64 y.1) := by rw [hb.cell (p := ⟨wg, i * 2, none⟩) hwgl]; exact hcw1
      have hc2 : wr.cell? ⟨wg, i * 2 + 1, none⟩ = some (.slice y.2.q y.2.l.length y.2.c) := by rw [hb.cell (p := ⟨wg, i * 2 + 1, none⟩) hwgl]; exact hcw2
      obtain ⟨kb, ko, rfl, hck⟩ := (HKS.out.below hb).at hkx
      have huy := H.out.wu y (List.mem_of_getElem? hy)
      have hyw : (⟨y.1, y.2.l⟩ : Wr) ∈ S.waits := by rw [H.out.ws]; exact List.mem_map.2 ⟨y, List.mem_of_getElem? hy, rfl⟩
      obtain ⟨_, hy0, hy1⟩ := H.out.ok.w _ hyw
      obtain ⟨K, hK⟩ : ∃ K : Nat, y.1 = (K : Int) := ⟨y.1.toNat, by have : 0 ≤ y.1 := hy0; omega⟩
      have hKs : (K : Int) < S.size := by rw [← hK]; exact hy1
      have hKl : K < Ls'.length := by have := hI.ln; have e : ({ size := S.size, lasts := kept S.lasts ((S.waits.zip keep).take i), waits := [], left := -1, ops := 0 } : SD).size = S.size := rfl; omega
      have hz : (S.waits.zip keep)[i]? = some (⟨y.1, y.2.l⟩, kx) := by
        rw [List.getElem?_zip_eq_some]
        exact ⟨by rw [H.out.ws, List.getElem?_map, hy]; rfl, hkx⟩
      have hstep : kept S.lasts ((S.waits.zip keep).take (i + 1)) = keepOne (kept S.lasts ((S.waits.zip keep).take i)) ⟨y.1, y.2.l⟩ kx := by rw [List.take_add_one, hz, Option.toList_some, kept_snoc]
      have HST := Lib.hid hstep
      have i0 : (0 : Int) ≤ (i : Int) := by omega
      have i1 : (i : Int) < (wn : Int) := by omega
      have i2 : (i : Int) < (kn : Int) := by omega
      have i3 : i < wn := hlt1
      have i4 : i < kn := hlt2
      by_cases hpos : kx < 1
      · have hd1 : decide (kx < 1) = true := decide_eq_true hpos
        have HPOS := Lib.hid hpos
        clear hI hy hkx hcw1 hcw2 hstep hz hpos huy hyw hK hKs hKl hy0 hy1
        go_wp2
        go_roundw
        case rel => exact ⟨i + 1, by go_num, by have := HLT.h; omega, by have := HLT2.h; omega, Ls', by rw [HST.out]; unfold keepOne; rw [if_pos HPOS.out]; exact HI.out, HB.out⟩
        case measure => have := HLT.h; simp [intOf]; omega
      · -- TAIL
        obtain ⟨_, _, _, _, _, _, e1, _, hm'⟩ := hI.mem
        simp only [Value.slice.injEq] at e1
        obtain ⟨rfl, rfl, rfl⟩ := e1
        obtain ⟨x, hxx⟩ : ∃ x, Ls'[K]? = some x := ⟨_, List.getElem?_eq_getElem hKl⟩
        obtain ⟨lgx, hlgx, hxc⟩ := hm'.lg K x hxx
        simp only [Option.some.injEq, Addr.mk.injEq, and_true] at hlgx
        subst hlgx
        have hxu := hI.lu x (List.mem_of_getElem? hxx)
        have hxl : kept S.lasts ((S.waits.zip keep).take i) K = pad x.l := hI.ll K x hxx
        have HZ : Hid (Calls Try.prog 31 #[.slice x.q x.l.length x.c] wr (ZPost wr (pad x.l))) := Lib.hid (rzeros_any hxu.1.bs x.c rfl hxu.2.1 hxu.2.2.2.2)
        have HPL : Hid ((pad x.l).length = 512) := Lib.hid (pad_length hxu.2.1)
        have b0 := hm'.c0
        have HKL := Lib.hid hKl
        obtain ⟨curx, hcx, hlgB'⟩ : ∃ cur', wr.heap[lg']? = some (.cells cur' 30 (0, 0)) ∧ w.heap.size ≤ lg' := by
          rcases hI.lo.2 with ⟨_, h0⟩ | ⟨g, cap, cur, hv, hgb, hg, _⟩
          · omega
          · simp only [Value.slice.injEq, Option.some.injEq, Addr.mk.injEq] at hv
            rw [hv.1.1]
            exact ⟨cur, hg, hgb⟩
        have hxf : wr.frozen? ⟨lg', K, none⟩ = false := Joins.unfrozen_of_block hcx _
        have hlgl : lg' < wr.heap.size := (Array.getElem?_eq_some_iff.1 hcx).1
        have hn1 : p' ≠ lg' := obj_ne hI.blk hcx (by intro e; simp at e)
        have hpl : p < w.heap.size := World.block_lt_of_cell? _ _ HM.out.c0
        have hwl : wg < w.heap.size := hwgl
        have hn2 : p ≠ lg' := by omega
        have hn3 : wg ≠ lg' := by omega
        clear hpl hwl
        have hBr := Lib.hid HB.out.size
        have HLN : Hid (ln = Ls'.length) := Lib.hid hm'.lh
        clear hcx hm' hlgB'
        have hln' := HLN.out
        by_cases hn5 : kx < 512
        · skip
          obtain ⟨nn, rfl⟩ : ∃ nn : Nat, kx = (nn : Int) := ⟨kx.toNat, by omega⟩
          have hto : (min (nn : Int) 512).toNat = nn := by omega
          have hnA : nn < 512 := by omega
          have hd1 : decide ((nn : Int) < 1) = false := decide_eq_false (by omega)
          have hd2 : decide ((512 : Int) < (nn : Int)) = false := decide_eq_false (by omega)
          have hd1' : decide (nn < 1) = false := decide_eq_false (by omega)
          have hd2' : decide (512 < nn) = false := decide_eq_false (by omega)
          have hnI0 : (0 : Int) ≤ (nn : Int) := by omega
          have hnI1 : (nn : Int) ≤ 512 := by omega
          have hnI2 : (nn : Int) < 512 := by omega

          have HPUT : Hid (kept S.lasts ((S.waits.zip keep).take (i + 1)) = putAt (kept S.lasts ((S.waits.zip keep).take i)) K (over (pad x.l) (y.2.l.take nn))) := Lib.hid (by rw [HST.out]; unfold keepOne; rw [if_neg hpos, hto]; show putAt _ y.1 (over (kept S.lasts ((S.waits.zip keep).take i) y.1) _) = _; rw [hK, hxl])
          have htl : (y.2.l.take nn).length = nn := by rw [List.length_take, huy.2.1]; omega
          have HTL := Lib.hid htl
          have HYB := Lib.hid (huy.1.below hb)
          rw [hK] at hc1
          rw [huy.2.1] at hc2
          have hyc : 512 ≤ y.2.c := huy.2.2.1
          have hycI : (512 : Int) ≤ (y.2.c : Int) := by omega
          have hyc2 : y.2.c ≤ 9223372036854775807 := huy.2.2.2
          have hyc3 : (nn : Int) ≤ (y.2.c : Int) := by omega
          have hyc4 : nn ≤ y.2.c := by omega
          obtain ⟨gy, _, hgy, _, _⟩ := HYB.out (by intro e; have := huy.2.1; rw [e] at this; simp at this)
          rw [hgy] at hc2 HYB
          have k0 : (0 : Int) ≤ (K : Int) := by omega
          have k1 : (K : Int) < (ln : Int) := by omega
          have k2 : K < ln := by omega
          clear hln' hI hy hkx hcw1 hcw2 hstep hz hpos hto hyw hKs hy0 hy1 huy htl hxx hxl hxu
          go_wp2_with fail
          refine HZ.out.mono ?_; rintro e w3 ⟨z, rfl, hz, hb3⟩
          obtain ⟨zq, zc, rfl, hu, hz1, hz2, hz3⟩ := U.own hz
          rw [HPL.out] at hz1 ⊢
          obtain ⟨gz, _, rfl, _, _⟩ := id hu (by intro e; have := HPL.out; rw [e] at this; simp at this)
          have HU3 := Lib.hid hu
          have HB3 := Lib.hid (HB.out.trans (hb3.mono HB.out.size))
          have HI3 := Lib.hid (HI.out.below hb3)
          have HY3 := Lib.hid (HYB.out.below hb3)
          have d0 : w3.cell? ⟨p', 0, none⟩ = some (.slice (some ⟨lg', 0, none⟩) ln lc') := by rw [hb3.cell (p := ⟨p', 0, none⟩) (World.block_lt_of_cell? _ _ b0)]; exact b0
          have d1 : w3.cell? ⟨p, 1, none⟩ = some (.slice (some ⟨wg, 0, none⟩) wn wc) := (HC0.out _ HB3.out).2
          have d2 : w3.cell? ⟨wg, i * 2 + 1, none⟩ = some (.slice (some ⟨gy, 0, none⟩) 512 y.2.c) := by rw [hb3.cell (p := ⟨wg, i * 2 + 1, none⟩) (World.block_lt_of_cell? _ _ hc2)]; exact hc2
          have hnp : p' ≠ lg' ∧ p ≠ lg' ∧ wg ≠ lg' := ⟨hn1, hn2, hn3⟩
          have HNP := Lib.hid hnp
          have HC : Hid (∀ w' : World, w'.heap[p']? = w3.heap[p']? → w'.heap[p]? = w3.heap[p]? → w'.heap[wg]? = w3.heap[wg]? → w'.cell? ⟨p', 0, none⟩ = some (.slice (some ⟨lg', 0, none⟩) ln lc') ∧ w'.cell? ⟨p, 1, none⟩ = some (.slice (some ⟨wg, 0, none⟩) wn wc) ∧ w'.cell? ⟨wg, i * 2 + 1, none⟩ = some (.slice (some ⟨gy, 0, none⟩) 512 y.2.c)) := Lib.hid fun w' h1 h2 h3 =>
            ⟨by rw [World.cell?_of_block (w := w3) (a := ⟨p', 0, none⟩) h1]; exact d0, by rw [World.cell?_of_block (w := w3) (a := ⟨p, 1, none⟩) h2]; exact d1, by rw [World.cell?_of_block (w := w3) (a := ⟨wg, i * 2 + 1, none⟩) h3]; exact d2⟩
          have HCB : Hid (∀ w' : World, Below w3.heap.size w3 w' → w'.cell? ⟨p', 0, none⟩ = some (.slice (some ⟨lg', 0, none⟩) ln lc') ∧ w'.cell? ⟨p, 1, none⟩ = some (.slice (some ⟨wg, 0, none⟩) wn wc) ∧ w'.cell? ⟨wg, i * 2 + 1, none⟩ = some (.slice (some ⟨gy, 0, none⟩) 512 y.2.c)) := Lib.hid fun w' h => HC.out w' (h.block _ (World.block_lt_of_cell? _ _ d0)) (h.block _ (World.block_lt_of_cell? _ _ d1)) (h.block _ (World.block_lt_of_cell? _ _ d2))
          have HCS : Hid (∀ (w' : World) u, Below w3.heap.size w3 w' → (w'.setCell ⟨lg', K, none⟩ u).cell? ⟨p', 0, none⟩ = some (.slice (some ⟨lg', 0, none⟩) ln lc') ∧ (w'.setCell ⟨lg', K, none⟩ u).cell? ⟨p, 1, none⟩ = some (.slice (some ⟨wg, 0, none⟩) wn wc) ∧ (w'.setCell ⟨lg', K, none⟩ u).cell? ⟨wg, i * 2 + 1, none⟩ = some (.slice (some ⟨gy, 0, none⟩) 512 y.2.c)) := Lib.hid fun w' u h => HC.out _
            ((Below.heap_setCell _ _ _ _ HNP.out.1).trans (h.block _ (World.block_lt_of_cell? _ _ d0))) ((Below.heap_setCell _ _ _ _ HNP.out.2.1).trans (h.block _ (World.block_lt_of_cell? _ _ d1))) ((Below.heap_setCell _ _ _ _ HNP.out.2.2).trans (h.block _ (World.block_lt_of_cell? _ _ d2)))
          have HLK : Hid (∀ w', Below w3.heap.size w3 w' → w'.cell? ⟨lg', K, none⟩ = some (.slice x.q x.l.length x.c) ∧ w'.frozen? ⟨lg', K, none⟩ = false) := Lib.hid fun w' h => ⟨by rw [h.cell (p := ⟨lg', K, none⟩) (Nat.lt_of_lt_of_le hlgl hb3.size), hb3.cell (p := ⟨lg', K, none⟩) hlgl]; exact hxc, by rw [h.frozen (p := ⟨lg', K, none⟩) (Nat.lt_of_lt_of_le hlgl hb3.size), hb3.frozen (p := ⟨lg', K, none⟩) hlgl]; exact hxf⟩
          have HD := Lib.hid ((HU3.out.bs.take 512))
          have HSRC := Lib.hid (Bs.drop (b := gz) (o := 0) (l := pad x.l) (fun i u hi => by obtain ⟨b, o, he, hc⟩ := HU3.out.bs (by intro e; have := HPL.out; rw [e] at this; simp at this); simp only [Option.some.injEq, Addr.mk.injEq, and_true] at he; obtain ⟨rfl, rfl⟩ := he; exact hc i u hi) nn)
          have HSRC2 : Hid (Bs w3 (some ⟨gz, nn, none⟩) ((pad x.l).drop nn)) := Lib.hid (by have h := HSRC.out; rw [Nat.zero_add] at h; exact h)
          have hzn : ¬ zc = nn := by omega
          have HDL : Hid ((512 - nn) = ((pad x.l).drop nn).length) := Lib.hid (by rw [List.length_drop, HPL.out])
          clear hz hb3 hu b0 hxc hxf hc1 hc2 a0 a1 hck hn1 hn2 hn3 hnp hgy
          have HN5 : Hid (nn ≤ 512) := Lib.hid (by omega)
          go_wp2_with fail
          go_region_held3 (fun w' => w'.cell? ⟨p', 0, none⟩ = some (.slice (some ⟨lg', 0, none⟩) ln lc') ∧ w'.cell? ⟨p, 1, none⟩ = some (.slice (some ⟨wg, 0, none⟩) wn wc) ∧ w'.cell? ⟨wg, i * 2 + 1, none⟩ = some (.slice (some ⟨gy, 0, none⟩) 512 y.2.c))
            (first | exact HCB.out _ (Below.refl _ _).drew | exact HCB.out _ ((Below.refl _ _).drew.alloc (Nat.le_refl _) _) | exact HCB.out _ (sbox1 _ _).drew | exact HCB.out _ HB4.out | exact HCB.out _ HB5.out | exact HCS.out _ _ HB5.out)
            (first
              | (refine step_app rfl (.tmp 62) (.tmp 72) rfl rfl (Own.empty w3 w3.heap.size (Nat.le_refl _)) HTL.out.symm rfl ((HY3.out.bs.take nn).below (sbox1d w3 _)) (fun h => by cases h) (by have := HTL.out; have e : ([] : List UInt8).length = 0 := rfl; omega) (sbox1d w3 _).size ?_; intro v4 w4 ho4 hb4; rw [List.nil_append] at ho4; have HB4 : Hid (Below w3.heap.size w3 w4) := Lib.hid (by first | exact (sbox1 w3 _).drew.trans hb4 | exact ((Below.refl _ _).drew.alloc (Nat.le_refl _) _).trans hb4); obtain ⟨q4, c4, rfl, _, _, _, _⟩ := ho4.form HTL.out.symm; have HO4 := Lib.hid ho4; clear ho4 hb4)
              | (refine step_app rfl (.tmp 73) (.tmp 76) rfl rfl HO4.out HDL.out rfl (HSRC2.out.below HB4.out) (fun h => by cases h) (by have := HTL.out; have := HDL.out; omega) HB4.out.size ?_; intro v5 w5 ho5 hb5; have HB5 : Hid (Below w3.heap.size w3 w5) := Lib.hid (HB4.out.trans hb5); rw [over_eq HTL.out] at ho5; obtain ⟨q5, c5, rfl, hc51, hc52, _, _⟩ := ho5.form (over512 HPL.out HTL.out HN5.out); have HU5 := Lib.hid (U.own ho5); obtain ⟨l51, l52⟩ := HLK.out _ HB5.out; clear ho5 hb5))
          have HP : Hid (RefIs (w5.setCell ⟨lg', K, none⟩ (.slice q5 512 c5)) w.heap.size p' (.slice (some ⟨lg', 0, none⟩) ln lc') (.slice none 0 0) (Ls'.set K ⟨q5, c5, over (pad x.l) (y.2.l.take nn)⟩) [] ⟨S.size, kept S.lasts ((S.waits.zip keep).take (i + 1)), [], -1, 0⟩ ∧ Below w.heap.size w (w5.setCell ⟨lg', K, none⟩ (.slice q5 512 c5))) := Lib.hid (by
            obtain ⟨q6, c6, e6, hu6, _⟩ := HU5.out
            rw [over_length (by rw [HPL.out, HTL.out]; exact HN5.out), HPL.out] at e6
            simp only [Value.slice.injEq, true_and] at e6
            obtain ⟨rfl, rfl⟩ := e6
            have h := ref_put (HI3.out.below HB5.out) (Nat.le_trans HB3.out.size HB5.out.size) HKL.out (x := ⟨q5, c5, over (pad x.l) (y.2.l.take nn)⟩) ⟨hu6, (by show (over _ _).length = 512; rw [over_length (by rw [HPL.out, HTL.out]; exact HN5.out)]; exact HPL.out), hc51, hc52⟩
            rw [HPUT.out]
            exact ⟨h.1, (HB3.out.trans (HB5.out.mono HB3.out.size)).trans h.2.1⟩)
          have he : (w5.setCell ⟨lg', K, none⟩ (.slice q5 512 c5)).drew = w5.drew.setCell ⟨lg', K, none⟩ (.slice q5 512 c5) := by first | rfl | exact (World.setCell_drew ..).symm | exact World.setCell_drew ..
          clear HC HCS HCB d0 d1 d2 l51 l52 he
          generalize (w5.setCell ⟨lg', K, none⟩ (.slice q5 512 c5)) = w6 at HP ⊢
          go_wp2
          go_roundw
          case rel => exact ⟨i + 1, by go_num, by have := HLT.h; omega, by have := HLT2.h; omega, _, HP.out.1, HP.out.2⟩
          case measure => have := HLT.h; simp [intOf]; omega
        · by_cases hn6 : kx = 512
          · skip
            subst hn6
            have hto : (min (512 : Int) 512).toNat = 512 := by decide

            have HPUT : Hid (kept S.lasts ((S.waits.zip keep).take (i + 1)) = putAt (kept S.lasts ((S.waits.zip keep).take i)) K (over (pad x.l) (y.2.l.take 512))) := Lib.hid (by rw [HST.out]; unfold keepOne; rw [if_neg hpos, hto]; show putAt _ y.1 (over (kept S.lasts ((S.waits.zip keep).take i) y.1) _) = _; rw [hK, hxl])
            have htl : (y.2.l.take 512).length = 512 := by rw [List.length_take, huy.2.1]; omega
            have HTL := Lib.hid htl
            have HYB := Lib.hid (huy.1.below hb)
            rw [hK] at hc1
            rw [huy.2.1] at hc2
            have hyc : 512 ≤ y.2.c := huy.2.2.1
            have hycI : (512 : Int) ≤ (y.2.c : Int) := by omega
            have hyc2 : y.2.c ≤ 9223372036854775807 := huy.2.2.2
            have hyc3 : 512 ≤ (y.2.c : Int) := by omega
            have hyc4 : 512 ≤ y.2.c := by omega
            obtain ⟨gy, _, hgy, _, _⟩ := HYB.out (by intro e; have := huy.2.1; rw [e] at this; simp at this)
            rw [hgy] at hc2 HYB
            have k0 : (0 : Int) ≤ (K : Int) := by omega
            have k1 : (K : Int) < (ln : Int) := by omega
            have k2 : K < ln := by omega
            clear hln' hI hy hkx hcw1 hcw2 hstep hz hpos hto hyw hKs hy0 hy1 huy htl hxx hxl hxu
            go_wp2_with fail
            refine HZ.out.mono ?_; rintro e w3 ⟨z, rfl, hz, hb3⟩
            obtain ⟨zq, zc, rfl, hu, hz1, hz2, hz3⟩ := U.own hz
            rw [HPL.out] at hz1 ⊢
            obtain ⟨gz, _, rfl, _, _⟩ := id hu (by intro e; have := HPL.out; rw [e] at this; simp at this)
            have HU3 := Lib.hid hu
            have HB3 := Lib.hid (HB.out.trans (hb3.mono HB.out.size))
            have HI3 := Lib.hid (HI.out.below hb3)
            have HY3 := Lib.hid (HYB.out.below hb3)
            have d0 : w3.cell? ⟨p', 0, none⟩ = some (.slice (some ⟨lg', 0, none⟩) ln lc') := by rw [hb3.cell (p := ⟨p', 0, none⟩) (World.block_lt_of_cell? _ _ b0)]; exact b0
            have d1 : w3.cell? ⟨p, 1, none⟩ = some (.slice (some ⟨wg, 0, none⟩) wn wc) := (HC0.out _ HB3.out).2
            have d2 : w3.cell? ⟨wg, i * 2 + 1, none⟩ = some (.slice (some ⟨gy, 0, none⟩) 512 y.2.c) := by rw [hb3.cell (p := ⟨wg, i * 2 + 1, none⟩) (World.block_lt_of_cell? _ _ hc2)]; exact hc2
            have hnp : p' ≠ lg' ∧ p ≠ lg' ∧ wg ≠ lg' := ⟨hn1, hn2, hn3⟩
            have HNP := Lib.hid hnp
            have HC : Hid (∀ w' : World, w'.heap[p']? = w3.heap[p']? → w'.heap[p]? = w3.heap[p]? → w'.heap[wg]? = w3.heap[wg]? → w'.cell? ⟨p', 0, none⟩ = some (.slice (some ⟨lg', 0, none⟩) ln lc') ∧ w'.cell? ⟨p, 1, none⟩ = some (.slice (some ⟨wg, 0, none⟩) wn wc) ∧ w'.cell? ⟨wg, i * 2 + 1, none⟩ = some (.slice (some ⟨gy, 0, none⟩) 512 y.2.c)) := Lib.hid fun w' h1 h2 h3 =>
              ⟨by rw [World.cell?_of_block (w := w3) (a := ⟨p', 0, none⟩) h1]; exact d0, by rw [World.cell?_of_block (w := w3) (a := ⟨p, 1, none⟩) h2]; exact d1, by rw [World.cell?_of_block (w := w3) (a := ⟨wg, i * 2 + 1, none⟩) h3]; exact d2⟩
            have HCB : Hid (∀ w' : World, Below w3.heap.size w3 w' → w'.cell? ⟨p', 0, none⟩ = some (.slice (some ⟨lg', 0, none⟩) ln lc') ∧ w'.cell? ⟨p, 1, none⟩ = some (.slice (some ⟨wg, 0, none⟩) wn wc) ∧ w'.cell? ⟨wg, i * 2 + 1, none⟩ = some (.slice (some ⟨gy, 0, none⟩) 512 y.2.c)) := Lib.hid fun w' h => HC.out w' (h.block _ (World.block_lt_of_cell? _ _ d0)) (h.block _ (World.block_lt_of_cell? _ _ d1)) (h.block _ (World.block_lt_of_cell? _ _ d2))
            have HCS : Hid (∀ (w' : World) u, Below w3.heap.size w3 w' → (w'.setCell ⟨lg', K, none⟩ u).cell? ⟨p', 0, none⟩ = some (.slice (some ⟨lg', 0, none⟩) ln lc') ∧ (w'.setCell ⟨lg', K, none⟩ u).cell? ⟨p, 1, none⟩ = some (.slice (some ⟨wg, 0, none⟩) wn wc) ∧ (w'.setCell ⟨lg', K, none⟩ u).cell? ⟨wg, i * 2 + 1, none⟩ = some (.slice (some ⟨gy, 0, none⟩) 512 y.2.c)) := Lib.hid fun w' u h => HC.out _
              ((Below.heap_setCell _ _ _ _ HNP.out.1).trans (h.block _ (World.block_lt_of_cell? _ _ d0))) ((Below.heap_setCell _ _ _ _ HNP.out.2.1).trans (h.block _ (World.block_lt_of_cell? _ _ d1))) ((Below.heap_setCell _ _ _ _ HNP.out.2.2).trans (h.block _ (World.block_lt_of_cell? _ _ d2)))
            have HLK : Hid (∀ w', Below w3.heap.size w3 w' → w'.cell? ⟨lg', K, none⟩ = some (.slice x.q x.l.length x.c) ∧ w'.frozen? ⟨lg', K, none⟩ = false) := Lib.hid fun w' h => ⟨by rw [h.cell (p := ⟨lg', K, none⟩) (Nat.lt_of_lt_of_le hlgl hb3.size), hb3.cell (p := ⟨lg', K, none⟩) hlgl]; exact hxc, by rw [h.frozen (p := ⟨lg', K, none⟩) (Nat.lt_of_lt_of_le hlgl hb3.size), hb3.frozen (p := ⟨lg', K, none⟩) hlgl]; exact hxf⟩
            have HD := Lib.hid ((HU3.out.bs.take 512))
            have HSRC := Lib.hid (Bs.drop (b := gz) (o := 0) (l := pad x.l) (fun i u hi => by obtain ⟨b, o, he, hc⟩ := HU3.out.bs (by intro e; have := HPL.out; rw [e] at this; simp at this); simp only [Option.some.injEq, Addr.mk.injEq, and_true] at he; obtain ⟨rfl, rfl⟩ := he; exact hc i u hi) 512)
            have HSRC2 : Hid (Bs w3 none ((pad x.l).drop 512)) := Lib.hid (by rw [List.drop_eq_nil_of_le (by rw [HPL.out]; exact Nat.le_refl _)]; exact Bs.nil _ _)
            skip
            have HDL : Hid (0 = ((pad x.l).drop 512).length) := Lib.hid (by rw [List.length_drop, HPL.out])
            clear hz hb3 hu b0 hxc hxf hc1 hc2 a0 a1 hck hn1 hn2 hn3 hnp hgy
            have HN5 : Hid (512 ≤ 512) := Lib.hid (by omega)
            go_wp2_with fail
            go_region_held3 (fun w' => w'.cell? ⟨p', 0, none⟩ = some (.slice (some ⟨lg', 0, none⟩) ln lc') ∧ w'.cell? ⟨p, 1, none⟩ = some (.slice (some ⟨wg, 0, none⟩) wn wc) ∧ w'.cell? ⟨wg, i * 2 + 1, none⟩ = some (.slice (some ⟨gy, 0, none⟩) 512 y.2.c))
              (first | exact HCB.out _ (Below.refl _ _).drew | exact HCB.out _ ((Below.refl _ _).drew.alloc (Nat.le_refl _) _) | exact HCB.out _ (sbox1 _ _).drew | exact HCB.out _ HB4.out | exact HCB.out _ HB5.out | exact HCS.out _ _ HB5.out)
              (first
                | (refine step_app rfl (.tmp 62) (.tmp 72) rfl rfl (Own.empty w3 w3.heap.size (Nat.le_refl _)) HTL.out.symm rfl ((HY3.out.bs.take 512).below (sbox1d w3 _)) (fun h => by cases h) (by have := HTL.out; have e : ([] : List UInt8).length = 0 := rfl; omega) (sbox1d w3 _).size ?_; intro v4 w4 ho4 hb4; rw [List.nil_append] at ho4; have HB4 : Hid (Below w3.heap.size w3 w4) := Lib.hid (by first | exact (sbox1 w3 _).drew.trans hb4 | exact ((Below.refl _ _).drew.alloc (Nat.le_refl _) _).trans hb4); obtain ⟨q4, c4, rfl, _, _, _, _⟩ := ho4.form HTL.out.symm; have HO4 := Lib.hid ho4; clear ho4 hb4)
                | (refine step_app rfl (.tmp 73) (.tmp 76) rfl rfl HO4.out HDL.out rfl (bs_none HSRC2.out HPL.out) (fun h => by first | cases h | (split at h <;> cases h)) (by have := HTL.out; have := HDL.out; omega) HB4.out.size ?_; intro v5 w5 ho5 hb5; have HB5 : Hid (Below w3.heap.size w3 w5) := Lib.hid (HB4.out.trans hb5); rw [over_eq HTL.out] at ho5; obtain ⟨q5, c5, rfl, hc51, hc52, _, _⟩ := ho5.form (over512 HPL.out HTL.out HN5.out); have HU5 := Lib.hid (U.own ho5); obtain ⟨l51, l52⟩ := HLK.out _ HB5.out; clear ho5 hb5))
            have HP : Hid (RefIs (w5.setCell ⟨lg', K, none⟩ (.slice q5 512 c5)) w.heap.size p' (.slice (some ⟨lg', 0, none⟩) ln lc') (.slice none 0 0) (Ls'.set K ⟨q5, c5, over (pad x.l) (y.2.l.take 512)⟩) [] ⟨S.size, kept S.lasts ((S.waits.zip keep).take (i + 1)), [], -1, 0⟩ ∧ Below w.heap.size w (w5.setCell ⟨lg', K, none⟩ (.slice q5 512 c5))) := Lib.hid (by
              obtain ⟨q6, c6, e6, hu6, _⟩ := HU5.out
              rw [over_length (by rw [HPL.out, HTL.out]; exact HN5.out), HPL.out] at e6
              simp only [Value.slice.injEq, true_and] at e6
              obtain ⟨rfl, rfl⟩ := e6
              have h := ref_put (HI3.out.below HB5.out) (Nat.le_trans HB3.out.size HB5.out.size) HKL.out (x := ⟨q5, c5, over (pad x.l) (y.2.l.take 512)⟩) ⟨hu6, (by show (over _ _).length = 512; rw [over_length (by rw [HPL.out, HTL.out]; exact HN5.out)]; exact HPL.out), hc51, hc52⟩
              rw [HPUT.out]
              exact ⟨h.1, (HB3.out.trans (HB5.out.mono HB3.out.size)).trans h.2.1⟩)
            have he : (w5.setCell ⟨lg', K, none⟩ (.slice q5 512 c5)).drew = w5.drew.setCell ⟨lg', K, none⟩ (.slice q5 512 c5) := by first | rfl | exact (World.setCell_drew ..).symm | exact World.setCell_drew ..
            clear HC HCS HCB d0 d1 d2 l51 l52 he
            generalize (w5.setCell ⟨lg', K, none⟩ (.slice q5 512 c5)) = w6 at HP ⊢
            go_wp2
            go_roundw
            case rel => exact ⟨i + 1, by go_num, by have := HLT.h; omega, by have := HLT2.h; omega, _, HP.out.1, HP.out.2⟩
            case measure => have := HLT.h; simp [intOf]; omega
          · skip
            have hto : (min kx 512).toNat = 512 := by omega
            have hd1 : decide (kx < 1) = false := decide_eq_false (by omega)
            have hd2 : decide ((512 : Int) < kx) = true := decide_eq_true (by omega)

            have HPUT : Hid (kept S.lasts ((S.waits.zip keep).take (i + 1)) = putAt (kept S.lasts ((S.waits.zip keep).take i)) K (over (pad x.l) (y.2.l.take 512))) := Lib.hid (by rw [HST.out]; unfold keepOne; rw [if_neg hpos, hto]; show putAt _ y.1 (over (kept S.lasts ((S.waits.zip keep).take i) y.1) _) = _; rw [hK, hxl])
            have htl : (y.2.l.take 512).length = 512 := by rw [List.length_take, huy.2.1]; omega
            have HTL := Lib.hid htl
            have HYB := Lib.hid (huy.1.below hb)
            rw [hK] at hc1
            rw [huy.2.1] at hc2
            have hyc : 512 ≤ y.2.c := huy.2.2.1
            have hycI : (512 : Int) ≤ (y.2.c : Int) := by omega
            have hyc2 : y.2.c ≤ 9223372036854775807 := huy.2.2.2
            have hyc3 : 512 ≤ (y.2.c : Int) := by omega
            have hyc4 : 512 ≤ y.2.c := by omega
            obtain ⟨gy, _, hgy, _, _⟩ := HYB.out (by intro e; have := huy.2.1; rw [e] at this; simp at this)
            rw [hgy] at hc2 HYB
            have k0 : (0 : Int) ≤ (K : Int) := by omega
            have k1 : (K : Int) < (ln : Int) := by omega
            have k2 : K < ln := by omega
            clear hln' hI hy hkx hcw1 hcw2 hstep hz hpos hto hyw hKs hy0 hy1 huy htl hxx hxl hxu
            go_wp2_with fail
            refine HZ.out.mono ?_; rintro e w3 ⟨z, rfl, hz, hb3⟩
            obtain ⟨zq, zc, rfl, hu, hz1, hz2, hz3⟩ := U.own hz
            rw [HPL.out] at hz1 ⊢
            obtain ⟨gz, _, rfl, _, _⟩ := id hu (by intro e; have := HPL.out; rw [e] at this; simp at this)
            have HU3 := Lib.hid hu
            have HB3 := Lib.hid (HB.out.trans (hb3.mono HB.out.size))
            have HI3 := Lib.hid (HI.out.below hb3)
            have HY3 := Lib.hid (HYB.out.below hb3)
            have d0 : w3.cell? ⟨p', 0, none⟩ = some (.slice (some ⟨lg', 0, none⟩) ln lc') := by rw [hb3.cell (p := ⟨p', 0, none⟩) (World.block_lt_of_cell? _ _ b0)]; exact b0
            have d1 : w3.cell? ⟨p, 1, none⟩ = some (.slice (some ⟨wg, 0, none⟩) wn wc) := (HC0.out _ HB3.out).2
            have d2 : w3.cell? ⟨wg, i * 2 + 1, none⟩ = some (.slice (some ⟨gy, 0, none⟩) 512 y.2.c) := by rw [hb3.cell (p := ⟨wg, i * 2 + 1, none⟩) (World.block_lt_of_cell? _ _ hc2)]; exact hc2
            have hnp : p' ≠ lg' ∧ p ≠ lg' ∧ wg ≠ lg' := ⟨hn1, hn2, hn3⟩
            have HNP := Lib.hid hnp
            have HC : Hid (∀ w' : World, w'.heap[p']? = w3.heap[p']? → w'.heap[p]? = w3.heap[p]? → w'.heap[wg]? = w3.heap[wg]? → w'.cell? ⟨p', 0, none⟩ = some (.slice (some ⟨lg', 0, none⟩) ln lc') ∧ w'.cell? ⟨p, 1, none⟩ = some (.slice (some ⟨wg, 0, none⟩) wn wc) ∧ w'.cell? ⟨wg, i * 2 + 1, none⟩ = some (.slice (some ⟨gy, 0, none⟩) 512 y.2.c)) := Lib.hid fun w' h1 h2 h3 =>
              ⟨by rw [World.cell?_of_block (w := w3) (a := ⟨p', 0, none⟩) h1]; exact d0, by rw [World.cell?_of_block (w := w3) (a := ⟨p, 1, none⟩) h2]; exact d1, by rw [World.cell?_of_block (w := w3) (a := ⟨wg, i * 2 + 1, none⟩) h3]; exact d2⟩
            have HCB : Hid (∀ w' : World, Below w3.heap.size w3 w' → w'.cell? ⟨p', 0, none⟩ = some (.slice (some ⟨lg', 0, none⟩) ln lc') ∧ w'.cell? ⟨p, 1, none⟩ = some (.slice (some ⟨wg, 0, none⟩) wn wc) ∧ w'.cell? ⟨wg, i * 2 + 1, none⟩ = some (.slice (some ⟨gy, 0, none⟩) 512 y.2.c)) := Lib.hid fun w' h => HC.out w' (h.block _ (World.block_lt_of_cell? _ _ d0)) (h.block _ (World.block_lt_of_cell? _ _ d1)) (h.block _ (World.block_lt_of_cell? _ _ d2))
            have HCS : Hid (∀ (w' : World) u, Below w3.heap.size w3 w' → (w'.setCell ⟨lg', K, none⟩ u).cell? ⟨p', 0, none⟩ = some (.slice (some ⟨lg', 0, none⟩) ln lc') ∧ (w'.setCell ⟨lg', K, none⟩ u).cell? ⟨p, 1, none⟩ = some (.slice (some ⟨wg, 0, none⟩) wn wc) ∧ (w'.setCell ⟨lg', K, none⟩ u).cell? ⟨wg, i * 2 + 1, none⟩ = some (.slice (some ⟨gy, 0, none⟩) 512 y.2.c)) := Lib.hid fun w' u h => HC.out _
              ((Below.heap_setCell _ _ _ _ HNP.out.1).trans (h.block _ (World.block_lt_of_cell? _ _ d0))) ((Below.heap_setCell _ _ _ _ HNP.out.2.1).trans (h.block _ (World.block_lt_of_cell? _ _ d1))) ((Below.heap_setCell _ _ _ _ HNP.out.2.2).trans (h.block _ (World.block_lt_of_cell? _ _ d2)))
            have HLK : Hid (∀ w', Below w3.heap.size w3 w' → w'.cell? ⟨lg', K, none⟩ = some (.slice x.q x.l.length x.c) ∧ w'.frozen? ⟨lg', K, none⟩ = false) := Lib.hid fun w' h => ⟨by rw [h.cell (p := ⟨lg', K, none⟩) (Nat.lt_of_lt_of_le hlgl hb3.size), hb3.cell (p := ⟨lg', K, none⟩) hlgl]; exact hxc, by rw [h.frozen (p := ⟨lg', K, none⟩) (Nat.lt_of_lt_of_le hlgl hb3.size), hb3.frozen (p := ⟨lg', K, none⟩) hlgl]; exact hxf⟩
            have HD := Lib.hid ((HU3.out.bs.take 512))
            have HSRC := Lib.hid (Bs.drop (b := gz) (o := 0) (l := pad x.l) (fun i u hi => by obtain ⟨b, o, he, hc⟩ := HU3.out.bs (by intro e; have := HPL.out; rw [e] at this; simp at this); simp only [Option.some.injEq, Addr.mk.injEq, and_true] at he; obtain ⟨rfl, rfl⟩ := he; exact hc i u hi) 512)
            have HSRC2 : Hid (Bs w3 none ((pad x.l).drop 512)) := Lib.hid (by rw [List.drop_eq_nil_of_le (by rw [HPL.out]; exact Nat.le_refl _)]; exact Bs.nil _ _)
            skip
            have HDL : Hid (0 = ((pad x.l).drop 512).length) := Lib.hid (by rw [List.length_drop, HPL.out])
            clear hz hb3 hu b0 hxc hxf hc1 hc2 a0 a1 hck hn1 hn2 hn3 hnp hgy
            have HN5 : Hid (512 ≤ 512) := Lib.hid (by omega)
            go_wp2_with fail
            go_region_held3 (fun w' => w'.cell? ⟨p', 0, none⟩ = some (.slice (some ⟨lg', 0, none⟩) ln lc') ∧ w'.cell? ⟨p, 1, none⟩ = some (.slice (some ⟨wg, 0, none⟩) wn wc) ∧ w'.cell? ⟨wg, i * 2 + 1, none⟩ = some (.slice (some ⟨gy, 0, none⟩) 512 y.2.c))
              (first | exact HCB.out _ (Below.refl _ _).drew | exact HCB.out _ ((Below.refl _ _).drew.alloc (Nat.le_refl _) _) | exact HCB.out _ (sbox1 _ _).drew | exact HCB.out _ HB4.out | exact HCB.out _ HB5.out | exact HCS.out _ _ HB5.out)
              (first
                | (refine step_app rfl (.tmp 62) (.tmp 72) rfl rfl (Own.empty w3 w3.heap.size (Nat.le_refl _)) HTL.out.symm rfl ((HY3.out.bs.take 512).below (sbox1d w3 _)) (fun h => by cases h) (by have := HTL.out; have e : ([] : List UInt8).length = 0 := rfl; omega) (sbox1d w3 _).size ?_; intro v4 w4 ho4 hb4; rw [List.nil_append] at ho4; have HB4 : Hid (Below w3.heap.size w3 w4) := Lib.hid (by first | exact (sbox1 w3 _).drew.trans hb4 | exact ((Below.refl _ _).drew.alloc (Nat.le_refl _) _).trans hb4); obtain ⟨q4, c4, rfl, _, _, _, _⟩ := ho4.form HTL.out.symm; have HO4 := Lib.hid ho4; clear ho4 hb4)
                | (refine step_app rfl (.tmp 73) (.tmp 76) rfl rfl HO4.out HDL.out rfl (bs_none HSRC2.out HPL.out) (fun h => by first | cases h | (split at h <;> cases h)) (by have := HTL.out; have := HDL.out; omega) HB4.out.size ?_; intro v5 w5 ho5 hb5; have HB5 : Hid (Below w3.heap.size w3 w5) := Lib.hid (HB4.out.trans hb5); rw [over_eq HTL.out] at ho5; obtain ⟨q5, c5, rfl, hc51, hc52, _, _⟩ := ho5.form (over512 HPL.out HTL.out HN5.out); have HU5 := Lib.hid (U.own ho5); obtain ⟨l51, l52⟩ := HLK.out _ HB5.out; clear ho5 hb5))
            have HP : Hid (RefIs (w5.setCell ⟨lg', K, none⟩ (.slice q5 512 c5)) w.heap.size p' (.slice (some ⟨lg', 0, none⟩) ln lc') (.slice none 0 0) (Ls'.set K ⟨q5, c5, over (pad x.l) (y.2.l.take 512)⟩) [] ⟨S.size, kept S.lasts ((S.waits.zip keep).take (i + 1)), [], -1, 0⟩ ∧ Below w.heap.size w (w5.setCell ⟨lg', K, none⟩ (.slice q5 512 c5))) := Lib.hid (by
              obtain ⟨q6, c6, e6, hu6, _⟩ := HU5.out
              rw [over_length (by rw [HPL.out, HTL.out]; exact HN5.out), HPL.out] at e6
              simp only [Value.slice.injEq, true_and] at e6
              obtain ⟨rfl, rfl⟩ := e6
              have h := ref_put (HI3.out.below HB5.out) (Nat.le_trans HB3.out.size HB5.out.size) HKL.out (x := ⟨q5, c5, over (pad x.l) (y.2.l.take 512)⟩) ⟨hu6, (by show (over _ _).length = 512; rw [over_length (by rw [HPL.out, HTL.out]; exact HN5.out)]; exact HPL.out), hc51, hc52⟩
              rw [HPUT.out]
              exact ⟨h.1, (HB3.out.trans (HB5.out.mono HB3.out.size)).trans h.2.1⟩)
            have he : (w5.setCell ⟨lg', K, none⟩ (.slice q5 512 c5)).drew = w5.drew.setCell ⟨lg', K, none⟩ (.slice q5 512 c5) := by first | rfl | exact (World.setCell_drew ..).symm | exact World.setCell_drew ..
            clear HC HCS HCB d0 d1 d2 l51 l52 he
            generalize (w5.setCell ⟨lg', K, none⟩ (.slice q5 512 c5)) = w6 at HP ⊢
            go_wp2
            go_roundw
            case rel => exact ⟨i + 1, by go_num, by have := HLT.h; omega, by have := HLT2.h; omega, _, HP.out.1, HP.out.2⟩
            case measure => have := HLT.h; simp [intOf]; omega
    · have hge : (decide ((i : Int) < (wn : Int)) = false ∧ decide (i < wn) = false) ∨ (decide ((i : Int) < (wn : Int)) = true ∧ decide (i < wn) = true ∧ decide ((i : Int) < (kn : Int)) = false ∧ decide (i < kn) = false) := by
        by_cases h' : i < wn
        · exact .inr ⟨decide_eq_true (by omega), decide_eq_true h', decide_eq_false (by omega), decide_eq_false (by omega)⟩
        · exact .inl ⟨decide_eq_false (by omega), decide_eq_false h'⟩
      have htk : (S.waits.zip keep).take i = S.waits.zip keep := List.take_of_length_le (by rw [List.length_zip, H.out.ws, List.length_map]; have := HM.out.wh; have := HKN.out; omega)
      rw [htk] at HI
      clear htk hI hlt
      rcases hge with ⟨hge, hgeN⟩ | ⟨hge, hgeN, hge2, hge2N⟩
      · go_wp2
        go_ret
        exact ⟨p', rfl, ⟨_, _, _, _, HI.out⟩, HB.out⟩
      · go_wp2
        go_ret
        exact ⟨p', rfl, ⟨_, _, _, _, HI.out⟩, HB.out⟩

end Go.Proofs.Ytholgkmlfgmhfaa
