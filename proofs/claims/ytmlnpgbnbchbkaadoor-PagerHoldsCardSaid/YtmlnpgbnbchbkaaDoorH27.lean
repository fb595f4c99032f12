/-
  pager: Keep.
  cobweblaw10.holds: the pages of a state are as they were.
  append of a slice that lies anywhere onto one of the call's own: ints and strings.
-/
import Derived.Test.YtmlnpgbnbchbkaaDoorH26
import Derived.BigQuiet
set_option linter.unusedVariables false
set_option maxRecDepth 100000
namespace Go.Proofs.YtmlnpgbnbchbkaaDoor
open Go.RowKit

/-- Whole numbers that stay while a pager changes. -/
def GKs (w : World) (B : Nat) (q : Option Addr) (l : List Int) : Prop := ∀ w', Below B w w' → Keeps ofGr w w' → Ks w' q l
theorem GKs.on {w w' : World} {B : Nat} {q : Option Addr} {l : List Int} (h : GKs w B q l) (h1 : Below B w w') (h2 : Keeps ofGr w w') : GKs w' B q l := fun w2 h3 h4 => h w2 (h1.trans h3) (h2.trans h4)
theorem GKs.nil (w : World) (B : Nat) (q : Option Addr) : GKs w B q [] := fun _ _ _ => Ks.nil _ _
theorem Lie.cell_ {B : Nat} {w : World} {b o n c : Nat} {l : List Int} (h : Lie B w (.slice (some ⟨b, o, none⟩) n c) l) {i : Nat} {x : Int} (hx : l[i]? = some x) : w.cell? ⟨b, o + i, none⟩ = some (.int .i64 x) := by
  obtain ⟨b', o', hq, hc⟩ := h.at hx
  cases hq
  exact hc
theorem Lie.gks {C B : Nat} {w : World} {q : Option Addr} {n c : Nat} {l : List Int} (h : Lie C w (.slice q n c) l) : GKs w B q l := fun w' _ hk hne => by
  have h' := h.stay (Stay.keeps hk)
  obtain ⟨x, hx⟩ : ∃ x, l[0]? = some x := by
    cases l with
    | nil => exact absurd rfl hne
    | cons x l => exact ⟨x, rfl⟩
  obtain ⟨b, o, hq, _⟩ := h'.at hx
  subst hq
  exact ⟨b, o, rfl, fun i x hx => h'.cell_ hx⟩

/-- These pages are taken. -/
def FL.takes (F : FL) (l : List Int) : FL := l.foldl FL.take F
theorem FL.takes_snoc (F : FL) (l : List Int) (k : Int) : F.takes (l ++ [k]) = (F.takes l).take k := by simp [FL.takes, List.foldl_append]
theorem FL.takes_used (F : FL) (l : List Int) (x : Int) : (F.takes l).used x = (F.used x || l.contains x) ∧ (F.takes l).waits x = F.waits x ∧ (F.takes l).lo = F.lo ∧ (F.takes l).hi = F.hi := by
  induction l generalizing F with
  | nil => simp [FL.takes]
  | cons y l ih =>
    obtain ⟨h1, h2, h3, h4⟩ := ih (F.take y)
    have e : F.takes (y :: l) = (F.take y).takes l := rfl
    rw [e, h1, h2, h3, h4]
    refine ⟨?_, rfl, rfl, rfl⟩
    simp only [FL.take, List.contains_cons]
    by_cases hx : x = y
    · simp [hx]
    · have hb : (x == y) = false := by simpa using hx
      simp [hx, hb]
theorem FL.takes_st {F : FL} {l : List Int} {k : Int} (h : F.st k = 1) (hk : k ∉ l) : (F.takes l).st k = 1 := by
  obtain ⟨h1, h2, h3, h4⟩ := FL.free_used h
  obtain ⟨u1, u2, u3, u4⟩ := F.takes_used l k
  have hh : (F.takes l).has k = true := FL.has_iff.2 (by rw [u3, u4]; exact ⟨h3, h4⟩)
  unfold FL.st
  rw [if_pos hh, u1, u2, h1, h2]
  simp [hk]

section
variable {w w' : World} {B P pd lm fm pl um wm la : Nat} {v : Value} {X : PG}

set_option maxHeartbeats 3200000 in
theorem grKeep (h : GrIs w B P pd lm fm pl um wm la v X) (hk : X.kept = false) (hl : X.laid = false) {q : Option Addr} {n c : Nat} {l : List Int} (hq : GKs w B q l) (hn : n = l.length) (hmax : n ≤ 9223372036854775807) (hnd : l.Nodup) (hfr : ∀ k ∈ l, X.F.st k = 1) :
    Calls Tryd.prog 7 #[.pointer (some ⟨P, 0, none⟩), .slice q n c] w fun e w' => e = .returned (.int .i64 0) ∧ GrStep w w' B P pd { X with kept := true, F := X.F.takes l } := by
  have HM := Lib.hid h.made
  have c8 := h.c8
  have c9 := h.c9
  rw [hk] at c8
  rw [hl] at c9
  have uf := h.soft
  have HQ := Lib.hid hq
  have HN := Lib.hid hn
  have HND := Lib.hid hnd
  have HFR := Lib.hid hfr
  have HBS := Lib.hid h.base
  have H0 : Hid (∀ w0, w0 = w.setCell ⟨P, 8, none⟩ (.bool true) → GrIs w0 B P pd lm fm pl um wm la v { X with kept := true } ∧ Below B w w0 ∧ Keeps ofGr w w0) := Lib.hid (by
    rintro w0 rfl
    obtain ⟨b1, g1⟩ := cell_set (i := 8) (v := .bool true) h.blk
    obtain ⟨q1, q2, q3⟩ := h.onOwn (Y := { X with kept := true }) (v' := v) (by simpa [grCells] using b1) g1 h.pins rfl rfl rfl h.g0
    exact ⟨q1, q2, q3.mono isPager_ofGr⟩)
  clear h hq hn hnd hfr
  go_enter Tryd.func7, Tryd.ntmps7
  go_wp2_with fail
  refine HM.out.mono ?_; rintro e w1 ⟨rfl, rfl⟩
  have HG0 := Lib.hid (H0.out _ rfl)
  go_wp2
  obtain ⟨W0, hW0⟩ : ∃ W0, W0 = w.setCell ⟨P, 8, none⟩ (.bool true) := ⟨_, rfl⟩
  rw [← hW0] at HG0 ⊢
  clear hW0
  go_loopw [23] (fun i wr => ∃ j : Nat, i = .int .i64 j ∧ j ≤ n ∧ GrIs wr B P pd lm fm pl um wm la v { X with kept := true, F := X.F.takes (l.take j) } ∧ Below B w wr ∧ Keeps ofGr w wr) (fun i _ => n - (intOf i).toNat)
  case atStart => exact ⟨0, rfl, by omega, HG0.out.1, HG0.out.2.1, HG0.out.2.2⟩
  case round =>
    obtain ⟨j, rfl, hj, hI, hb, hkk⟩ := hrel
    have HI := Lib.hid hI
    have HB := Lib.hid hb
    have HK := Lib.hid hkk
    have c1 := hI.c1
    clear hI hb hkk
    by_cases hlt : j < n
    · have hjl : j < l.length := by have := HN.out; omega
      obtain ⟨x, hx⟩ : ∃ x, l[j]? = some x := ⟨_, List.getElem?_eq_getElem hjl⟩
      obtain ⟨b, o, rfl, hc⟩ := (HQ.out wr HB.out HK.out).at hx
      have hxm : x ∈ l := List.mem_of_getElem? hx
      have hxn : x ∉ l.take j := by
        intro hm
        have hd := HND.out
        rw [← List.take_append_drop j l] at hd
        obtain ⟨_, _, hd⟩ := List.nodup_append.1 hd
        exact hd x hm x (List.mem_of_getElem? (i := 0) (by rw [List.getElem?_drop]; exact hx)) rfl
      have hus := frUse_yes HI.out.list (k := x) (FL.takes_st (HFR.out x hxm) hxn)
      have et : (X.F.takes (l.take j)).take x = X.F.takes (l.take (j + 1)) := by rw [List.take_add_one, hx, Option.toList_some, FL.takes_snoc]
      change Calls _ _ _ _ (FrStep wr pl um wm ((X.F.takes (l.take j)).take x) (.int .i64 0)) at hus
      rw [et] at hus
      have HUS := Lib.hid hus
      have hj0 : (0 : Int) ≤ (j : Int) := by omega
      have hj1 : (j : Int) < (n : Int) := by omega
      clear hx hxm hxn hus et
      go_wp2_with fail
      refine HUS.out.mono ?_; rintro e w2 ⟨rfl, hfr, hon⟩
      obtain ⟨q1, q2, q3⟩ := HI.out.onList hfr hon
      have Q1 := Lib.hid q1
      have Q2 := Lib.hid (HB.out.trans q2)
      have Q3 := Lib.hid (HK.out.trans (q3.mono isMaps_ofGr))
      clear hfr hon q1 q2 q3 hc c1
      go_wp2
      go_roundw
      case rel => exact ⟨j + 1, by go_num, by omega, Q1.out, Q2.out, Q3.out⟩
      case measure => simp [intOf]; omega
    · have hjn : j = n := by omega
      have HE : Hid (l.take j = l) := Lib.hid (List.take_of_length_le (by have := HN.out; omega))
      subst hjn
      go_wp2
      go_ret
      have h := HI.out
      rw [HE.out] at h
      exact ⟨rfl, ⟨lm, fm, pl, um, wm, la, v, h⟩, HB.out, HK.out⟩
end

end Go.Proofs.YtmlnpgbnbchbkaaDoor

set_option linter.unusedVariables false
set_option maxRecDepth 100000
namespace Go.Proofs.YtmlnpgbnbchbkaaDoor
open Go.RowKit

theorem ofGr_str (i : Nat) (c : Array Value) (f : Nat × Nat) : ofGr i (.cells c 9 f) = false := by
  show ((9 : TypeId) == 86 || (9 : TypeId) == 94 || (9 : TypeId) == 71 || (9 : TypeId) == 82) = false
  decide

/-- Strings that lie in blocks below B. -/
def LieS (B : Nat) (w : World) (v : Value) (l : List ByteArray) : Prop := ∃ q c, v = .slice q l.length c ∧ l.length ≤ c ∧ c ≤ 9223372036854775807 ∧ ∀ i x, l[i]? = some x → ∃ b o cs fr, q = some ⟨b, o, none⟩ ∧ b < B ∧ w.heap[b]? = some (.cells cs 9 fr) ∧ cs[o + i]? = some (.string x)
theorem LieS.stay {B : Nat} {w w' : World} {v : Value} {l : List ByteArray} (h : LieS B w v l) (hs : Stay B w w') : LieS B w' v l := by
  obtain ⟨q, c, hv, hc, hm, h1⟩ := h
  refine ⟨q, c, hv, hc, hm, fun i x hx => ?_⟩
  obtain ⟨b, o, cs, fr, h2, h3, h4, h5⟩ := h1 i x hx
  exact ⟨b, o, cs, fr, h2, h3, hs.stay h3 h4 (ofGr_str _ _ _), h5⟩
theorem LieS.mono {B B' : Nat} {w : World} {v : Value} {l : List ByteArray} (h : LieS B w v l) (hB : B ≤ B') : LieS B' w v l := by
  obtain ⟨q, c, hv, hc, hm, h1⟩ := h
  refine ⟨q, c, hv, hc, hm, fun i x hx => ?_⟩
  obtain ⟨b, o, cs, fr, h2, h3, h4⟩ := h1 i x hx
  exact ⟨b, o, cs, fr, h2, by omega, h4⟩
theorem LieS.form {B : Nat} {w : World} {v : Value} {l : List ByteArray} (h : LieS B w v l) : ∃ q n c, v = .slice q n c ∧ n = l.length ∧ n ≤ c ∧ c ≤ 9223372036854775807 := by
  obtain ⟨q, c, hv, hc, hm, _⟩ := h
  exact ⟨q, _, c, hv, rfl, hc, hm⟩
theorem LieS.at {B : Nat} {w : World} {q : Option Addr} {n c : Nat} {l : List ByteArray} (h : LieS B w (.slice q n c) l) {i : Nat} {x : ByteArray} (hx : l[i]? = some x) : ∃ b o, q = some ⟨b, o, none⟩ ∧ w.cell? ⟨b, o + i, none⟩ = some (.string x) := by
  obtain ⟨q', c', hv, _, _, h1⟩ := h
  cases hv
  obtain ⟨b, o, cs, fr, h2, _, h4, h5⟩ := h1 i x hx
  exact ⟨b, o, h2, by rw [Joins.cell_of_block h4]; exact h5⟩

/-- A page, and what is in it. -/
structure Page where
  no : Nat
  b : List UInt8

/-- The pages of a state are there: in use or waiting, and as they were. -/
def PagesIn (X : PG) (ps : List Page) : Prop := ∀ x ∈ ps, (x.no : Int) < X.S.size ∧ x.b.length ≤ 493 ∧ ∃ gen, gen ≤ 1152921504606846976 ∧ X.S.read x.no = pageB 5 x.no gen x.b ∧ X.F.st x.no ≠ 0
def pnos (ps : List Page) : List Int := ps.map fun x => (x.no : Int)
def pstr (ps : List Page) : List ByteArray := ps.map fun x => ⟨x.b.toArray⟩

set_option maxHeartbeats 6400000 in
theorem holds_any {w : World} (hT : Tab w) {B P pd lm fm pl um wm la : Nat} {v : Value} {X : PG} (h : GrIs w B P pd lm fm pl um wm la v X) {ps : List Page} (hp : PagesIn X ps) {C : Nat} {q1 q2 : Option Addr} {n1 c1 n2 c2 : Nat} (h1 : Lie C w (.slice q1 n1 c1) (pnos ps)) (h2 : LieS C w (.slice q2 n2 c2) (pstr ps)) (rt : Int) :
    Calls Tryd.prog 18 #[.pointer (some ⟨P, 0, none⟩), .agg #[.slice q1 n1 c1, .slice q2 n2 c2, .int .i64 rt]] w fun e w' => e = .returned (.bool true) ∧ Below w.heap.size w w' := by
  obtain ⟨W, hW⟩ : ∃ W, W = w.alloc (.cells #[.slice q1 n1 c1, .slice q2 n2 c2, .int .i64 rt] 35) := ⟨_, rfl⟩
  have hb : Below w.heap.size w W := by rw [hW]; exact sbox1 w _
  have hx : W.heap[w.heap.size]? = some (.cells #[.slice q1 n1 c1, .slice q2 n2 c2, .int .i64 rt] 35 (0, 0)) := by rw [hW]; exact heap_alloc_new w _
  have HBX : Hid (∀ w', Below W.heap.size W w' → w'.cell? ⟨w.heap.size, 0, none⟩ = some (.slice q1 n1 c1) ∧ w'.cell? ⟨w.heap.size, 1, none⟩ = some (.slice q2 n2 c2)) := Lib.hid fun w' hb' => by
    have hx' : w'.heap[w.heap.size]? = _ := (hb'.block _ (Array.getElem?_eq_some_iff.1 hx).1).trans hx
    exact ⟨(Joins.cell_of_block hx' 0).trans rfl, (Joins.cell_of_block hx' 1).trans rfl⟩
  have HB := Lib.hid hb
  have HN1 : Hid (n1 = ps.length) := Lib.hid (by obtain ⟨_, _, hv, _⟩ := h1; cases hv; simp [pnos])
  have HN2 : Hid (n2 = ps.length) := Lib.hid (by obtain ⟨_, _, hv, _⟩ := h2; cases hv; simp [pstr])
  have HM1 : Hid (n1 ≤ 9223372036854775807 ∧ n2 ≤ 9223372036854775807) := Lib.hid (by
    obtain ⟨_, _, hv, hc, hm, _⟩ := h1
    cases hv
    obtain ⟨_, _, hv, hc2, hm2, _⟩ := h2
    cases hv
    exact ⟨by omega, by omega⟩)
  have H := Lib.hid h
  have HP := Lib.hid hp
  have HL1 := Lib.hid h1
  have HL2 := Lib.hid h2
  have HT := Lib.hid hT
  have hm1 := HM1.out.1
  have hm2 := HM1.out.2
  clear h hp h1 h2 hT hx hb
  go_enter Tryd.func18, Tryd.ntmps18
  go_wp2
  rw [← hW]
  clear hW
  go_loopw [5] (fun i wr => ∃ j : Nat, i = .int .i64 j ∧ j ≤ n1 ∧ Below W.heap.size W wr) (fun i _ => n1 - (intOf i).toNat)
  case atStart => exact ⟨0, rfl, by omega, Below.refl _ _⟩
  case round =>
    obtain ⟨j, rfl, hj, hb⟩ := hrel
    obtain ⟨x0, x1⟩ := HBX.out _ hb
    have HBr := Lib.hid hb
    clear hb
    by_cases hlt : j < n1
    · have hjp : j < ps.length := by have := HN1.out; omega
      obtain ⟨pg, hpg⟩ : ∃ pg, ps[j]? = some pg := ⟨_, List.getElem?_eq_getElem hjp⟩
      obtain ⟨k1, k2, gen, k3, k4, k5⟩ := HP.out pg (List.mem_of_getElem? hpg)
      have hbw := HB.out.trans (HBr.out.mono HB.out.size)
      obtain ⟨b1, o1, rfl, hc1⟩ := (HL1.out.stay (Stay.below hbw)).at (i := j) (x := (pg.no : Int)) (by unfold pnos; rw [List.getElem?_map, hpg]; rfl)
      have hrd := grRead (k := pg.no) (kind := 5) (gen := gen) (l := pg.b) (HT.out.below HT.out.lt hbw) (H.out.below hbw) k5 k1 k4 k2 k3
      have HRD := Lib.hid hrd
      obtain ⟨no, hno⟩ : ∃ no : Int, no = (pg.no : Int) := ⟨_, rfl⟩
      rw [← hno] at hc1 HRD
      have HPG := Lib.hid hpg
      have HK2 := Lib.hid k2
      have HBW := Lib.hid hbw
      have hj0 : (0 : Int) ≤ (j : Int) := by omega
      have hj1 : (j : Int) < (n1 : Int) := by omega
      clear hrd hno hpg k1 k2 k3 k4 k5 hbw
      go_wp2_with fail
      refine HRD.out.mono ?_; rintro e w2 ⟨v2, rfl, ho, hb2⟩
      obtain ⟨q, c, rfl, hqc, hqm, hbs, _⟩ := ho.form (n := pg.b.length) rfl
      obtain ⟨str, hstr⟩ : ∃ str : ByteArray, str = ⟨pg.b.toArray⟩ := ⟨_, rfl⟩
      have hcv : ∀ k, (convert 37 9 (.slice q pg.b.length c)).run Tryd.prog (w2.drewN k) = .ok (.string str) (w2.drewN k) := fun k => by rw [hstr]; exact str_of (hbs.drewN k) rfl
      have hbw2 := HBW.out.trans (hb2.mono HBW.out.size)
      obtain ⟨b2, o2, rfl, hc2⟩ := (HL2.out.stay (Stay.below hbw2)).at (i := j) (x := str) (by unfold pstr; rw [List.getElem?_map, HPG.out, hstr]; rfl)
      obtain ⟨y0, y1⟩ := HBX.out _ (HBr.out.trans (hb2.mono HBr.out.size))
      have HB3 := Lib.hid (HBr.out.trans (hb2.mono HBr.out.size))
      have hj2 : (j : Int) < (n2 : Int) := by have := HN1.out; have := HN2.out; omega
      obtain ⟨m, hm⟩ : ∃ m, m = pg.b.length := ⟨_, rfl⟩
      rw [← hm] at hcv ⊢
      clear ho hb2 hbs hbw2 hstr hc1 x0 x1 hm
      go_wp2_with fail
      go_quiet (fail)
      go_wp2
      go_roundw
      case rel => exact ⟨j + 1, by go_num, by omega, belowN HB3.out _⟩
      case measure => simp [intOf]; omega
    · go_wp2
      go_ret
      exact ⟨rfl, HB.out.trans (HBr.out.mono HB.out.size)⟩

end Go.Proofs.YtmlnpgbnbchbkaaDoor

set_option linter.unusedVariables false
set_option maxRecDepth 100000
namespace Go.Proofs.YtmlnpgbnbchbkaaDoor
open Go.RowKit

theorem run_append_onto_none {P : Program} {w : World} (base : Nat) (t ty e : TypeId) (i : TypeInfo) (size c : Nat) (ht : P.underlying t = some (.slice e)) (hi : P.info? e = some i)
    (v : Value) (n : Nat) (xs : List Value) (hown : w.ownsRow base e size v n xs) :
    (Builtin.append_ #[t, t] ty #[v, .slice none 0 c]).run P w = .ok v w := by
  rcases hown.2 with ⟨rfl, rfl⟩ | ⟨g, cap, cur, rfl, _, _, hnc, _⟩
  · simp [Builtin.append_, run_underlying ht, sizeOf, typeInfo, hi, Builtin.lenOf, Builtin.firstCells]
  · simp [Builtin.append_, run_underlying ht, sizeOf, typeInfo, hi, Builtin.lenOf, Builtin.firstCells, hnc, storeCells]

/-- The law. -/
theorem run_appG {w : World} (ty t e : TypeId) (i : TypeInfo) (z : Value) (bytes : Nat) (ht : Tryd.prog.underlying t = some (.slice e)) (hi : Tryd.prog.info? e = some i) (hz : i.zero = some z) (hs : i.size = 1) (hb : i.bytes = bytes) (hzs : z.cells.size = 1) (h8 : bytes ≤ 16)
    {B : Nat} {v : Value} {n : Nat} {xs : List Value} (hown : w.ownsRow B e 1 v n xs) {q : Option Addr} {m c : Nat} {news : List Value} (hl : news.length = m) (hsrc : ∀ (j : Nat) u, news[j]? = some u → ∃ b o, q = some ⟨b, o, none⟩ ∧ w.cell? ⟨b, o + j, none⟩ = some u) (h1 : ∀ u ∈ news, u.oneCell' = true) (hlen : n + m ≤ 1000000000) (hB : B ≤ w.heap.size) :
    ∃ v' w', (Builtin.append_ #[t, t] ty #[v, .slice q m c]).run Tryd.prog w = .ok v' w' ∧ w'.ownsRow B e 1 v' (n + m) (xs ++ news) ∧ w.grownBy w' v.ownBlock := by
  cases q with
  | none =>
    obtain rfl : news = [] := by
      rcases news with _ | ⟨u, news⟩
      · rfl
      · obtain ⟨b, o, hp, _⟩ := hsrc 0 u rfl
        cases hp
    obtain rfl : m = 0 := hl.symm
    refine ⟨v, w, run_append_onto_none B t ty e i 1 c ht hi v n xs hown, by simpa using hown, ⟨rfl, rfl, rfl, Nat.le_refl _, fun _ _ _ => rfl⟩⟩
  | some ad =>
    have hcells : ∀ j u, news[j]? = some u → w.cell? (ad.add j) = some u := by
      intro j u hj
      obtain ⟨b, o, hp, hc⟩ := hsrc j u hj
      obtain rfl := Option.some.inj hp
      rw [Addr.add_lit]
      exact hc
    have hby : (n + m) * bytes ≤ 140737488355328 := Nat.le_trans (Nat.mul_le_mul hlen h8) (by decide)
    obtain ⟨v', w', hr, h2, h3, _⟩ := run_append_own (P := Tryd.prog) w B t ty e i z 1 bytes ht hi hz hs hb hzs (by decide) v n xs hown ad m c news (by omega) hcells h1 (by simp only [maxLen]; omega) hby hB
    exact ⟨v', w', hr, h2, h3⟩

/-- Two rows of different kinds are two blocks. -/
theorem own_apart {w : World} {B B' : Nat} {e e' : TypeId} {v v' : Value} {n n' : Nat} {xs xs' : List Value} (h : w.ownsRow B e 1 v n xs) (h' : w.ownsRow B' e' 1 v' n' xs') (hne : e ≠ e') : v.ownBlock = none ∨ v.ownBlock ≠ v'.ownBlock := by
  rcases h.2 with ⟨rfl, _⟩ | ⟨g, cap, cur, rfl, _, hg, _⟩
  · exact .inl rfl
  · rcases h'.2 with ⟨rfl, _⟩ | ⟨g', cap', cur', rfl, _, hg', _⟩
    · exact .inr (by intro e; cases e)
    · refine .inr fun e => ?_
      have e2 : g = g' := Option.some.inj e
      subst e2
      rw [hg] at hg'
      cases hg'
      exact hne rfl

theorem info_str : (Tryd.prog.info? 9).map (fun i => (i.zero, i.size, i.bytes)) = some (some (.string ⟨#[]⟩), 1, 16) := by kernel_rfl

def strs (l : List ByteArray) : List Value := l.map fun x => .string x
def OwnS (w : World) (B : Nat) (v : Value) (l : List ByteArray) : Prop := w.ownsRow B 9 1 v l.length (strs l)
theorem OwnS.nil (w : World) (B : Nat) : OwnS w B (.slice none 0 0) [] := World.ownsRow_nil w B _ _
theorem OwnS.kept {w w' : World} {B : Nat} {v : Value} {l : List ByteArray} {row : Option Nat} (h : OwnS w B v l) (hg : w.grownBy w' row) (hr : v.ownBlock = none ∨ v.ownBlock ≠ row) : OwnS w' B v l := World.ownsRow.kept h hg hr
theorem OwnS.below {w w' : World} {B : Nat} {v : Value} {l : List ByteArray} (h : OwnS w B v l) (hb : Below w.heap.size w w') : OwnS w' B v l :=
  h.kept (row := none) ⟨hb.os, hb.tape, hb.output, hb.size, fun k hk _ => hb.block k hk⟩ (by cases h0 : v.ownBlock with | none => exact .inl rfl | some b => exact .inr (by simp))
theorem OwnS.lie {w : World} {B : Nat} {v : Value} {l : List ByteArray} (h : OwnS w B v l) : LieS w.heap.size w v l := by
  rcases h.2 with ⟨rfl, h0⟩ | ⟨g, cap, cur, rfl, hb, hg, hnc, hcm, hcs, htake⟩
  · obtain rfl := List.eq_nil_of_length_eq_zero h0
    exact ⟨none, 0, rfl, Nat.le_refl _, by omega, fun i x hx => by simp at hx⟩
  · refine ⟨some ⟨g, 0, none⟩, cap, rfl, hnc, by unfold maxLen at hcm; omega, fun i x hx => ⟨g, 0, cur, (0, 0), rfl, (Array.getElem?_eq_some_iff.1 hg).1, hg, ?_⟩⟩
    have h1 := h.cells (g := g) rfl i (.string x) (by simp [strs, hx])
    rw [Addr.add_lit, Nat.zero_add, Joins.cell_of_block hg] at h1
    rw [Nat.zero_add]
    exact h1
theorem OwnS.keepsG {w w' : World} {B : Nat} {v : Value} {l : List ByteArray} (h : OwnS w B v l) (hk : Keeps ofGr w w') : OwnS w' B v l := by
  refine ⟨h.1, ?_⟩
  rcases h.2 with h0 | ⟨g, cap, cur, hv, h1, hg, h2⟩
  · exact .inl h0
  · exact .inr ⟨g, cap, cur, hv, h1, hk.stay hg (ofGr_str _ _ _), h2⟩

/-- []T{}: a block of no cells. -/
theorem OwnI.made {w : World} {B : Nat} (hB : B ≤ w.heap.size) : OwnI (w.alloc (.cells #[] 3)) B (.slice (some ⟨w.heap.size, 0, none⟩) 0 0) [] :=
  ⟨rfl, .inr ⟨_, 0, #[], rfl, hB, heap_alloc_new w _, Nat.le_refl 0, by unfold maxLen; omega, rfl, rfl⟩⟩
theorem OwnS.made {w : World} {B : Nat} (hB : B ≤ w.heap.size) : OwnS (w.alloc (.cells #[] 9)) B (.slice (some ⟨w.heap.size, 0, none⟩) 0 0) [] :=
  ⟨rfl, .inr ⟨_, 0, #[], rfl, hB, heap_alloc_new w _, Nat.le_refl 0, by unfold maxLen; omega, rfl, rfl⟩⟩

/-- append(ints, ints...), as a step of a region that draws its order. -/
theorem step_appI {w : World} {ops : Array Oper} {o : Oper} {a : Act} {K : Act → World → Prop} {Q : Exit → Act → World → Prop} {E : Prop} (hg : o.guard = none) (s x : Operand)
    (ho : o.op = .call { callee := .builtin .append, args := #[s, x], argTypes := #[23, 23] })
    {B C : Nat} {v : Value} {l m : List Int} (hs : a.eval s = v) (hown : OwnI w B v l) {q : Option Addr} {n c : Nat} (hx : a.eval x = .slice q n c) (hsrc : Lie C w (.slice q n c) m) (hlen : l.length + m.length ≤ 1000000000) (hB : B ≤ w.heap.size)
    (h : ∀ v' w', OwnI w' B v' (l ++ m) → w.grownBy w' v.ownBlock → K (a.put o.dst v') w') : if Region.wanted o (yielded ops a.tmps) = true then Oper.wp Tryd.prog o a w K Q else E := by
  have hw : Region.wanted o (yielded ops a.tmps) = true := by simp [Region.wanted, hg]
  rw [if_pos hw]
  obtain ⟨i, hi, hz0, hz1, hz2⟩ := info_parts info_int
  obtain ⟨v', w', hr, h1, h2⟩ := run_appG (w := w) o.type 23 3 i (.int .i64 0) 8 Tryd.underlying23 hi hz0 hz1 hz2 rfl (by decide) hown (q := q) (m := n) (c := c) (news := i64s m) (by obtain ⟨_, _, hv, _⟩ := hsrc; cases hv; simp [i64s]) (fun j u hj => by
    unfold i64s at hj
    rw [List.getElem?_map] at hj
    cases hm : m[j]? with
    | none => rw [hm] at hj; cases hj
    | some y => rw [hm] at hj; cases hj; exact hsrc.at hm) (fun u hu => by unfold i64s at hu; obtain ⟨y, _, rfl⟩ := List.mem_map.1 hu; rfl) (by obtain ⟨_, _, hv, _⟩ := hsrc; cases hv; exact hlen) hB
  refine Lib.wp_append_run w s x 23 23 ho v _ hs hx v' w' hr (h v' w' ?_ h2)
  unfold OwnI
  have hn : n = m.length := by obtain ⟨_, _, hv, _⟩ := hsrc; cases hv; rfl
  rw [List.length_append, ← hn]
  simpa [i64s] using h1

/-- append(strings, strings...), as a step of a region that draws its order. -/
theorem step_appS {w : World} {ops : Array Oper} {o : Oper} {a : Act} {K : Act → World → Prop} {Q : Exit → Act → World → Prop} {E : Prop} (hg : o.guard = none) (s x : Operand)
    (ho : o.op = .call { callee := .builtin .append, args := #[s, x], argTypes := #[33, 33] })
    {B C : Nat} {v : Value} {l m : List ByteArray} (hs : a.eval s = v) (hown : OwnS w B v l) {q : Option Addr} {n c : Nat} (hx : a.eval x = .slice q n c) (hsrc : LieS C w (.slice q n c) m) (hlen : l.length + m.length ≤ 1000000000) (hB : B ≤ w.heap.size)
    (h : ∀ v' w', OwnS w' B v' (l ++ m) → w.grownBy w' v.ownBlock → K (a.put o.dst v') w') : if Region.wanted o (yielded ops a.tmps) = true then Oper.wp Tryd.prog o a w K Q else E := by
  have hw : Region.wanted o (yielded ops a.tmps) = true := by simp [Region.wanted, hg]
  rw [if_pos hw]
  obtain ⟨i, hi, hz0, hz1, hz2⟩ := info_parts info_str
  obtain ⟨v', w', hr, h1, h2⟩ := run_appG (w := w) o.type 33 9 i (.string ⟨#[]⟩) 16 Tryd.underlying33 hi hz0 hz1 hz2 rfl (by decide) hown (q := q) (m := n) (c := c) (news := strs m) (by obtain ⟨_, _, hv, _⟩ := hsrc; cases hv; simp [strs]) (fun j u hj => by
    unfold strs at hj
    rw [List.getElem?_map] at hj
    cases hm : m[j]? with
    | none => rw [hm] at hj; cases hj
    | some y => rw [hm] at hj; cases hj; exact hsrc.at hm) (fun u hu => by unfold strs at hu; obtain ⟨y, _, rfl⟩ := List.mem_map.1 hu; rfl) (by obtain ⟨_, _, hv, _⟩ := hsrc; cases hv; exact hlen) hB
  refine Lib.wp_append_run w s x 33 33 ho v _ hs hx v' w' hr (h v' w' ?_ h2)
  unfold OwnS
  have hn : n = m.length := by obtain ⟨_, _, hv, _⟩ := hsrc; cases hv; rfl
  rw [List.length_append, ← hn]
  simpa [strs] using h1

end Go.Proofs.YtmlnpgbnbchbkaaDoor

