/-
  What a disk has behind a crash, plain: a commit, ahead of the next one, and in it.
  What stays true of a pager, plain: what was committed, what is now, and what is pinned.
-/
import Derived.Test.YtmlnpgbnbchbkaaDoorGrFound
set_option linter.unusedVariables false
set_option maxRecDepth 100000
namespace Go.Proofs.YtmlnpgbnbchbkaaDoor
open Go.RowKit

theorem kept_other {f : Int → List UInt8} {k : Int} : ∀ l : List (Wr × Int), (∀ p ∈ l, p.1.k ≠ k) → kept f l k = f k := by
  have : ∀ l : List (Wr × Int), (∀ p ∈ l, p.1.k ≠ k) → kept f l.reverse k = f k := by
    intro l
    induction l with
    | nil => intro _; rfl
    | cons x l ih =>
      intro h
      rw [List.reverse_cons, kept_snoc]
      unfold keepOne
      split
      · exact ih fun y hy => h y (by simp [hy])
      · unfold putAt
        rw [if_neg (fun e => h x (by simp) e.symm)]
        exact ih fun y hy => h y (by simp [hy])
  intro l h
  have h' := this l.reverse (fun p hp => h p (by simpa using hp))
  rwa [List.reverse_reverse] at h'

theorem crash_read (S : SD) (keep : List Int) (k : Int) : (S.crash keep).read k = kept S.lasts (S.waits.zip keep) k := rfl
theorem crash_other {S : SD} {keep : List Int} {k : Int} (h : ∀ x ∈ S.waits, x.k ≠ k) : (S.crash keep).read k = S.lasts k := by
  rw [crash_read]
  exact kept_other _ fun p hp => h p.1 (List.of_mem_zip (show (p.1, p.2) ∈ _ from hp)).1

/-- What lasts: a commit's Meta, an elder one beside it, its pages; what waits is none of these. -/
structure DInv (S : SD) (g r n d : Nat) (done : List Page) : Prop where
  ok : S.Ok
  size : 4 ≤ S.size
  right : MRight g r n d
  rs : (r : Int) < S.size
  m1 : S.lasts ((g % 2 : Nat) : Int) = mPage g r n d
  m2 : ∃ g' r' n' d' : Nat, MRight g' r' n' d' ∧ g = g' + 1 ∧ S.lasts ((g' % 2 : Nat) : Int) = mPage g' r' n' d'
  ws : ∀ x ∈ S.waits, 2 ≤ x.k ∧ x.k ∉ pnos done
  nd : (pnos done).Nodup
  pg : ∀ x ∈ done, 2 ≤ x.no ∧ (x.no : Int) < S.size ∧ x.b.length ≤ 493 ∧ ∃ gen, gen ≤ 1152921504606846976 ∧ S.lasts x.no = pageB 5 x.no gen x.b

/-- Behind a crash ahead of the next commit. -/
theorem DInv.found {S : SD} {g r n d : Nat} {done : List Page} (h : DInv S g r n d done) (keep : List Int) : FoundOn (S.crash keep) g r n d done := by
  obtain ⟨g', r', n', d', q1, q2, q3⟩ := h.m2
  have hno : (((g + 1) % 2 : Nat) : Int) = ((g' % 2 : Nat) : Int) := by omega
  refine ⟨rfl, rfl, ⟨h.size, h.ok.s2⟩, h.right, h.rs, ?_, ?_, h.nd, fun x hx => ?_⟩
  · rw [crash_other fun x hx => by have := (h.ws x hx).1; omega]
    exact h.m1
  · rw [crash_other fun x hx => by have := (h.ws x hx).1; omega, hno, q3]
    obtain ⟨_, e, _⟩ := page_is q1 (no := ((g' % 2 : Nat) : Int)) rfl
    rw [e]
    omega
  · obtain ⟨a1, a2, a3, gen, a4, a5⟩ := h.pg x hx
    refine ⟨a1, a2, a3, gen, a4, ?_⟩
    rw [crash_other fun y hy e => (h.ws y hy).2 (by rw [e]; exact mem_pnos.2 ⟨x, hx, rfl⟩)]
    exact a5

theorem flush_other {S : SD} {k : Int} (h : ∀ x ∈ S.waits, x.k ≠ k) : S.flush.lasts k = S.lasts k := by
  show flushed S.lasts S.waits k = _
  rw [read_flush, found_none h]
  rfl
theorem flush_lasts (S : SD) (k : Int) : S.flush.lasts k = S.read k := read_flush _ _ _

theorem SD.Ok.flush' {S : SD} (h : S.Ok) : S.flush.Ok := by
  refine ⟨h.s1, h.s2, fun k => ?_, by simp [SD.flush], ?_, ?_⟩
  · rw [flush_lasts]; exact h.read_len k
  · show ((([] : List Wr).length : Nat) : Int) ≤ S.ops + 1
    have := h.o1
    simp
    omega
  · show 0 ≤ S.ops + 1
    have := h.o1
    omega
theorem SD.Ok.write' {S : SD} (h : S.Ok) {k : Int} {b : List UInt8} (hk : 0 ≤ k ∧ k < S.size) (hb : b.length ≤ 512) : (S.write k b).Ok := by
  refine ⟨h.s1, h.s2, h.l, fun x hx => ?_, ?_, ?_⟩
  · rcases List.mem_append.1 hx with hx | hx
    · exact h.w x hx
    · obtain rfl := List.mem_singleton.1 hx
      exact ⟨pad_length hb, hk⟩
  · show ((S.waits ++ [_]).length : Int) ≤ S.ops + 1
    have := h.n
    rw [List.length_append]
    simp
    omega
  · show 0 ≤ S.ops + 1
    have := h.o1
    omega

/-- .. of a flush of what waited. -/
theorem DInv.flush {S : SD} {g r n d : Nat} {done : List Page} (h : DInv S g r n d done) : DInv S.flush g r n d done := by
  obtain ⟨g', r', n', d', q1, q2, q3⟩ := h.m2
  have hw : ∀ k : Int, k < 2 → S.flush.lasts k = S.lasts k := fun k hk => flush_other fun x hx => by have := (h.ws x hx).1; omega
  refine ⟨h.ok.flush', h.size, h.right, h.rs, by rw [hw _ (by omega)]; exact h.m1, ⟨g', r', n', d', q1, q2, by rw [hw _ (by omega)]; exact q3⟩, by simp [SD.flush], h.nd, fun x hx => ?_⟩
  obtain ⟨a1, a2, a3, gen, a4, a5⟩ := h.pg x hx
  refine ⟨a1, a2, a3, gen, a4, ?_⟩
  rw [flush_other fun y hy e => (h.ws y hy).2 (by rw [e]; exact mem_pnos.2 ⟨x, hx, rfl⟩)]
  exact a5

/-- .. of a page that is none of its. -/
theorem DInv.write {S : SD} {g r n d : Nat} {done : List Page} (h : DInv S g r n d done) {k : Nat} (hk : 2 ≤ k ∧ (k : Int) < S.size) (hn : (k : Int) ∉ pnos done) {b : List UInt8} (hb : b.length ≤ 512) : DInv (S.write k b) g r n d done := by
  refine ⟨h.ok.write' (by omega) hb, h.size, h.right, h.rs, h.m1, h.m2, fun x hx => ?_, h.nd, h.pg⟩
  rcases List.mem_append.1 hx with hx | hx
  · exact h.ws x hx
  · obtain rfl := List.mem_singleton.1 hx
    exact ⟨by show (2 : Int) ≤ (k : Int); omega, hn⟩

/-- Behind the next commit: all that Read tells lasts. -/
theorem DInv.commit {S : SD} {g r n d r2 n2 d2 : Nat} {done now : List Page} (h : DInv S g r n d done) (hr : MRight ((g + 1 : Nat) : Int) r2 n2 d2) (hrs : (r2 : Int) < S.size) (hnd : (pnos now).Nodup)
    (hpg : ∀ x ∈ now, 2 ≤ x.no ∧ (x.no : Int) < S.size ∧ x.b.length ≤ 493 ∧ ∃ gen, gen ≤ 1152921504606846976 ∧ S.read x.no = pageB 5 x.no gen x.b) :
    DInv ((S.flush.write (((g + 1) % 2 : Nat) : Int) (mPage (g + 1) r2 n2 d2)).flush) (g + 1) r2 n2 d2 now := by
  have hl : ∀ k, ((S.flush.write (((g + 1) % 2 : Nat) : Int) (mPage (g + 1) r2 n2 d2)).flush).lasts k = if k = (((g + 1) % 2 : Nat) : Int) then mPage (g + 1) r2 n2 d2 else S.read k := fun k => by
    rw [flush_lasts, SD.write_read, mPage_pad, SD.flush_read]
  refine ⟨((h.ok.flush').write' (by show (0 : Int) ≤ _ ∧ _ < S.size; have := h.size; omega) (by rw [mPage_length]; omega)).flush', h.size, hr, hrs, by rw [hl, if_pos rfl], ⟨g, r, n, d, h.right, rfl, ?_⟩, by simp [SD.flush], hnd, fun x hx => ?_⟩
  · rw [hl, if_neg (by omega), ← flush_lasts, flush_other fun x hx => by have := (h.ws x hx).1; omega]
    exact h.m1
  · obtain ⟨a1, a2, a3, gen, a4, a5⟩ := hpg x hx
    refine ⟨a1, a2, a3, gen, a4, ?_⟩
    rw [hl, if_neg (by omega)]
    exact a5

/-- A crash in the last flush of a commit: that one's, or the elder one's. -/
theorem DInv.torn {S : SD} {g r n d r2 n2 d2 : Nat} {done now : List Page} (h : DInv S g r n d done) (hr : MRight ((g + 1 : Nat) : Int) r2 n2 d2) (hrs : (r2 : Int) < S.size) (hnd : (pnos now).Nodup)
    (hpg : ∀ x ∈ now, 2 ≤ x.no ∧ (x.no : Int) < S.size ∧ x.b.length ≤ 493 ∧ ∃ gen, gen ≤ 1152921504606846976 ∧ S.read x.no = pageB 5 x.no gen x.b) (keep : List Int) :
    FoundOn ((S.flush.write (((g + 1) % 2 : Nat) : Int) (mPage (g + 1) r2 n2 d2)).crash keep) g r n d done ∨
    (FoundOn ((S.flush.write (((g + 1) % 2 : Nat) : Int) (mPage (g + 1) r2 n2 d2)).crash keep) (g + 1) r2 n2 d2 now ∧ FoundOn ((S.flush.write (((g + 1) % 2 : Nat) : Int) (mPage (g + 1) r2 n2 d2)).crash keep) (g + 1) r2 n2 d2 done) := by
  obtain ⟨g', r', n', d', q1, q2, q3⟩ := h.m2
  obtain ⟨C, hC⟩ : ∃ C, C = (S.flush.write (((g + 1) % 2 : Nat) : Int) (mPage (g + 1) r2 n2 d2)).crash keep := ⟨_, rfl⟩
  rw [← hC]
  have hno : (((g + 1) % 2 : Nat) : Int) = ((g' % 2 : Nat) : Int) := by omega
  have hF := h.flush
  have hoth : ∀ k : Int, k ≠ (((g + 1) % 2 : Nat) : Int) → C.read k = S.flush.lasts k := fun k hk => by
    rw [hC, crash_other fun x hx => ?_]
    · rfl
    · rcases List.mem_append.1 hx with hx | hx
      · cases hx
      · obtain rfl := List.mem_singleton.1 hx
        exact fun e => hk e.symm
  have hleft : C.left = -1 := by rw [hC]; rfl
  have hops : C.ops = 0 := by rw [hC]; rfl
  have hsz : C.size = S.size := by rw [hC]; rfl
  have hpd : ∀ x ∈ done, 2 ≤ x.no ∧ (x.no : Int) < C.size ∧ x.b.length ≤ 493 ∧ ∃ gen, gen ≤ 1152921504606846976 ∧ C.read x.no = pageB 5 x.no gen x.b := fun x hx => by
    obtain ⟨a1, a2, a3, gen, a4, a5⟩ := hF.pg x hx
    exact ⟨a1, by rw [hsz]; exact a2, a3, gen, a4, by rw [hoth _ (by omega)]; exact a5⟩
  have hpn : ∀ x ∈ now, 2 ≤ x.no ∧ (x.no : Int) < C.size ∧ x.b.length ≤ 493 ∧ ∃ gen, gen ≤ 1152921504606846976 ∧ C.read x.no = pageB 5 x.no gen x.b := fun x hx => by
    obtain ⟨a1, a2, a3, gen, a4, a5⟩ := hpg x hx
    exact ⟨a1, by rw [hsz]; exact a2, a3, gen, a4, by rw [hoth _ (by omega), flush_lasts]; exact a5⟩
  have hg1 : C.read ((g % 2 : Nat) : Int) = mPage g r n d := by rw [hoth _ (by omega)]; exact hF.m1
  have hold : S.flush.lasts (((g + 1) % 2 : Nat) : Int) = mPage g' r' n' d' := by rw [hno]; rw [flush_other fun x hx => by have := (h.ws x hx).1; omega]; exact q3
  -- the sector that was written
  have htorn : ∃ k, k ≤ 512 ∧ C.read (((g + 1) % 2 : Nat) : Int) = tornB (mPage (g + 1) r2 n2 d2) (mPage g' r' n' d') k := by
    rw [hC, crash_read]
    show ∃ k, k ≤ 512 ∧ kept S.flush.lasts (([⟨(((g + 1) % 2 : Nat) : Int), pad (mPage (g + 1) r2 n2 d2)⟩] : List Wr).zip keep) _ = _
    rw [mPage_pad]
    cases keep with
    | nil =>
      refine ⟨0, by omega, ?_⟩
      show S.flush.lasts (((g + 1) % 2 : Nat) : Int) = _
      unfold tornB
      rw [List.take_zero, List.drop_zero, List.nil_append]
      exact hold
    | cons x keep =>
      show ∃ k, k ≤ 512 ∧ keepOne S.flush.lasts ⟨(((g + 1) % 2 : Nat) : Int), mPage (g + 1) r2 n2 d2⟩ x _ = _
      unfold keepOne
      by_cases hx : x < 1
      · rw [if_pos hx]
        refine ⟨0, by omega, ?_⟩
        unfold tornB
        rw [List.take_zero, List.drop_zero, List.nil_append]
        exact hold
      · rw [if_neg hx]
        unfold putAt
        rw [if_pos rfl, hold]
        refine ⟨(min x 512).toNat, by omega, ?_⟩
        unfold over tornB
        have hl : ((mPage (g + 1) r2 n2 d2).take (min x 512).toNat).length = (min x 512).toNat := by rw [List.length_take, mPage_length]; omega
        rw [hl]
  obtain ⟨k, hk, hread⟩ := htorn
  obtain ⟨u1, u2⟩ := under_gen q1
  rcases torn_gen hr (u := mPage g' r' n' d') (mPage_length _ _ _ _) u1 u2 hk (((g + 1) % 2 : Nat) : Int) with ht | ht
  · left
    exact ⟨hleft, hops, by rw [hsz]; exact ⟨h.size, h.ok.s2⟩, h.right, by rw [hsz]; exact h.rs, hg1, by rw [hread]; omega, h.nd, hpd⟩
  · right
    have hm1 : C.read (((g + 1) % 2 : Nat) : Int) = mPage (g + 1) r2 n2 d2 := by rw [hread, ht]
    have hm2 : mG (C.read (((g + 1 + 1) % 2 : Nat) : Int)) (((g + 1 + 1) % 2 : Nat) : Int) < g + 1 := by
      have e : (((g + 1 + 1) % 2 : Nat) : Int) = ((g % 2 : Nat) : Int) := by omega
      rw [e, hg1]
      obtain ⟨_, e2, _⟩ := page_is h.right (no := ((g % 2 : Nat) : Int)) rfl
      rw [e2]
      omega
    exact ⟨⟨hleft, hops, by rw [hsz]; exact ⟨h.size, h.ok.s2⟩, hr, by rw [hsz]; exact hrs, hm1, hm2, hnd, hpn⟩, ⟨hleft, hops, by rw [hsz]; exact ⟨h.size, h.ok.s2⟩, hr, by rw [hsz]; exact hrs, hm1, hm2, h.nd, hpd⟩⟩

end Go.Proofs.YtmlnpgbnbchbkaaDoor

set_option linter.unusedVariables false
set_option maxRecDepth 100000
namespace Go.Proofs.YtmlnpgbnbchbkaaDoor
open Go.RowKit

/-- A page that a state of generation h has is in use and elder than what was laid, or waits for a later one. -/
def HeldAt (X : PG) (h k : Int) : Prop := (X.F.used k = true ∧ X.L k = false) ∨ ∃ w, X.F.waits k = some w ∧ h < w

/-- Of pins: rising, each as often as there are states of its generation. -/
structure PinsOk (ps : List (Int × Int)) (gens : List Int) (g : Nat) : Prop where
  rise : ps.Pairwise fun a b => a.1 < b.1
  cnt : ∀ x ∈ ps, x.2 = (gens.count x.1 : Int) ∧ 1 ≤ x.2
  mem : ∀ h ∈ gens, ∃ x ∈ ps, x.1 = h
  le : ∀ h ∈ gens, h ≤ (g : Int)

structure PInv (X : PG) (done now : List Page) (pins : List (List Page)) (gens : List Int) : Prop where
  D : DInv X.S X.g X.r X.n X.d done
  ok : X.F.Ok
  failed : X.failed = false
  lo : X.F.lo = 2
  hi : X.F.hi = X.S.size
  used : ∀ k, X.F.used k = true ↔ k ∈ pnos now
  nd : (pnos now).Nodup
  laid : ∀ k, X.L k = true → X.F.used k = true ∧ k ∉ pnos done ∧ ∀ p ∈ pins, k ∉ pnos p
  old : ∀ k, X.F.used k = true → X.L k = false → k ∈ pnos done
  wt : ∀ k w, X.F.waits k = some w → w ≤ (X.g : Int) + 1 ∧ (w = (X.g : Int) + 1 → k ∈ pnos done)
  dn : ∀ k ∈ pnos done, (X.F.used k = true ∧ X.L k = false) ∨ X.F.waits k = some ((X.g : Int) + 1)
  len : pins.length = gens.length
  pin : ∀ (i : Nat) (p : List Page) (h : Int), pins[i]? = some p → gens[i]? = some h → ∀ k ∈ pnos p, HeldAt X h k
  po : PinsOk X.pins gens X.g
  pd : PagesIn X done
  pn : PagesIn X now
  pp : ∀ p ∈ pins, PagesIn X p

theorem PInv.lt {X : PG} {done now : List Page} {pins : List (List Page)} {gens : List Int} (h : PInv X done now pins gens) {p : List Page} (hp : p ∈ pins) {k : Int} (hk : k ∈ pnos p) : X.F.used k = true ∨ (X.F.waits k).isSome = true := by
  obtain ⟨i, hi⟩ := List.getElem?_of_mem hp
  have hl : i < gens.length := by rw [← h.len]; exact (List.getElem?_eq_some_iff.1 hi).1
  rcases h.pin i p gens[i] hi (List.getElem?_eq_getElem hl) k hk with h1 | ⟨w, h1, _⟩
  · exact .inl h1.1
  · exact .inr (by rw [h1]; rfl)

theorem FL.st_free {F : FL} {k : Int} (h : F.st k = 1) : F.lo ≤ k ∧ k < F.hi ∧ F.used k = false ∧ F.waits k = none := by
  have hk : F.has k = true := by
    cases hh : F.has k
    · simp [FL.st, hh] at h
    · rfl
  have hu : F.used k = false := by
    cases hh : F.used k
    · rfl
    · simp [FL.st, hk, hh] at h
  have hw : F.waits k = Option.none := by
    cases hh : F.waits k
    · rfl
    · simp [FL.st, hk, hu, hh] at h
  exact ⟨(FL.has_iff.1 hk).1, (FL.has_iff.1 hk).2, hu, hw⟩
theorem FL.st_any {F : FL} {k : Int} : F.st k ≠ 0 ↔ F.lo ≤ k ∧ k < F.hi := by
  rw [← FL.has_iff]
  unfold FL.st
  cases F.has k <;> cases F.used k <;> cases (F.waits k).isSome <;> simp

/-- Pages stay in where what is read of them is the same, and the list has as many. -/
theorem PagesIn.to {X Y : PG} {ps : List Page} (h : PagesIn X ps) (hs : Y.S.size = X.S.size) (hl : Y.F.lo = X.F.lo) (hh : Y.F.hi = X.F.hi) (hr : ∀ x ∈ ps, Y.S.read x.no = X.S.read x.no) : PagesIn Y ps := by
  intro x hx
  obtain ⟨a1, a2, gen, a3, a4, a5⟩ := h x hx
  exact ⟨by rw [hs]; exact a1, a2, gen, a3, by rw [hr x hx]; exact a4, by rw [FL.st_any, hl, hh]; exact FL.st_any.1 a5⟩

/-- A page is laid. -/
theorem PInv.lay {X : PG} {done now : List Page} {pins : List (List Page)} {gens : List Int} (h : PInv X done now pins gens) {k : Nat} (hk : X.F.least = some (k : Int)) {b : List UInt8} (hb : b.length ≤ 493) (hg : X.g + 1 ≤ 1152921504606846976) :
    PInv (X.lay k (pageB 5 k (X.g + 1) b)) done (now ++ [⟨k, b⟩]) pins gens := by
  obtain ⟨k1, k2, k3, k4⟩ := FL.st_free (FL.least_some hk).1
  have hlo := h.lo
  have hhi := h.hi
  have hlen : (pageB 5 k (X.g + 1) b).length = 512 := pageB_length hb
  have hpn : pnos (now ++ [⟨k, b⟩]) = pnos now ++ [(k : Int)] := by simp [pnos]
  have nn : (k : Int) ∉ pnos now := fun e => by rw [(h.used k).2 e] at k3; cases k3
  have ndn : (k : Int) ∉ pnos done := fun e => by
    rcases h.dn k e with e1 | e1
    · rw [e1.1] at k3; cases k3
    · rw [e1] at k4; cases k4
  have npn : ∀ p ∈ pins, (k : Int) ∉ pnos p := fun p hp e => by
    rcases h.lt hp e with e1 | e1
    · rw [e1] at k3; cases k3
    · rw [k4] at e1; cases e1
  have hread : ∀ j : Int, j ≠ k → (X.lay k (pageB 5 k (X.g + 1) b)).S.read j = X.S.read j := fun j hj => by rw [PG.lay_read X hlen, if_neg hj]
  have hto : ∀ ps, (k : Int) ∉ pnos ps → PagesIn X ps → PagesIn (X.lay k (pageB 5 k (X.g + 1) b)) ps := fun ps hn hp => hp.to rfl rfl rfl fun x hx => hread _ fun e => hn (by rw [← e]; exact mem_pnos.2 ⟨x, hx, rfl⟩)
  have hu : ∀ x, (X.lay k (pageB 5 k (X.g + 1) b)).F.used x = if x = k then true else X.F.used x := fun x => rfl
  have hL : ∀ x, (X.lay k (pageB 5 k (X.g + 1) b)).L x = if x = k then true else X.L x := fun x => rfl
  refine ⟨h.D.write ⟨by omega, by omega⟩ ndn (by omega), h.ok.take (FL.least_some hk).1, h.failed, h.lo, h.hi, fun x => ?_, ?_, fun x hx => ?_, fun x hx hx2 => ?_, h.wt, fun x hx => ?_, h.len, fun i p g hp hi x hx => ?_, h.po, hto _ ndn h.pd, fun x hx => ?_, fun p hp => hto _ (npn p hp) (h.pp p hp)⟩
  · rw [hu, hpn, List.mem_append, List.mem_singleton]
    by_cases e : x = k
    · simp [e]
    · rw [if_neg e, h.used]; simp [e]
  · rw [hpn, List.nodup_append]
    refine ⟨h.nd, by simp, fun x hx y hy e => ?_⟩
    rw [List.mem_singleton] at hy
    exact nn (by rw [← hy, ← e]; exact hx)
  · rw [hL] at hx
    rw [hu]
    by_cases e : x = k
    · rw [if_pos e, e]; exact ⟨rfl, ndn, npn⟩
    · rw [if_neg e] at hx ⊢; exact h.laid x hx
  · rw [hu] at hx
    rw [hL] at hx2
    by_cases e : x = k
    · rw [if_pos e] at hx2; cases hx2
    · rw [if_neg e] at hx hx2; exact h.old x hx hx2
  · have e : x ≠ k := fun e => ndn (e ▸ hx)
    rw [hu, hL, if_neg e, if_neg e]
    exact h.dn x hx
  · have e : x ≠ k := fun e => npn p (List.mem_of_getElem? hp) (e ▸ hx)
    rcases h.pin i p g hp hi x hx with h1 | h1
    · exact .inl (by rw [hu, hL, if_neg e, if_neg e]; exact h1)
    · exact .inr h1
  · rcases List.mem_append.1 hx with hx | hx
    · exact hto _ nn h.pn x hx
    · rw [List.mem_singleton] at hx
      subst hx
      refine ⟨by show (k : Int) < X.S.size; omega, hb, X.g + 1, hg, ?_, FL.st_any.2 ⟨k1, k2⟩⟩
      rw [PG.lay_read X hlen, if_pos rfl]

theorem pnos_erase (now : List Page) (j : Nat) : pnos (now.eraseIdx j) = (pnos now).eraseIdx j := by
  induction now generalizing j with
  | nil => rfl
  | cons y l ih =>
    cases j with
    | zero => rfl
    | succ j => exact congrArg ((y.no : Int) :: ·) (ih j)
theorem mem_eraseIdx_nodup {l : List Int} (h : l.Nodup) {j : Nat} {k : Int} (hj : l[j]? = some k) (x : Int) : x ∈ l.eraseIdx j ↔ x ∈ l ∧ x ≠ k := by
  induction l generalizing j with
  | nil => simp at hj
  | cons y l ih =>
    rw [List.nodup_cons] at h
    cases j with
    | zero =>
      simp only [List.getElem?_cons_zero, Option.some.injEq] at hj
      subst hj
      rw [List.eraseIdx_cons_zero, List.mem_cons]
      constructor
      · intro hx
        exact ⟨.inr hx, fun e => h.1 (e ▸ hx)⟩
      · rintro ⟨hx | hx, h2⟩
        · exact absurd hx h2
        · exact hx
    | succ j =>
      rw [List.getElem?_cons_succ] at hj
      rw [List.eraseIdx_cons_succ, List.mem_cons, List.mem_cons, ih h.2 hj]
      constructor
      · rintro (hx | hx)
        · exact ⟨.inl hx, fun e => h.1 (by rw [← hx, e]; exact List.mem_of_getElem? hj)⟩
        · exact ⟨.inr hx.1, hx.2⟩
      · rintro ⟨hx | hx, h2⟩
        · exact .inl hx
        · exact .inr ⟨hx, h2⟩

/-- A page is dropped. -/
theorem PInv.drop {X : PG} {done now : List Page} {pins : List (List Page)} {gens : List Int} (h : PInv X done now pins gens) {j : Nat} {y : Page} (hj : now[j]? = some y) :
    X.F.st y.no = 2 ∧ X.dropE y.no = 0 ∧ PInv (X.drop y.no) done (now.eraseIdx j) pins gens := by
  have hpj : (pnos now)[j]? = some (y.no : Int) := by unfold pnos; rw [List.getElem?_map, hj]; rfl
  have hu : X.F.used y.no = true := (h.used _).2 (List.mem_of_getElem? hpj)
  have hst : X.F.st y.no = 2 := FL.st_two.2 ⟨FL.has_iff.2 (h.ok.hu hu), hu⟩
  have hmem : ∀ x, x ∈ pnos (now.eraseIdx j) ↔ x ∈ pnos now ∧ x ≠ (y.no : Int) := fun x => by rw [pnos_erase]; exact mem_eraseIdx_nodup h.nd hpj x
  have hnd : (pnos (now.eraseIdx j)).Nodup := by rw [pnos_erase]; exact h.nd.sublist (List.eraseIdx_sublist _ _)
  have hpn : ∀ {Y : PG}, PagesIn Y now → PagesIn Y (now.eraseIdx j) := fun hp x hx => hp x ((List.eraseIdx_sublist _ _).subset hx)
  refine ⟨hst, ?_, ?_⟩
  · unfold PG.dropE
    rw [hst]
    cases X.L y.no <;> rfl
  · unfold PG.drop
    by_cases hL : X.L y.no = true
    · rw [if_pos hL]
      obtain ⟨_, l2, l3⟩ := h.laid _ hL
      have hto : ∀ ps, PagesIn X ps → PagesIn { X with L := fun x => if x = (y.no : Int) then false else X.L x, F := X.F.drop y.no } ps := fun ps hp => hp.to rfl rfl rfl fun x hx => rfl
      refine ⟨h.D, h.ok.drop _, h.failed, h.lo, h.hi, fun x => ?_, hnd, fun x hx => ?_, fun x hx hx2 => ?_, h.wt, fun x hx => ?_, h.len, fun i p g hp hi x hx => ?_, h.po, hto _ h.pd, hpn (hto _ h.pn), fun p hp => hto _ (h.pp p hp)⟩
      · show (if x = (y.no : Int) then false else X.F.used x) = true ↔ _
        rw [hmem]
        by_cases e : x = y.no
        · simp [e]
        · rw [if_neg e, h.used]; simp [e]
      · have hx' : (if x = (y.no : Int) then false else X.L x) = true := hx
        by_cases e : x = y.no
        · rw [if_pos e] at hx'; cases hx'
        · rw [if_neg e] at hx'
          refine ⟨?_, (h.laid x hx').2⟩
          show (if x = (y.no : Int) then false else X.F.used x) = true
          rw [if_neg e]; exact (h.laid x hx').1
      · have hx' : (if x = (y.no : Int) then false else X.F.used x) = true := hx
        have hx2' : (if x = (y.no : Int) then false else X.L x) = false := hx2
        by_cases e : x = y.no
        · rw [if_pos e] at hx'; cases hx'
        · rw [if_neg e] at hx' hx2'; exact h.old x hx' hx2'
      · have e : x ≠ y.no := fun e => l2 (e ▸ hx)
        show ((if x = (y.no : Int) then false else X.F.used x) = true ∧ (if x = (y.no : Int) then false else X.L x) = false) ∨ _
        rw [if_neg e, if_neg e]
        exact h.dn x hx
      · have e : x ≠ y.no := fun e => l3 p (List.mem_of_getElem? hp) (e ▸ hx)
        show ((if x = (y.no : Int) then false else X.F.used x) = true ∧ (if x = (y.no : Int) then false else X.L x) = false) ∨ _
        rw [if_neg e, if_neg e]
        exact h.pin i p g hp hi x hx
    · rw [if_neg hL, if_pos hst]
      have hL' : X.L y.no = false := by cases e : X.L y.no <;> simp_all
      have hd := h.old _ hu hL'
      have hto : ∀ ps, PagesIn X ps → PagesIn { X with F := X.F.late y.no ((X.g : Int) + 1) } ps := fun ps hp => hp.to rfl rfl rfl fun x hx => rfl
      refine ⟨h.D, h.ok.late _ (FL.has_iff.2 (h.ok.hu hu)), h.failed, h.lo, h.hi, fun x => ?_, hnd, fun x hx => ?_, fun x hx hx2 => ?_, fun x w hx => ?_, fun x hx => ?_, h.len, fun i p g hp hi x hx => ?_, h.po, hto _ h.pd, hpn (hto _ h.pn), fun p hp => hto _ (h.pp p hp)⟩
      · show (if x = (y.no : Int) then false else X.F.used x) = true ↔ _
        rw [hmem]
        by_cases e : x = y.no
        · simp [e]
        · rw [if_neg e, h.used]; simp [e]
      · have e : x ≠ y.no := fun e => hL (e ▸ hx)
        refine ⟨?_, (h.laid x hx).2⟩
        show (if x = (y.no : Int) then false else X.F.used x) = true
        rw [if_neg e]; exact (h.laid x hx).1
      · have hx' : (if x = (y.no : Int) then false else X.F.used x) = true := hx
        by_cases e : x = y.no
        · rw [if_pos e] at hx'; cases hx'
        · rw [if_neg e] at hx'; exact h.old x hx' hx2
      · have hx' : (if x = (y.no : Int) then some ((X.g : Int) + 1) else X.F.waits x) = some w := hx
        by_cases e : x = y.no
        · rw [if_pos e] at hx'
          cases hx'
          exact ⟨Int.le_refl _, fun _ => by rw [e]; exact hd⟩
        · rw [if_neg e] at hx'; exact h.wt x w hx'
      · show ((if x = (y.no : Int) then false else X.F.used x) = true ∧ X.L x = false) ∨ (if x = (y.no : Int) then some ((X.g : Int) + 1) else X.F.waits x) = some ((X.g : Int) + 1)
        by_cases e : x = y.no
        · right; rw [if_pos e]
        · rw [if_neg e, if_neg e]; exact h.dn x hx
      · show ((if x = (y.no : Int) then false else X.F.used x) = true ∧ X.L x = false) ∨ ∃ w, (if x = (y.no : Int) then some ((X.g : Int) + 1) else X.F.waits x) = some w ∧ g < w
        by_cases e : x = y.no
        · right
          have := h.po.le g (List.mem_of_getElem? hi)
          exact ⟨_, if_pos e, by omega⟩
        · rw [if_neg e, if_neg e]; exact h.pin i p g hp hi x hx

/-- The state is given up. -/
theorem PInv.abort {X : PG} {done now : List Page} {pins : List (List Page)} {gens : List Int} (h : PInv X done now pins gens) : PInv X.abort done done pins gens := by
  have hto : ∀ ps, PagesIn X ps → PagesIn X.abort ps := fun ps hp => hp.to rfl rfl rfl fun x hx => rfl
  have hok : (X.F.less X.L).Ok := ⟨h.ok.h0, h.ok.h1, h.ok.h2, fun {x} hx => h.ok.hu (k := x) (by have : (X.F.used x && !X.L x) = true := hx; rw [Bool.and_eq_true] at this; exact this.1), h.ok.hw, fun {x} hx => h.ok.ha (k := x) (by have : (X.F.used x && !X.L x) = true := hx; rw [Bool.and_eq_true] at this; exact this.1)⟩
  have hu : ∀ x, X.abort.F.used x = ((X.F.used x && !X.L x) || (match X.F.waits x with | some g => g == (X.g : Int) + 1 | none => false)) := fun x => rfl
  have hw : ∀ x, X.abort.F.waits x = (match X.F.waits x with | some g => if (g == (X.g : Int) + 1) then none else some g | none => none) := fun x => rfl
  have huse : ∀ x, X.abort.F.used x = true ↔ (X.F.used x = true ∧ X.L x = false) ∨ X.F.waits x = some ((X.g : Int) + 1) := fun x => by
    rw [hu]
    cases e : X.F.waits x with
    | none => simp
    | some w => simp
  refine ⟨h.D, hok.back _, h.failed, h.lo, h.hi, fun x => ?_, h.D.nd, fun x hx => ?_, fun x hx hx2 => ?_, fun x w hx => ?_, fun x hx => ?_, h.len, fun i p g hp hi x hx => ?_, h.po, hto _ h.pd, hto _ h.pd, fun p hp => hto _ (h.pp p hp)⟩
  · rw [huse]
    constructor
    · rintro (hx | hx)
      · exact h.old x hx.1 hx.2
      · exact (h.wt x _ hx).2 rfl
    · exact h.dn x
  · cases hx
  · rcases (huse x).1 hx with hx | hx
    · exact h.old x hx.1 hx.2
    · exact (h.wt x _ hx).2 rfl
  · rw [hw] at hx
    cases e : X.F.waits x with
    | none => rw [e] at hx; cases hx
    | some v =>
      rw [e] at hx
      simp only at hx
      split at hx
      · cases hx
      · cases hx; exact h.wt x _ e
  · exact .inl ⟨(huse x).2 (h.dn x hx), rfl⟩
  · rcases h.pin i p g hp hi x hx with h1 | ⟨w, h1, h2⟩
    · exact .inl ⟨(huse x).2 (.inl h1), rfl⟩
    · by_cases e : w = (X.g : Int) + 1
      · exact .inl ⟨(huse x).2 (.inr (by rw [h1, e])), rfl⟩
      · refine .inr ⟨w, ?_, h2⟩
        rw [hw, h1]
        simp [e]

end Go.Proofs.YtmlnpgbnbchbkaaDoor

