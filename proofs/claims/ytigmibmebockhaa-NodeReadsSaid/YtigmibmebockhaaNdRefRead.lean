/-
  The reference's Read: its contract.
-/
import Derived.Test.YtigmibmebockhaaNdRefSt
import Derived.Test.YtigmibmebockhaaNdRefPu
import Derived.Deep.CutBlock
import Derived.Deep.CutRange
set_option linter.unusedVariables false
set_option linter.unusedSimpArgs false
set_option maxRecDepth 100000
namespace Go.Proofs.Ytigmibmebockhaa
open Go.RowKit

theorem rows_ok {w : World} {C : Nat} {n : Nd} (hko : KOwn w C (.slice n.kq n.ks.length n.kc) n.ks) (hvo : VOwnR w C (.slice n.vq n.vs.length n.vc) n.vs) (hio : OwnI w C (.slice n.iq n.is.length n.ic) n.is) (hki : ∀ x ∈ n.ks, Own w C x.v x.l) (hvi : ∀ x ∈ n.vs, VInR w C x) (hii : ∀ x ∈ n.is, 0 ≤ x ∧ x ≤ 65535) : n.Ok w := by
  obtain ⟨q1, c1, e1, a1, a2, a3, _⟩ := row_form hko
  obtain ⟨q2, c2, e2, b1, b2, b3, _⟩ := row_form hvo
  obtain ⟨q3, c3, e3, d1, d2, d3, _⟩ := row_form hio
  cases e1
  cases e2
  cases e3
  have hil : Ks w n.iq n.is := by
    obtain ⟨q, c, e, hk⟩ := hio.form
    cases e
    exact hk
  refine ⟨a1, a2, a3, kown_lie hko, fun x hx => ?_, b1, b2, b3, vownR_lie hvo, fun x hx => ?_, d1, d2, d3, hil, fun x hx => by have := hii x hx; omega⟩
  · obtain ⟨q, c, e, h1, h2, h3, h4⟩ := (hki x hx).form rfl
    unfold Kb.v at e
    cases e
    exact ⟨h3, h1, h2, h4⟩
  · obtain ⟨q, c, e, h1, h2, h3, h4⟩ := (hvi x hx).own.form rfl
    have hv := hvi x hx
    cases e
    exact ⟨h3, h1, h2, h4, by have := hv.g1; omega, by have := hv.g2; omega, by have := hv.p1; omega, by have := hv.p2; omega⟩
/-- The result's box is written: the node stays. -/
theorem StR.okR {w0 w w' : World} {R g A C : Nat} {n : Nd} {l : List UInt8} {bad : Bool} (h : StR w0 w R g A C n l bad) (hg : w.grownBy w' (some R)) : n.Ok w' ∧ Below w0.heap.size w0 w' := by
  refine ⟨rows_ok (World.ownsRow.kept h.ko hg (.inr (row_other h.ko h.res (by decide)))) (World.ownsRow.kept h.vo hg (.inr (row_other h.vo h.res (by decide)))) (World.ownsRow.kept h.io hg (.inr (row_other h.io h.res (by decide))))
    (fun x hx => World.ownsRow.kept (h.ki x hx) hg (.inr (row_other (h.ki x hx) h.res (by decide)))) (fun x hx => ⟨World.ownsRow.kept (h.vi x hx).own hg (.inr (row_other (h.vi x hx).own h.res (by decide))), (h.vi x hx).g1, (h.vi x hx).g2, (h.vi x hx).p1, (h.vi x hx).p2⟩) h.ii, ?_⟩
  obtain ⟨e1, e2, e3, e4, e5⟩ := h.ne
  exact h.below.trans (gr_low hg h.below.size (fun k hk => by have := Option.some.inj hk; omega))

/-- Behind what is laid first: the result's box, the reader, the node's box. -/
theorem StR.first (w : World) (p : Option Addr) (n c : Nat) (l : List UInt8) (lf : Bool) (hl : Bs w p l) (hn : n = l.length) (hnc : n ≤ c) (hc : c ≤ 9223372036854775807) (hz : p = none → c = 0) :
    StR w (((w.alloc (.cells #[.bool false, .slice none 0 0, .slice none 0 0, .slice none 0 0] 33)).alloc (.cells #[.slice p n c, .bool false] 62)).alloc (.cells #[.bool lf, .slice none 0 0, .slice none 0 0, .slice none 0 0] 33))
      w.heap.size (w.heap.size + 1) (w.heap.size + 1 + 1) (w.heap.size + 1 + 1 + 1) ⟨lf, none, 0, [], none, 0, [], none, 0, []⟩ l false := by
  have h1 := heap_alloc_new w (.cells #[.bool false, .slice none 0 0, .slice none 0 0, .slice none 0 0] 33)
  have hl1 := hl.alloc (.cells #[.bool false, .slice none 0 0, .slice none 0 0, .slice none 0 0] 33)
  have hb1 := (Below.refl w.heap.size w).alloc (Nat.le_refl _) (.cells #[.bool false, .slice none 0 0, .slice none 0 0, .slice none 0 0] 33)
  have e1 : (w.alloc (.cells #[.bool false, .slice none 0 0, .slice none 0 0, .slice none 0 0] 33)).heap.size = w.heap.size + 1 := by simp
  generalize w.alloc (.cells #[.bool false, .slice none 0 0, .slice none 0 0, .slice none 0 0] 33) = w1 at *
  have h2 := heap_alloc_new w1 (.cells #[.slice p n c, .bool false] 62)
  rw [e1] at h2
  have h12 := alloc_blk (o := .cells #[.slice p n c, .bool false] 62) h1
  have hl2 := hl1.alloc (.cells #[.slice p n c, .bool false] 62)
  have hb2 := hb1.alloc (by omega) (.cells #[.slice p n c, .bool false] 62)
  have e2 : (w1.alloc (.cells #[.slice p n c, .bool false] 62)).heap.size = w.heap.size + 1 + 1 := by simp [e1]
  generalize w1.alloc (.cells #[.slice p n c, .bool false] 62) = w2 at *
  have h3 := heap_alloc_new w2 (.cells #[.bool lf, .slice none 0 0, .slice none 0 0, .slice none 0 0] 33)
  rw [e2] at h3
  refine ⟨h3, alloc_blk h12, World.ownsRow_nil _ _ _ _, World.ownsRow_nil _ _ _ _, World.ownsRow_nil _ _ _ _, fun x hx => (by cases hx), fun x hx => (by cases hx), fun x hx => (by cases hx),
    ⟨p, n, c, alloc_blk h2, hl2.alloc _, hn, hnc, hc, hz, fun a ha hne => ?_⟩, hb2.alloc (by omega) _, by omega, by omega, by omega, by omega, by simp [e2]⟩
  obtain ⟨b, o, hp, hlt, _⟩ := hl.at (List.length_pos_iff.2 hne)
  rw [hp] at ha
  cases ha
  show b < _
  omega

/-- What take does to what is left. -/
def TK (k : Nat) (l : List UInt8) (bad : Bool) (t l' : List UInt8) (bad' : Bool) : Prop :=
  (bad = false ∧ k ≤ l.length ∧ t = l.take k ∧ bad' = false ∧ l' = l.drop k) ∨ ((bad = true ∨ l.length < k) ∧ bad' = true ∧ l' = l)
theorem TK.len {k : Nat} {l t l' : List UInt8} {bad bad' : Bool} (h : TK k l bad t l' bad') : l'.length ≤ l.length := by
  rcases h with ⟨_, _, _, _, rfl⟩ | ⟨_, _, rfl⟩
  · rw [List.length_drop]; omega
  · exact Nat.le_refl _
theorem TK.sum {k : Nat} {l t l' : List UInt8} {bad bad' : Bool} (h : TK k l bad t l' bad') (hb : bad' = false) : bad = false ∧ t.length + l'.length ≤ l.length := by
  rcases h with ⟨h1, h2, rfl, _, rfl⟩ | ⟨_, h, _⟩
  · exact ⟨h1, by rw [List.length_take, List.length_drop]; omega⟩
  · rw [hb] at h; cases h
/-- There was enough. -/
theorem TK.app {k : Nat} {a r t l' : List UInt8} {bad' : Bool} (h : TK k (a ++ r) false t l' bad') (ha : a.length = k) : t = a ∧ l' = r ∧ bad' = false := by
  rcases h with ⟨_, _, rfl, h, rfl⟩ | ⟨h, _⟩
  · subst ha
    exact ⟨by simp, by simp, h⟩
  · rcases h with h | h
    · cases h
    · rw [List.length_append] at h; omega
/-- A length and so many bytes. -/
theorem TK.text {l l1 l2 t : List UInt8} {x : UInt8} {bad b1 b2 : Bool} (h1 : TK 1 l bad [x] l1 b1) (h2 : TK x.toNat l1 b1 t l2 b2) {k r : List UInt8} (hk : k.length ≤ 255) (hl : l = txtB k ++ r) (hb : bad = false) : t = k ∧ l2 = r ∧ b2 = false := by
  subst hl hb
  obtain ⟨e1, e2, e3⟩ := TK.app (a := [UInt8.ofNat k.length]) (r := k ++ r) (by simpa [txtB] using h1) rfl
  cases e1
  subst e2 e3
  exact TK.app h2 (by rw [UInt8.toNat_ofNat']; omega)

theorem one_of {t : List UInt8} (h : 1 = t.length) : ∃ x, t = [x] := by
  match t, h with
  | [x], _ => exact ⟨x, rfl⟩
def TakePost2 (w : World) (g k : Nat) (l : List UInt8) (bad : Bool) (e : Ending) (w' : World) : Prop :=
  ∃ q c t l' bad', e = .returned (.slice q k c) ∧ k = t.length ∧ Own w' w.heap.size (.slice q k c) t ∧ w.grownBy w' (some g) ∧ TK k l bad t l' bad' ∧ RsR w' g l' bad'
theorem take2_any {w : World} {g : Nat} {l : List UInt8} {bad : Bool} (h : RsR w g l bad) (hl : l.length ≤ 100000) (k : Nat) (hk : k ≤ 70000) :
    Calls Try.prog 27 #[.pointer (some ⟨g, 0, none⟩), .int .i64 (k : Int)] w (TakePost2 w g k l bad) := by
  refine (take_any h hl k hk).mono ?_
  rintro e w' ⟨q, c, t, rfl, h1, h2, h3, ⟨h4, h5, h6, h7⟩ | ⟨h4, h5⟩⟩
  · exact ⟨q, c, t, _, _, rfl, h1, h2, h3, .inl ⟨h4, h5, h6, rfl, rfl⟩, h7⟩
  · exact ⟨q, c, t, _, _, rfl, h1, h2, h3, .inr ⟨h4, rfl, rfl⟩, h5⟩

theorem take1_any {w : World} {g : Nat} {l : List UInt8} {bad : Bool} (h : RsR w g l bad) (hl : l.length ≤ 100000) :
    Calls Try.prog 27 #[.pointer (some ⟨g, 0, none⟩), .int .i64 1] w (TakePost2 w g 1 l bad) := take2_any h hl 1 (by omega)

/-- What stands at the loop's head. -/
structure RI (k : Nat) (b : List UInt8) (lf : Bool) (m j : Nat) (n : Nd) (l : List UInt8) (bad : Bool) : Prop where
  leaf : n.leaf = lf
  jm : j ≤ m
  kl : n.ks.length ≤ j
  vl : n.vs.length ≤ j
  il : n.is.length ≤ j + 1
  sum : bad = false → lens Kb.l n.ks + lens Vl.l n.vs + l.length ≤ b.length
  len : l.length ≤ b.length
  all : ∀ s, readS k b s → bad = false ∧ m = s.ks.length ∧ Fol s j n.s l
theorem RI.leaf0 {b l1 : List UInt8} {x : UInt8} {b1 : Bool} (h : TK 1 b false [x] l1 b1) : RI 2 b true x.toNat 0 ⟨true, none, 0, [], none, 0, [], none, 0, []⟩ l1 b1 := by
  refine ⟨rfl, Nat.zero_le _, Nat.le_refl _, Nat.le_refl _, Nat.zero_le _, fun hb => by have := (h.sum hb).2; simp [lens] at this ⊢; omega, h.len, fun s hs => ?_⟩
  have hr := hs.2.1
  have hp := hs.2.2
  have hl : s.leaf = true := by
    rcases (readS_kind hs).1 with ⟨_, h⟩ | ⟨h, _⟩
    · exact h
    · cases h
  rw [put_restS, hl, if_pos rfl, List.nil_append] at hp
  rw [← hp] at h
  obtain ⟨e1, e2, e3⟩ := h.app rfl
  obtain ⟨_, hi, _⟩ := hr.leaf hl
  cases e1
  refine ⟨e3, by rw [UInt8.toNat_ofNat']; have := hr.many; omega, by simp [Nd.s], by simp [Nd.s], by rw [hi]; rfl, e2⟩

end Go.Proofs.Ytigmibmebockhaa
