/-
  The document's disk (cobwebref06) in memory; zeros, done, New.
-/
import Derived.Test.YtholgkmlfgmhfaaSLaw
set_option linter.unusedVariables false
set_option maxRecDepth 100000
namespace Go.Proofs.Ytholgkmlfgmhfaa
open Go.RowKit

/-- Bytes in a block of their own. -/
def U (w : World) (q : Option Addr) (l : List UInt8) : Prop := l ≠ [] → ∃ (g : Nat) (cur : Array Value), q = some ⟨g, 0, none⟩ ∧ w.heap[g]? = some (.cells cur 5 (0, 0)) ∧ ∀ (i : Nat) (u : UInt8), l[i]? = some u → cur[i]? = some (Value.int .u8 (u.toNat : Int))
theorem U.nil (w : World) (q : Option Addr) : U w q [] := fun h => absurd rfl h
theorem U.keeps {K : Obj → Bool} {w w' : World} {q : Option Addr} {l : List UInt8} (h : U w q l) (hk : Keeps K w w') (hu : ∀ c f, K (.cells c 5 f) = false) : U w' q l := by
  intro hne
  obtain ⟨g, cur, hq, hg, hc⟩ := h hne
  exact ⟨g, cur, hq, hk.stay hg (hu _ _), hc⟩
theorem U.below {w w' : World} {q : Option Addr} {l : List UInt8} (h : U w q l) (hb : Below w.heap.size w w') : U w' q l := h.keeps (K := fun _ => false) (Keeps.below hb) fun _ _ => rfl
theorem U.bs {w : World} {q : Option Addr} {l : List UInt8} (h : U w q l) : Bs w q l := by
  intro hne
  obtain ⟨g, cur, hq, hg, hc⟩ := h hne
  refine ⟨g, 0, hq, fun i u hi => ?_⟩
  rw [Joins.cell_of_block hg, Nat.zero_add]
  exact hc i u hi
theorem U.own {w : World} {D : Nat} {v : Value} {l : List UInt8} (h : Own w D v l) : ∃ q c, v = .slice q l.length c ∧ U w q l ∧ l.length ≤ c ∧ c ≤ 9223372036854775807 ∧ (q = none → c = 0) := by
  rcases h.2 with ⟨rfl, h0⟩ | ⟨g, cap, cur, rfl, hb, hg, hnc, hcm, hcs, htake⟩
  · obtain rfl := List.eq_nil_of_length_eq_zero h0
    exact ⟨none, 0, rfl, U.nil _ _, Nat.le_refl _, by omega, fun _ => rfl⟩
  · refine ⟨some ⟨g, 0, none⟩, cap, rfl, fun _ => ⟨g, cur, rfl, hg, fun i u hi => ?_⟩, hnc, by unfold maxLen at hcm; omega, fun h => by cases h⟩
    have := h.cells (g := g) rfl i (.int .u8 (u.toNat : Int)) (by simp [u8s, hi])
    rw [Addr.add_lit, Joins.cell_of_block hg, Nat.zero_add] at this
    exact this

/-- The blocks of the document's disk: its own, its sectors, its writes. -/
def ofRef : Obj → Bool
  | .cells _ t _ => t == 42 || t == 69 || t == 30
  | _ => false
theorem ofRef_u8 (c : Array Value) (f : Nat × Nat) : ofRef (.cells c 5 f) = false := by
  show ((5 : TypeId) == 42 || (5 : TypeId) == 69 || (5 : TypeId) == 30) = false
  decide
theorem ofRef_own (c : Array Value) (f : Nat × Nat) : ofRef (.cells c 42 f) = true := by
  show ((42 : TypeId) == 42 || (42 : TypeId) == 69 || (42 : TypeId) == 30) = true
  decide
theorem ofRef_write (c : Array Value) (f : Nat × Nat) : ofRef (.cells c 69 f) = true := by
  show ((69 : TypeId) == 42 || (69 : TypeId) == 69 || (69 : TypeId) == 30) = true
  decide
theorem ofRef_bytes (c : Array Value) (f : Nat × Nat) : ofRef (.cells c 30 f) = true := by
  show ((30 : TypeId) == 42 || (30 : TypeId) == 69 || (30 : TypeId) == 30) = true
  decide

def blv (x : Bl) : Value := .slice x.q x.l.length x.c
def rcells (ms : List (Int × Bl)) : List Value := ms.flatMap fun x => [.int .i64 x.1, blv x.2]

/-- The document's disk that lies at p. -/
structure RefIs (w : World) (B p : Nat) (lv wv : Value) (Ls : List Bl) (ms : List (Int × Bl)) (S : SD) : Prop where
  blk : w.heap[p]? = some (.cells #[lv, wv, .int .i64 S.left, .int .i64 S.ops] 42 (0, 0))
  hp : B ≤ p
  ln : (Ls.length : Int) = S.size
  lo : w.ownsRow B 30 1 lv Ls.length (Ls.map blv)
  wo : w.ownsRow B 69 2 wv ms.length (rcells ms)
  lu : ∀ x ∈ Ls, U w x.q x.l ∧ x.l.length ≤ 512 ∧ x.l.length ≤ x.c ∧ x.c ≤ 9223372036854775807 ∧ (x.q = none → x.c = 0)
  wu : ∀ x ∈ ms, U w x.2.q x.2.l ∧ x.2.l.length = 512 ∧ 512 ≤ x.2.c ∧ x.2.c ≤ 9223372036854775807
  ws : S.waits = ms.map fun x => ⟨x.1, x.2.l⟩
  ll : ∀ (k : Nat) x, Ls[k]? = some x → S.lasts k = pad x.l
  ok : S.Ok

def RefAt (w : World) (B p : Nat) (S : SD) : Prop := ∃ lv wv Ls ms, RefIs w B p lv wv Ls ms S

theorem row_on {w w' : World} {B : Nat} {e size : Nat} {v : Value} {n : Nat} {xs : List Value} (h : w.ownsRow B e size v n xs) (hk : ∀ (g : Nat) (c : Array Value), w.heap[g]? = some (Obj.cells c e (0, 0)) → v.ownBlock = some g → w'.heap[g]? = some (Obj.cells c e (0, 0))) :
    w'.ownsRow B e size v n xs := by
  refine ⟨h.1, ?_⟩
  rcases h.2 with h0 | ⟨g, cap, cur, hv, h1, hg, h2⟩
  · exact .inl h0
  · exact .inr ⟨g, cap, cur, hv, h1, hk g cur hg (by rw [hv]; rfl), h2⟩

theorem RefAt.keeps {K : Obj → Bool} {w w' : World} {B p : Nat} {S : SD} (h : RefAt w B p S) (hk : Keeps K w w') (hK : ∀ o, ofRef o = true → K o = false) (hu : ∀ c f, K (.cells c 5 f) = false) : RefAt w' B p S := by
  obtain ⟨lv, wv, Ls, ms, h1, h2, h3, h4, h5, h6, h7, h8, h9, h10⟩ := h
  exact ⟨lv, wv, Ls, ms, hk.stay h1 (hK _ (ofRef_own _ _)), h2, h3, row_on h4 fun g c hg _ => hk.stay hg (hK _ (ofRef_bytes _ _)), row_on h5 fun g c hg _ => hk.stay hg (hK _ (ofRef_write _ _)), fun x hx => ⟨(h6 x hx).1.keeps hk hu, (h6 x hx).2⟩, fun x hx => ⟨(h7 x hx).1.keeps hk hu, (h7 x hx).2⟩, h8, h9, h10⟩
theorem RefAt.below {w w' : World} {B p : Nat} {S : SD} (h : RefAt w B p S) (hb : Below w.heap.size w w') : RefAt w' B p S := h.keeps (K := fun _ => false) (Keeps.below hb) (fun _ _ => rfl) fun _ _ => rfl
theorem RefAt.ok {w : World} {B p : Nat} {S : SD} (h : RefAt w B p S) : S.Ok := by
  obtain ⟨_, _, _, _, h⟩ := h
  exact h.ok
theorem RefAt.base {w : World} {B p : Nat} {S : SD} (h : RefAt w B p S) : B ≤ w.heap.size := by
  obtain ⟨_, _, _, _, h⟩ := h
  have := (Array.getElem?_eq_some_iff.1 h.blk).1
  have := h.hp
  omega
theorem RefAt.le {w : World} {B B' p : Nat} {S : SD} (h : RefAt w B p S) (hb : B' ≤ B) : RefAt w B' p S := by
  obtain ⟨lv, wv, Ls, ms, h1, h2, h3, h4, h5, h6, h7, h8, h9, h10⟩ := h
  exact ⟨lv, wv, Ls, ms, h1, by omega, h3, World.ownsRow.mono h4 hb, World.ownsRow.mono h5 hb, h6, h7, h8, h9, h10⟩
theorem row_slice {w : World} {B e size : Nat} {v : Value} {n : Nat} {xs : List Value} (h : w.ownsRow B e size v n xs) : ∃ q c, v = .slice q n c ∧ n ≤ c ∧ c ≤ 9223372036854775807 ∧ (0 < n → ∃ g, q = some ⟨g, 0, none⟩ ∧ B ≤ g ∧ g < w.heap.size ∧ ∀ j u, xs[j]? = some u → w.cell? ⟨g, j, none⟩ = some u) := by
  have h' := h
  rcases h.2 with ⟨rfl, rfl⟩ | ⟨g, cap, cur, rfl, hb, hg, hnc, hcm, hcs, htake⟩
  · exact ⟨none, 0, rfl, Nat.le_refl _, by omega, fun h => absurd h (by omega)⟩
  · refine ⟨_, cap, rfl, hnc, by unfold maxLen at hcm; omega, fun _ => ⟨g, rfl, hb, (Array.getElem?_eq_some_iff.1 hg).1, fun j u hj => ?_⟩⟩
    have := h'.cells (g := g) rfl j u hj
    rwa [Addr.add_lit, Nat.zero_add] at this

/-- What a call leaves that changes the document's disk. -/
structure RefStep (w w' : World) (B p : Nat) (S : SD) : Prop where
  disk : RefAt w' B p S
  below : Below B w w'
  keeps : Keeps ofRef w w'

theorem zeros_succ (n : Nat) : zeros n ++ [0] = zeros (n + 1) := by unfold zeros; rw [← List.replicate_succ']

def ZPost (w : World) (l : List UInt8) (e : Ending) (w' : World) : Prop := ∃ v, e = .returned v ∧ Own w' w.heap.size v l ∧ Below w.heap.size w w'

set_option maxHeartbeats 1600000 in
theorem rzeros_any {w : World} {q : Option Addr} {l : List UInt8} (h : Bs w q l) {n : Nat} (c : Nat) (hn : n = l.length) (h5 : n ≤ 512) (hq : q = none → c = 0) :
    Calls Try.prog 31 #[.slice q n c] w (ZPost w (pad l)) := by
  have H := Lib.hid (h.below (sbox1 w (.cells #[] 5)))
  have HN := Lib.hid hn
  have HQ := Lib.hid hq
  have HO := Lib.hid (Own.empty w w.heap.size (Nat.le_refl _))
  have HB0 := Lib.hid (sbox1 w (.cells #[] 5))
  clear h hn hq
  go_enter Try.func31, Try.ntmps31
  go_wp2_with (at_builtin; refine app_own rfl (.tmp 4) (.tmp 5) rfl rfl HO.out HN.out rfl H.out HQ.out (by rw [← HN.out]; simp; omega) HB0.out.size ?_; intro v1 w1 ho1 hb1; rw [List.nil_append] at ho1; have HO1 := Lib.hid ho1; have HB1 := Lib.hid (HB0.out.trans hb1); clear ho1 hb1)
  go_loopw [3] (fun v wr => ∃ k : Nat, n + k ≤ 512 ∧ Own wr w.heap.size v (l ++ zeros k) ∧ Below w.heap.size w wr) (fun v _ => 512 - (match v with | .slice _ m _ => m | _ => 0))
  case atStart => exact ⟨0, by omega, by show Own _ _ _ (l ++ []); rw [List.append_nil]; exact HO1.out, HB1.out⟩
  case round =>
    obtain ⟨k, hk, ho, hb⟩ := hrel
    have HOr := Lib.hid ho
    have HBr := Lib.hid hb
    obtain ⟨m, hm⟩ : ∃ m, m = (l ++ zeros k).length := ⟨_, rfl⟩
    have hmk : m = n + k := by rw [hm, List.length_append, zeros_length, ← HN.out]
    obtain ⟨p, c', rfl, hc1, hc2, hbs, _⟩ := ho.form hm
    have HM := Lib.hid hm
    clear ho hb hm
    by_cases hlt : m < 512
    · have HLT : LtN m 512 := ⟨hlt⟩
      have hlt' : (m : Int) < 512 := by omega
      go_wp2_with (at_builtin; refine app_own rfl (.tmp 10) (.tmp 11) rfl rfl (HOr.out.alloc _) (m := [0]) rfl rfl (Bs.new _ _ _ _ rfl rfl) (fun h => by cases h) (by rw [← HM.out]; simp; omega) (Nat.le_trans HBr.out.size (sbox1 _ _).size) ?_; intro v2 w2 ho2 hb2; rw [List.append_assoc, zeros_succ] at ho2; have HO2 := Lib.hid ho2; have HB2 := Lib.hid (HBr.out.trans (((sbox1 wr _).mono HBr.out.size).trans hb2)); clear ho2 hb2)
      obtain ⟨m2, hm2⟩ : ∃ m, m = (l ++ zeros (k + 1)).length := ⟨_, rfl⟩
      obtain ⟨p2, c2, rfl, _, _, _, _⟩ := HO2.out.form hm2
      have hm3 : m2 = m + 1 := by rw [hm2, List.length_append, zeros_length, ← HN.out]; omega
      go_roundw
      case rel => exact ⟨k + 1, by have := HLT.h; omega, HO2.out, HB2.out⟩
      case measure => have := HLT.h; simp; omega
    · have hlt' : decide ((m : Int) < 512) = false := decide_eq_false (by omega)
      have hpad : l ++ zeros k = pad l := by
        unfold pad
        rw [← HN.out]
        congr 2
        omega
      rw [hpad] at HOr
      clear hpad
      go_wp2
      go_ret
      exact ⟨_, rfl, HOr.out, HBr.out⟩

end Go.Proofs.Ytholgkmlfgmhfaa
