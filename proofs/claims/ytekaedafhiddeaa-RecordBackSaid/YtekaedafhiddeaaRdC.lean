/-
  The reader of records: what it holds in memory; next at texts, numbers and values, count, done: contracts for the walks.
-/
import Derived.Test.YtekaedafhiddeaaRdP
import Derived.Test.YtekaedafhiddeaaRText
import Derived.Test.YtekaedafhiddeaaRInt
import Derived.Test.YtekaedafhiddeaaKRList
import Derived.Test.YtekaedafhiddeaaRApart
set_option linter.unusedVariables false
set_option maxRecDepth 100000
namespace Go.Proofs.Ytekaedafhiddeaa
open Go.RowKit

/-- All blocks stay but g. -/
theorem gb_refl (w : World) (g : Nat) : w.grownBy w (some g) := ⟨rfl, rfl, rfl, Nat.le_refl _, fun _ _ _ => rfl⟩
theorem gb_below {w w' : World} {g : Nat} (h : Below w.heap.size w w') : w.grownBy w' (some g) := ⟨h.os, h.tape, h.output, h.size, fun k hk _ => h.block k hk⟩
theorem gb_trans {w w1 w2 : World} {g : Nat} (h : w.grownBy w1 (some g)) (h' : w1.grownBy w2 (some g)) : w.grownBy w2 (some g) :=
  ⟨h'.os.trans h.os, h'.tape.trans h.tape, h'.output.trans h.output, Nat.le_trans h.size h'.size, fun k hk hne => (h'.block k (Nat.lt_of_lt_of_le hk h.size) hne).trans (h.block k hk hne)⟩
theorem gb_set {w w1 : World} {g : Nat} (h : w.grownBy w1 (some g)) (i : Nat) (v : Value) : w.grownBy (w1.setCell ⟨g, i, none⟩ v) (some g) :=
  ⟨h.os, h.tape, h.output, by simpa using h.size, fun k hk hne => by
    have hk' : k ≠ g := fun e => hne (by rw [e])
    have e : (w1.setCell ⟨g, i, none⟩ v).heap[k]? = w1.heap[k]? := by simp [World.setCell, Array.getElem?_modify, Ne.symm hk']
    rw [e]
    exact h.block k hk hne⟩
theorem gb_low {w w' : World} {g : Nat} (h : w.grownBy w' (some g)) (hg : g ≤ w.heap.size) : Below g w w' := ⟨h.os, h.tape, h.output, h.size, fun k hk => h.block k (by omega) (fun e => by have := Option.some.inj e; omega)⟩
theorem Bs.low {w w' : World} {g : Nat} {p : Option Addr} {l : List UInt8} (h : Bs w p l) (hp : ∀ a, p = some a → a.block < g) (hb : Below g w w') : Bs w' p l := by
  intro hne
  obtain ⟨b, o, hpe, hc⟩ := h hne
  exact ⟨b, o, hpe, fun i u hi => by rw [hb.cell (p := ⟨b, o + i, none⟩) (hp ⟨b, o, none⟩ hpe)]; exact hc i u hi⟩

/-- The reader stands at g: what is left, and whether it was wrong. -/
def RdC (w : World) (g : Nat) (s : RS) : Prop :=
  ∃ p n c, w.heap[g]? = some (.cells #[.slice p n c, .bool s.2] 68 (0, 0)) ∧ Bs w p s.1 ∧ n = s.1.length ∧ n ≤ c ∧ c ≤ 9223372036854775807 ∧ (p = none → c = 0) ∧ ∀ a, p = some a → a.block < g
theorem RdC.lt {w : World} {g : Nat} {s : RS} (h : RdC w g s) : g < w.heap.size := by
  obtain ⟨p, n, c, hb, _⟩ := h
  exact (Array.getElem?_eq_some_iff.1 hb).1
theorem RdC.below {w w' : World} {g B : Nat} {s : RS} (h : RdC w g s) (hb : Below B w w') (hB : g < B) : RdC w' g s := by
  obtain ⟨p, n, c, h1, h2, h3, h4, h5, h6, h7⟩ := h
  exact ⟨p, n, c, by rw [hb.block g hB]; exact h1, h2.low h7 (hb.mono (by omega)), h3, h4, h5, h6, h7⟩
theorem rd_cells {w : World} {g : Nat} {a b : Value} {t : TypeId} (h : w.heap[g]? = some (.cells #[a, b] t (0, 0))) : (w.cell? ⟨g, 0, none⟩ = some a ∧ w.frozen? ⟨g, 0, none⟩ = false) ∧ (w.cell? ⟨g, 1, none⟩ = some b ∧ w.frozen? ⟨g, 1, none⟩ = false) :=
  ⟨⟨Joins.cell_of_block h 0, Joins.unfrozen_of_block h 0⟩, Joins.cell_of_block h 1, Joins.unfrozen_of_block h 1⟩
theorem rd_set0 {w : World} {g : Nat} {a b v : Value} {t : TypeId} (h : w.heap[g]? = some (.cells #[a, b] t (0, 0))) : (w.setCell ⟨g, 0, none⟩ v).heap[g]? = some (.cells #[v, b] t (0, 0)) := by
  simp [World.setCell, Array.getElem?_modify, h]
theorem rd_set1 {w : World} {g : Nat} {a b v : Value} {t : TypeId} (h : w.heap[g]? = some (.cells #[a, b] t (0, 0))) : (w.setCell ⟨g, 1, none⟩ v).heap[g]? = some (.cells #[a, v] t (0, 0)) := by
  simp [World.setCell, Array.getElem?_modify, h]

set_option maxHeartbeats 1600000 in
theorem nextS_any {w : World} {g : Nat} {s : RS} (h : RdC w g s) (hlen : s.1.length ≤ 100000) :
    Calls Try.prog 58 #[.pointer (some ⟨g, 0, none⟩), .func (.func 59) #[] #[]] w fun e w' => e = .returned (.string (txtS s).1) ∧ RdC w' g (txtS s).2 ∧ w.grownBy w' (some g) := by
  have eg : ∀ args (w : World), (callFunc 59 args).run Try.prog w = .ok (.enter 59 args) w := fun _ _ => rfl
  obtain ⟨l, b⟩ := s
  have hg := h.lt
  have HR := Lib.hid h
  obtain ⟨p, n, c, hblk, hbs, hn, hnc, hc, hp, hlo⟩ := h
  obtain ⟨⟨c0, f0⟩, c1, f1⟩ := rd_cells hblk
  dsimp only at c1 hbs hn hlen hblk
  cases b
  · have HRT : Hid (Calls Try.prog 59 #[.slice p n c] w (RPost w l)) := Lib.hid (readText_any hbs n c hn hnc hc hp hlen)
    obtain ⟨er, tx, u, hr⟩ : ∃ er tx u, rdT l = (er, tx, u) := ⟨_, _, _, rfl⟩
    have hsound := rdT_sound l
    have hx : txtS (l, false) = if er = 0 then (⟨tx.toArray⟩, (l.drop u, false)) else (str0, (l, true)) := by
      unfold txtS
      rw [if_neg (by simp)]
      dsimp only
      rw [hr]
    rw [hr] at hsound
    have HX := Lib.hid hx
    have HBLK := Lib.hid hblk
    have HBS := Lib.hid hbs
    have HN := Lib.hid hn
    have HLO := Lib.hid hlo
    have HP := Lib.hid hp
    have HRR := Lib.hid hr
    clear hx hblk hbs hn hlo hp hr HR hlen
    generalize txtS (l, false) = X at *
    by_cases he : er = 0
    · have hu : u ≤ n := by
        rcases hsound with ⟨g1, _⟩ | ⟨_, _, g3, _⟩
        · exact absurd he g1
        · have := HN.out; dsimp only at g3; omega
      have HXX : Hid (X = (⟨tx.toArray⟩, (l.drop u, false))) := Lib.hid (by rw [HX.out, if_pos he])
      obtain ⟨q, hq, hq0, hqb⟩ := from_run (p := p) (l := l) (c := c) (u := u) HN.out hnc hu HP.out
      have HQ0 := Lib.hid hq0
      have HQB := Lib.hid hqb
      have HQL : Hid (∀ a, q = some a → a.block < g) := Lib.hid (by
        intro a ha
        rw [← hq] at ha
        split at ha
        · exact HLO.out a ha
        · cases p with
          | none => cases ha
          | some b =>
            simp only [Option.map_some, Option.some.injEq] at ha
            rw [← ha]
            have e : (b.add u).block = b.block := by unfold Addr.add; split <;> rfl
            rw [e]
            exact HLO.out b rfl)
      clear hsound hq0 hqb HX
      subst he
      go_enter Try.func58, Try.ntmps58
      go_wp2_with fail
      refine HRT.out.mono ?_
      intro e w1 hpost
      obtain ⟨he1, hb1⟩ := rpost_out HRR.out hpost
      subst he1
      have HB1 := Lib.hid hb1
      have HBLK1 : Hid (w1.heap[g]? = some (.cells #[.slice p n c, .bool false] 68 (0, 0))) := Lib.hid (by rw [hb1.block g hg]; exact HBLK.out)
      obtain ⟨⟨d0, e0⟩, d1, e1⟩ := rd_cells HBLK1.out
      have hg1 : g < w1.heap.size := by have := hb1.size; omega
      clear hpost hb1 c0 f0 c1 f1
      go_wp2
      go_ret
      refine ⟨by rw [HXX.out]; rfl, ?_, gb_set (gb_below HB1.out) 0 _⟩
      rw [HXX.out]
      have hlow : Below g w (w1.setCell ⟨g, 0, none⟩ (.slice q (n - u) (c - u))) := gb_low (gb_set (gb_below HB1.out) 0 _) (by omega)
      exact ⟨q, n - u, c - u, rd_set0 HBLK1.out, HQB.out _ (HBS.out.low HLO.out hlow), by rw [List.length_drop, HN.out], by omega, by omega, HQ0.out, HQL.out⟩
    · have HXX : Hid (X = (str0, (l, true))) := Lib.hid (by rw [HX.out, if_neg he])
      have hen : (er != 0) = true := by simpa using he
      have HE := Lib.hid he
      clear hsound he HX
      go_enter Try.func58, Try.ntmps58
      go_wp2_with fail
      refine HRT.out.mono ?_
      intro e w1 hpost
      obtain ⟨he1, hb1⟩ := rpost_out HRR.out hpost
      subst he1
      have HB1 := Lib.hid hb1
      have HBLK1 : Hid (w1.heap[g]? = some (.cells #[.slice p n c, .bool false] 68 (0, 0))) := Lib.hid (by rw [hb1.block g hg]; exact HBLK.out)
      obtain ⟨⟨d0, e0⟩, d1, e1⟩ := rd_cells HBLK1.out
      have hg1 : g < w1.heap.size := by have := hb1.size; omega
      clear hpost hb1 c0 f0 c1 f1
      go_wp2
      go_ret
      refine ⟨by rw [HXX.out]; rfl, ?_, gb_set (gb_below HB1.out) 1 _⟩
      rw [HXX.out]
      have hlow : Below g w (w1.setCell ⟨g, 1, none⟩ (.bool true)) := gb_low (gb_set (gb_below HB1.out) 1 _) (by omega)
      exact ⟨p, n, c, rd_set1 HBLK1.out, HBS.out.low HLO.out hlow, HN.out, hnc, hc, HP.out, HLO.out⟩
  · have hx : txtS (l, true) = (str0, (l, true)) := by unfold txtS; rw [if_pos rfl]
    have HX := Lib.hid hx
    clear hx hblk hbs hn hlo hp hlen
    generalize txtS (l, true) = X at *
    go_enter Try.func58, Try.ntmps58
    go_wp2
    go_ret
    exact ⟨by rw [HX.out]; rfl, by rw [HX.out]; exact HR.out, gb_refl _ _⟩

def JPost (w : World) (l : List UInt8) (e : Ending) (w' : World) : Prop := e = .returned (.tuple #[.int .i64 (rdJ l).2.1, .int .i64 ((rdJ l).2.2 : Nat), .int .i64 (rdJ l).1]) ∧ Below w.heap.size w w'
theorem jpost_out {w w' : World} {l : List UInt8} {s : Int} {k : Nat} {x : Int} {e : Ending} (h : rdJ l = (x, s, k)) (hp : JPost w l e w') : e = .returned (.tuple #[.int .i64 s, .int .i64 k, .int .i64 x]) ∧ Below w.heap.size w w' := by
  unfold JPost at hp
  rw [h] at hp
  exact hp
theorem rdJ_used (l : List UInt8) : (rdJ l).1 = 0 → (rdJ l).2.2 ≤ l.length := by
  unfold rdJ
  split
  · intro h; cases h
  · intro _; dsimp only; omega
theorem readJ_any {w : World} {p : Option Addr} {l : List UInt8} (hl : Bs w p l) (n c : Nat) (hn : n = l.length) (hnc : n ≤ c) (hc : c ≤ 9223372036854775807) :
    Calls Try.prog 62 #[.slice p n c] w (JPost w l) := by
  refine (readInt_any hl n c hn hnc hc).mono ?_
  rintro e w' ⟨rfl, rfl⟩
  refine ⟨?_, Below.refl _ _⟩
  unfold rdI rdJ
  split <;> rfl

set_option maxHeartbeats 1600000 in
theorem nextI_any {w : World} {g : Nat} {s : RS} (h : RdC w g s) (hlen : s.1.length ≤ 100000) :
    Calls Try.prog 61 #[.pointer (some ⟨g, 0, none⟩), .func (.func 62) #[] #[]] w fun e w' => e = .returned (.int .i64 (intS s).1) ∧ RdC w' g (intS s).2 ∧ w.grownBy w' (some g) := by
  have eg : ∀ args (w : World), (callFunc 62 args).run Try.prog w = .ok (.enter 62 args) w := fun _ _ => rfl
  obtain ⟨l, b⟩ := s
  have hg := h.lt
  have HR := Lib.hid h
  obtain ⟨p, n, c, hblk, hbs, hn, hnc, hc, hp, hlo⟩ := h
  obtain ⟨⟨c0, f0⟩, c1, f1⟩ := rd_cells hblk
  dsimp only at c1 hbs hn hlen hblk
  cases b
  · have HRT : Hid (Calls Try.prog 62 #[.slice p n c] w (JPost w l)) := Lib.hid (readJ_any hbs n c hn hnc hc)
    obtain ⟨er, tx, u, hr⟩ : ∃ er tx u, rdJ l = (er, tx, u) := ⟨_, _, _, rfl⟩
    have hsound := rdJ_used l
    have hx : intS (l, false) = if er = 0 then (tx, (l.drop u, false)) else (0, (l, true)) := by
      unfold intS
      rw [if_neg (by simp)]
      dsimp only
      rw [hr]
    rw [hr] at hsound
    have HX := Lib.hid hx
    have HBLK := Lib.hid hblk
    have HBS := Lib.hid hbs
    have HN := Lib.hid hn
    have HLO := Lib.hid hlo
    have HP := Lib.hid hp
    have HRR := Lib.hid hr
    clear hx hblk hbs hn hlo hp hr HR hlen
    generalize intS (l, false) = X at *
    by_cases he : er = 0
    · have hu : u ≤ n := by
        have g3 := hsound he
        have := HN.out
        dsimp only at g3
        omega
      have HXX : Hid (X = (tx, (l.drop u, false))) := Lib.hid (by rw [HX.out, if_pos he])
      obtain ⟨q, hq, hq0, hqb⟩ := from_run (p := p) (l := l) (c := c) (u := u) HN.out hnc hu HP.out
      have HQ0 := Lib.hid hq0
      have HQB := Lib.hid hqb
      have HQL : Hid (∀ a, q = some a → a.block < g) := Lib.hid (by
        intro a ha
        rw [← hq] at ha
        split at ha
        · exact HLO.out a ha
        · cases p with
          | none => cases ha
          | some b =>
            simp only [Option.map_some, Option.some.injEq] at ha
            rw [← ha]
            have e : (b.add u).block = b.block := by unfold Addr.add; split <;> rfl
            rw [e]
            exact HLO.out b rfl)
      clear hsound hq0 hqb HX
      subst he
      go_enter Try.func61, Try.ntmps61
      go_wp2_with fail
      refine HRT.out.mono ?_
      intro e w1 hpost
      obtain ⟨he1, hb1⟩ := jpost_out HRR.out hpost
      subst he1
      have HB1 := Lib.hid hb1
      have HBLK1 : Hid (w1.heap[g]? = some (.cells #[.slice p n c, .bool false] 68 (0, 0))) := Lib.hid (by rw [hb1.block g hg]; exact HBLK.out)
      obtain ⟨⟨d0, e0⟩, d1, e1⟩ := rd_cells HBLK1.out
      have hg1 : g < w1.heap.size := by have := hb1.size; omega
      clear hpost hb1 c0 f0 c1 f1
      go_wp2
      go_ret
      refine ⟨by rw [HXX.out]; rfl, ?_, gb_set (gb_below HB1.out) 0 _⟩
      rw [HXX.out]
      have hlow : Below g w (w1.setCell ⟨g, 0, none⟩ (.slice q (n - u) (c - u))) := gb_low (gb_set (gb_below HB1.out) 0 _) (by omega)
      exact ⟨q, n - u, c - u, rd_set0 HBLK1.out, HQB.out _ (HBS.out.low HLO.out hlow), by rw [List.length_drop, HN.out], by omega, by omega, HQ0.out, HQL.out⟩
    · have HXX : Hid (X = (0, (l, true))) := Lib.hid (by rw [HX.out, if_neg he])
      have hen : (er != 0) = true := by simpa using he
      have HE := Lib.hid he
      clear hsound he HX
      go_enter Try.func61, Try.ntmps61
      go_wp2_with fail
      refine HRT.out.mono ?_
      intro e w1 hpost
      obtain ⟨he1, hb1⟩ := jpost_out HRR.out hpost
      subst he1
      have HB1 := Lib.hid hb1
      have HBLK1 : Hid (w1.heap[g]? = some (.cells #[.slice p n c, .bool false] 68 (0, 0))) := Lib.hid (by rw [hb1.block g hg]; exact HBLK.out)
      obtain ⟨⟨d0, e0⟩, d1, e1⟩ := rd_cells HBLK1.out
      have hg1 : g < w1.heap.size := by have := hb1.size; omega
      clear hpost hb1 c0 f0 c1 f1
      go_wp2
      go_ret
      refine ⟨by rw [HXX.out]; rfl, ?_, gb_set (gb_below HB1.out) 1 _⟩
      rw [HXX.out]
      have hlow : Below g w (w1.setCell ⟨g, 1, none⟩ (.bool true)) := gb_low (gb_set (gb_below HB1.out) 1 _) (by omega)
      exact ⟨p, n, c, rd_set1 HBLK1.out, HBS.out.low HLO.out hlow, HN.out, hnc, hc, HP.out, HLO.out⟩
  · have hx : intS (l, true) = (0, (l, true)) := by unfold intS; rw [if_pos rfl]
    have HX := Lib.hid hx
    clear hx hblk hbs hn hlo hp hlen
    generalize intS (l, true) = X at *
    go_enter Try.func61, Try.ntmps61
    go_wp2
    go_ret
    exact ⟨by rw [HX.out]; rfl, by rw [HX.out]; exact HR.out, gb_refl _ _⟩

set_option maxHeartbeats 800000 in
theorem text_any {w : World} {g : Nat} {s : RS} (h : RdC w g s) (hlen : s.1.length ≤ 100000) :
    Calls Try.prog 29 #[.pointer (some ⟨g, 0, none⟩)] w fun e w' => e = .returned (.string (txtS s).1) ∧ RdC w' g (txtS s).2 ∧ w.grownBy w' (some g) := by
  have H := Lib.hid (nextS_any h hlen)
  clear h hlen
  generalize txtS s = X at *
  obtain ⟨x, s'⟩ := X
  go_enter Try.func29, Try.ntmps29
  go_wp2_with fail
  refine H.out.mono ?_
  rintro e w1 ⟨rfl, h1, h2⟩
  go_wp2
  go_ret
  exact ⟨rfl, h1, h2⟩

set_option maxHeartbeats 800000 in
theorem numbR_any {w : World} {g : Nat} {s : RS} (h : RdC w g s) (hlen : s.1.length ≤ 100000) :
    Calls Try.prog 34 #[.pointer (some ⟨g, 0, none⟩)] w fun e w' => e = .returned (.int .i64 (intS s).1) ∧ RdC w' g (intS s).2 ∧ w.grownBy w' (some g) := by
  have H := Lib.hid (nextI_any h hlen)
  clear h hlen
  generalize intS s = X at *
  obtain ⟨x, s'⟩ := X
  go_enter Try.func34, Try.ntmps34
  go_wp2_with fail
  refine H.out.mono ?_
  rintro e w1 ⟨rfl, h1, h2⟩
  go_wp2
  go_ret
  exact ⟨rfl, h1, h2⟩

set_option maxHeartbeats 800000 in
theorem done_any {w : World} {g : Nat} {s : RS} (h : RdC w g s) :
    Calls Try.prog 31 #[.pointer (some ⟨g, 0, none⟩)] w fun e w' => e = .returned (.bool (!s.2 && s.1.isEmpty)) ∧ w = w' := by
  obtain ⟨l, b⟩ := s
  have hg := h.lt
  obtain ⟨p, n, c, hblk, hbs, hn, hnc, hc, hp, hlo⟩ := h
  obtain ⟨⟨c0, f0⟩, c1, f1⟩ := rd_cells hblk
  dsimp only at c1 hbs hn hblk
  have hnot : ∀ (x : Bool) (w : World), (Op.unary .not (.bool x)).run Try.prog w = .ok (.bool (!x)) w := fun _ _ => rfl
  have hz : ((n : Int) == 0) = l.isEmpty := by
    rw [hn]
    cases l with
    | nil => rfl
    | cons a l => rw [beq_eq_false_iff_ne.2 (by simp only [List.length_cons]; omega)]; rfl
  have HZ := Lib.hid hz
  clear hblk hbs hn hlo hp hz
  dsimp only
  cases b
  · by_cases h0 : n = 0
    · have hz1 : ((n : Int) == 0) = true := by rw [h0]; rfl
      go_enter Try.func31, Try.ntmps31
      go_wp2
      go_ret
      exact ⟨ret_bool (by rw [← HZ.out, h0]; rfl), rfl⟩
    · have hz1 : ((n : Int) == 0) = false := by rw [beq_eq_false_iff_ne]; omega
      have HZ1 := Lib.hid hz1
      go_enter Try.func31, Try.ntmps31
      go_wp2
      go_ret
      exact ⟨ret_bool (by rw [← HZ.out, HZ1.out]; rfl), rfl⟩
  · go_enter Try.func31, Try.ntmps31
    go_wp2
    go_ret
    exact ⟨rfl, rfl⟩

set_option maxHeartbeats 1600000 in
theorem count_any2 {w : World} {g : Nat} {s : RS} (h : RdC w g s) (most : Nat) (hm : most ≤ 255) :
    Calls Try.prog 28 #[.pointer (some ⟨g, 0, none⟩), .int .i64 (most : Int)] w fun e w' => e = .returned (.int .i64 ((cntS most s).1 : Nat)) ∧ RdC w' g (cntS most s).2 ∧ w.grownBy w' (some g) := by
  obtain ⟨l, b⟩ := s
  have hg := h.lt
  have HR := Lib.hid h
  obtain ⟨p, n, c, hblk, hbs, hn, hnc, hc, hp, hlo⟩ := h
  obtain ⟨⟨c0, f0⟩, c1, f1⟩ := rd_cells hblk
  dsimp only at c1 hbs hn hblk
  have HBLK := Lib.hid hblk
  have HBS := Lib.hid hbs
  have HN := Lib.hid hn
  have HLO := Lib.hid hlo
  have HP := Lib.hid hp
  have hw1 : RdC (w.setCell ⟨g, 1, none⟩ (.bool true)) g (l, true) := ⟨p, n, c, rd_set1 hblk, hbs.low hlo (gb_low (gb_set (gb_refl w g) 1 _) (by omega)), hn, hnc, hc, hp, hlo⟩
  have HW1 := Lib.hid hw1
  clear hblk hbs hn hlo hp hw1
  cases b
  · cases l with
    | nil =>
      have h0 : n = 0 := HN.out
      subst h0
      have hx : cntS most ([], false) = (0, ([], true)) := rfl
      rw [hx]
      go_enter Try.func28, Try.ntmps28
      go_wp2
      go_ret
      exact ⟨rfl, HW1.out, gb_set (gb_refl _ _) 1 _⟩
    | cons x r =>
      have hn1 : 1 ≤ n := by have := HN.out; simp only [List.length_cons] at this; omega
      have hn0 : ((n : Int) == 0) = false := by rw [beq_eq_false_iff_ne]; omega
      obtain ⟨b0, o0, rfl, hb0, hcs⟩ := HBS.out.at (by simp)
      have cx := hcs 0 (by simp)
      simp only [List.getElem_cons_zero, Nat.add_zero] at cx
      have hbg : b0 < g := HLO.out _ rfl
      have hbg' : b0 ≠ g := by omega
      have hx255 := x.toNat_lt
      by_cases hle : x.toNat ≤ most
      · have hx : cntS most (x :: r, false) = (x.toNat, (r, false)) := by unfold cntS; dsimp only; rw [if_pos hle]
        rw [hx]
        have hgt : ¬ (most : Int) < (x.toNat : Int) := by omega
        have hnr : n - 1 = r.length := by have := HN.out; simp only [List.length_cons] at this; omega
        by_cases hc1 : c = 1
        · have hn1' : n = 1 := by omega
          subst hc1 hn1'
          have hr : r = [] := List.eq_nil_of_length_eq_zero hnr.symm
          subst hr
          have HW0 : Hid (RdC (w.setCell ⟨g, 0, none⟩ (.slice (some ⟨b0, o0, none⟩) 0 0)) g ([], false)) := Lib.hid ⟨some ⟨b0, o0, none⟩, 0, 0, rd_set0 HBLK.out, Bs.nil _ _, rfl, by omega, by omega, (fun h => by cases h), fun a ha => by obtain rfl := Option.some.inj ha; exact hbg⟩
          go_enter Try.func28, Try.ntmps28
          go_wp2
          go_ret
          exact ⟨rfl, HW0.out, gb_set (gb_refl _ _) 0 _⟩
        · have HW0 : Hid (RdC (w.setCell ⟨g, 0, none⟩ (.slice (some ⟨b0, o0 + 1, none⟩) (n - 1) (c - 1))) g (r, false)) := Lib.hid (by
            have hlow : Below g w (w.setCell ⟨g, 0, none⟩ (.slice (some ⟨b0, o0 + 1, none⟩) (n - 1) (c - 1))) := gb_low (gb_set (gb_refl w g) 0 _) (by omega)
            refine ⟨some ⟨b0, o0 + 1, none⟩, n - 1, c - 1, rd_set0 HBLK.out, ?_, hnr, by omega, by omega, (fun h => by cases h), fun a ha => by obtain rfl := Option.some.inj ha; exact hbg⟩
            have h2 := HBS.out.low HLO.out hlow
            have h3 := Bs.drop (w := w.setCell ⟨g, 0, none⟩ (.slice (some ⟨b0, o0 + 1, none⟩) (n - 1) (c - 1))) (l := x :: r) (b := b0) (o := o0) (by
              obtain ⟨b', o', hp, hcc⟩ := h2 (by simp)
              simp only [Option.some.injEq, Addr.mk.injEq, and_true] at hp
              obtain ⟨rfl, rfl⟩ := hp
              exact hcc) 1
            exact h3)
          clear hnr
          go_enter Try.func28, Try.ntmps28
          go_wp2
          go_ret
          exact ⟨rfl, HW0.out, gb_set (gb_refl _ _) 0 _⟩
      · have hx : cntS most (x :: r, false) = (0, (x :: r, true)) := by unfold cntS; dsimp only; rw [if_neg hle]
        rw [hx]
        have hgt : (most : Int) < (x.toNat : Int) := by omega
        go_enter Try.func28, Try.ntmps28
        go_wp2
        go_ret
        exact ⟨rfl, HW1.out, gb_set (gb_refl _ _) 1 _⟩
  · have hx : cntS most (l, true) = (0, (l, true)) := by cases l <;> rfl
    rw [hx]
    go_enter Try.func28, Try.ntmps28
    go_wp2
    go_ret
    exact ⟨rfl, HW1.out, gb_set (gb_refl _ _) 1 _⟩

end Go.Proofs.Ytekaedafhiddeaa
