/-
  What SectorLasts uses: the law's own function, the byte of a slice or 0; which bytes a sector has behind a crash.
-/
import Derived.Test.YtholgkmlfgmhfaaSLaw
set_option linter.unusedVariables false
set_option maxRecDepth 100000
namespace Go.Proofs.Ytholgkmlfgmhfaa
open Go.RowKit

def atB (l : List UInt8) (i : Nat) : UInt8 := l.getD i 0

theorem pad_at {l : List UInt8} (h : l.length ≤ 512) {i : Nat} (hi : i < 512) : (pad l)[i]? = some (atB l i) := by
  unfold pad atB
  rw [List.getD_eq_getElem?_getD]
  rcases Nat.lt_or_ge i l.length with h1 | h1
  · rw [List.getElem?_append_left h1, List.getElem?_eq_getElem h1]
    rfl
  · rw [List.getElem?_append_right h1, List.getElem?_eq_none h1]
    show (zeros _)[_]? = some 0
    unfold zeros
    rw [List.getElem?_replicate, if_pos (by omega)]

theorem over_at (l m : List UInt8) (i : Nat) : (over l m)[i]? = if i < m.length then m[i]? else l[i]? := by
  unfold over
  split
  · rename_i h
    rw [List.getElem?_append_left h]
  · rename_i h
    rw [List.getElem?_append_right (by omega), List.getElem?_drop]
    congr 1
    omega

theorem keepOne_at (f : Int → List UInt8) (x : Wr) (n : Int) (k : Int) (i : Nat) : (keepOne f x n k)[i]? = (f k)[i]? ∨ (x.k = k ∧ (keepOne f x n k)[i]? = x.l[i]?) := by
  unfold keepOne
  split
  · exact .inl rfl
  · unfold putAt
    split
    · rename_i hk
      subst hk
      rw [over_at]
      split
      · rename_i h
        refine .inr ⟨rfl, ?_⟩
        rw [List.getElem?_take, if_pos]
        rw [List.length_take] at h
        omega
      · exact .inl rfl
    · exact .inl rfl

theorem kept_at (f : Int → List UInt8) (k : Int) (i : Nat) : ∀ zs : List (Wr × Int), (kept f zs k)[i]? = (f k)[i]? ∨ ∃ p ∈ zs, p.1.k = k ∧ (kept f zs k)[i]? = p.1.l[i]? := by
  have : ∀ zs : List (Wr × Int), (kept f zs.reverse k)[i]? = (f k)[i]? ∨ ∃ p ∈ zs, p.1.k = k ∧ (kept f zs.reverse k)[i]? = p.1.l[i]? := by
    intro zs
    induction zs with
    | nil => exact .inl rfl
    | cons p zs ih =>
      rw [List.reverse_cons, kept_snoc]
      rcases keepOne_at (kept f zs.reverse) p.1 p.2 k i with h | ⟨h1, h2⟩
      · rw [h]
        rcases ih with h | ⟨q, hq, h1, h2⟩
        · exact .inl h
        · exact .inr ⟨q, by simp [hq], h1, h2⟩
      · exact .inr ⟨p, by simp, h1, h2⟩
  intro zs
  rcases this zs.reverse with h | ⟨p, hp, h⟩
  · rw [List.reverse_reverse] at h
    exact .inl h
  · rw [List.reverse_reverse] at h
    exact .inr ⟨p, by simpa using hp, h⟩

/-- The disk behind i of the later writes. -/
def laW (F : List UInt8) (ls : List Bl) : Nat → SD
  | 0 => ((SD.new 2).write 0 F).flush
  | i + 1 => match ls[i]? with | some x => if x.l.length ≤ 512 then (laW F ls i).write 0 x.l else laW F ls i | none => laW F ls i

theorem laW_succ (F : List UInt8) (ls : List Bl) (i : Nat) {x : Bl} (hx : ls[i]? = some x) : laW F ls (i + 1) = if x.l.length ≤ 512 then (laW F ls i).write 0 x.l else laW F ls i := by
  show (match ls[i]? with | some x => _ | none => _) = _
  rw [hx]
theorem laW_facts (F : List UInt8) (ls : List Bl) : ∀ i : Nat, i ≤ ls.length → (laW F ls i).left = -1 ∧ (laW F ls i).ops ≤ 2 + i ∧ (laW F ls i).waits.length ≤ i ∧ (laW F ls i).size = 2 ∧ (laW F ls i).lasts 0 = pad F ∧ (laW F ls i).lasts 1 = zeros 512 ∧
    ∀ x ∈ (laW F ls i).waits, ∃ y ∈ ls.take i, y.l.length ≤ 512 ∧ x = ⟨0, pad y.l⟩
  | 0, _ => ⟨rfl, by show (2 : Int) ≤ 2 + 0; decide, Nat.le_refl _, rfl, by show flushed _ _ 0 = _; rw [read_flush]; rfl, by show flushed _ _ 1 = _; rw [read_flush]; rfl, fun x hx => by cases hx⟩
  | i + 1, hi => by
    obtain ⟨h1, h2, h3, h4, h5, h6, h7⟩ := laW_facts F ls i (by omega)
    obtain ⟨x, hx⟩ : ∃ x, ls[i]? = some x := ⟨_, List.getElem?_eq_getElem (by omega)⟩
    have ht : ls.take (i + 1) = ls.take i ++ [x] := by rw [List.take_add_one, hx]; rfl
    rw [laW_succ F ls i hx, ht]
    split
    · rename_i hl
      refine ⟨?_, ?_, ?_, h4, h5, h6, ?_⟩
      · show (if 0 < (laW F ls i).left then (laW F ls i).left - 1 else (laW F ls i).left) = _
        rw [h1, if_neg (by decide)]
      · show (laW F ls i).ops + 1 ≤ _
        omega
      · show ((laW F ls i).waits ++ [_]).length ≤ _
        rw [List.length_append]
        simp only [List.length_singleton]
        omega
      · intro y hy
        rcases List.mem_append.1 (show y ∈ (laW F ls i).waits ++ [⟨0, pad x.l⟩] from hy) with hy | hy
        · obtain ⟨z, hz, h⟩ := h7 y hy
          exact ⟨z, List.mem_append.2 (.inl hz), h⟩
        · exact ⟨x, by simp, hl, List.mem_singleton.1 hy⟩
    · refine ⟨h1, by omega, by omega, h4, h5, h6, fun y hy => ?_⟩
      obtain ⟨z, hz, h⟩ := h7 y hy
      exact ⟨z, List.mem_append.2 (.inl hz), h⟩

/-- What the law reckons of a byte: is it one that was flushed, or was written by one of the first k? -/
def okK (b : UInt8) (F : List UInt8) (ls : List Bl) (i : Nat) (k : Nat) : Bool := ((b.toNat : Int) == ((atB F i).toNat : Int)) || (ls.take k).any fun x => decide (x.l.length ≤ 512) && ((b.toNat : Int) == ((atB x.l i).toNat : Int))

theorem okK_succ {b : UInt8} {F : List UInt8} {ls : List Bl} {i k : Nat} {x : Bl} (hx : ls[k]? = some x) : okK b F ls i (k + 1) = (okK b F ls i k || (decide (x.l.length ≤ 512) && ((b.toNat : Int) == ((atB x.l i).toNat : Int)))) := by
  unfold okK
  rw [List.take_add_one, hx, Option.toList_some, List.any_append, Bool.or_assoc]
  simp

theorem okK_end {F : List UInt8} (hF : F.length ≤ 512) {ls : List Bl} {n : Nat} (hn : n ≤ ls.length) (keep : List Int) {i : Nat} (hi : i < 512) {b : UInt8} (hb : (((laW F ls n).crash keep).read 0)[i]? = some b) :
    okK b F ls i n = true ∧ (keep = [] → b = atB F i) := by
  obtain ⟨h1, h2, h3, h4, h5, h6, h7⟩ := laW_facts F ls n hn
  have hr : ((laW F ls n).crash keep).read 0 = kept (laW F ls n).lasts ((laW F ls n).waits.zip keep) 0 := rfl
  rw [hr] at hb
  refine ⟨?_, ?_⟩
  · rcases kept_at (laW F ls n).lasts 0 i ((laW F ls n).waits.zip keep) with h | ⟨p, hp, hk, h⟩
    · rw [h, h5, pad_at hF hi] at hb
      obtain rfl := Option.some.inj hb
      simp [okK]
    · obtain ⟨y, hy, hl, he⟩ := h7 p.1 (List.of_mem_zip (show (p.1, p.2) ∈ _ from hp)).1
      rw [h, he] at hb
      have hb' : (pad y.l)[i]? = some b := hb
      rw [pad_at hl hi] at hb'
      obtain rfl := Option.some.inj hb'
      unfold okK
      rw [Bool.or_eq_true]
      refine .inr (List.any_eq_true.2 ⟨y, hy, ?_⟩)
      simp [hl]
  · rintro rfl
    rw [List.zip_nil_right] at hb
    have hb' : ((laW F ls n).lasts 0)[i]? = some b := hb
    rw [h5, pad_at hF hi] at hb'
    exact (Option.some.inj hb').symm

theorem other_at (F : List UInt8) (ls : List Bl) {n : Nat} (hn : n ≤ ls.length) (keep : List Int) : ((laW F ls n).crash keep).read 1 = zeros 512 := by
  obtain ⟨h1, h2, h3, h4, h5, h6, h7⟩ := laW_facts F ls n hn
  show kept (laW F ls n).lasts ((laW F ls n).waits.zip keep) 1 = _
  have : ∀ zs : List (Wr × Int), (∀ p ∈ zs, p.1.k = 0) → kept (laW F ls n).lasts zs.reverse 1 = (laW F ls n).lasts 1 := by
    intro zs
    induction zs with
    | nil => intro _; rfl
    | cons p zs ih =>
      intro h
      rw [List.reverse_cons, kept_snoc]
      unfold keepOne
      have hp := h p (by simp)
      split
      · exact ih fun q hq => h q (by simp [hq])
      · unfold putAt
        rw [if_neg (by rw [hp]; decide)]
        exact ih fun q hq => h q (by simp [hq])
  have h' := this ((laW F ls n).waits.zip keep).reverse (fun p hp => by
    obtain ⟨y, _, _, he⟩ := h7 p.1 (List.of_mem_zip (show (p.1, p.2) ∈ _ from by simpa using hp)).1
    rw [he])
  rw [List.reverse_reverse] at h'
  rw [h', h6]

/-- What the law holds while it looks at the bytes. -/
structure LaEnd (w wr : World) (g1 g2 : Nat) (R : List UInt8) : Prop where
  b : Sec wr g1 R
  o : Sec wr g2 (zeros 512)
  below : Below w.heap.size w wr
theorem LaEnd.on {w wr w' : World} {g1 g2 : Nat} {R : List UInt8} (h : LaEnd w wr g1 g2 R) (hb : Below wr.heap.size wr w') : LaEnd w w' g1 g2 R := ⟨h.b.below hb, h.o.below hb, h.below.trans (hb.mono h.below.size)⟩

theorem zeros_at {n i : Nat} (h : i < n) : (u8s (zeros n))[i]? = some (.int .u8 0) := by
  unfold u8s zeros
  rw [List.getElem?_map, List.getElem?_replicate, if_pos h]
  rfl

set_option maxHeartbeats 400000 in
theorem at_any {w : World} {q : Option Addr} {l : List UInt8} (h : Bs w q l) {n : Nat} (c : Nat) (hn : n = l.length) (hn63 : n ≤ 9223372036854775807) (i : Nat) :
    Calls Try.prog 23 #[.slice q n c, .int .i64 (i : Int)] w fun e w' => e = .returned (.int .u8 ((atB l i).toNat : Int)) ∧ w' = w := by
  by_cases hi : i < n
  · obtain ⟨b, o, rfl, _, hc⟩ := h.at (by omega)
    have hci := hc i (by omega)
    have e : atB l i = l[i]'(by omega) := by unfold atB; rw [List.getD_eq_getElem?_getD, List.getElem?_eq_getElem (by omega)]; rfl
    rw [← e] at hci
    have hi0 : (0 : Int) ≤ (i : Int) := by omega
    have hi1 : (i : Int) < (n : Int) := by omega
    clear hn h hc e
    go_enter Try.func23, Try.ntmps23
    go_wp2
    go_ret
    exact ⟨rfl, rfl⟩
  · have e : atB l i = 0 := by unfold atB; rw [List.getD_eq_getElem?_getD, List.getElem?_eq_none (by omega)]; rfl
    have hi1 : decide ((i : Int) < (n : Int)) = false := decide_eq_false (by omega)
    have hi2 : decide (i < n) = false := decide_eq_false hi
    rw [e]
    clear hn h e
    go_enter Try.func23, Try.ntmps23
    go_wp2
    go_ret
    exact ⟨rfl, rfl⟩

end Go.Proofs.Ytholgkmlfgmhfaa
