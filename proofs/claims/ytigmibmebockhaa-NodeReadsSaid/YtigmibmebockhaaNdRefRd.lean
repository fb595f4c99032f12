/-
  The reference's reader: take, two: contracts.
-/
import Derived.Test.YtigmibmebockhaaNdRefP
import Derived.Test.YtigmibmebockhaaNdRd
set_option linter.unusedVariables false
set_option linter.unusedSimpArgs false
set_option maxRecDepth 100000
namespace Go.Proofs.Ytigmibmebockhaa
open Go.RowKit

/-- What was not read yet stands at g, and whether too little was there. -/
def RsR (w : World) (g : Nat) (l : List UInt8) (bad : Bool) : Prop :=
  ∃ p n c, w.heap[g]? = some (.cells #[.slice p n c, .bool bad] 62 (0, 0)) ∧ Bs w p l ∧ n = l.length ∧ n ≤ c ∧ c ≤ 9223372036854775807 ∧ (p = none → c = 0) ∧ ∀ a, p = some a → l ≠ [] → a.block < g
theorem bs_low2 {w w' : World} {g : Nat} {p : Option Addr} {l : List UInt8} (h : Bs w p l) (hlo : ∀ a, p = some a → l ≠ [] → a.block < g) (hb : Below g w w') : Bs w' p l := by
  by_cases hl : l = []
  · subst hl
    exact Bs.nil _ _
  · exact h.low (fun a ha => hlo a ha hl) hb
theorem RsR.lt {w : World} {g : Nat} {l : List UInt8} {b : Bool} (h : RsR w g l b) : g < w.heap.size := by
  obtain ⟨p, n, c, hb, _⟩ := h
  exact (Array.getElem?_eq_some_iff.1 hb).1
theorem RsR.low {w w' : World} {g : Nat} {l : List UInt8} {b : Bool} (h : RsR w g l b) (hb : Below (g + 1) w w') : RsR w' g l b := by
  obtain ⟨p, n, c, h1, h2, h3, h4, h5, h6, h7⟩ := h
  exact ⟨p, n, c, by rw [hb.block g (by omega)]; exact h1, bs_low2 h2 h7 (hb.mono (by omega)), h3, h4, h5, h6, h7⟩
theorem RsR.below {w w' : World} {g : Nat} {l : List UInt8} {b : Bool} (h : RsR w g l b) (hb : Below w.heap.size w w') : RsR w' g l b := h.low (hb.mono h.lt)
theorem rsr_set0 {w : World} {g : Nat} {a b v : Value} {t : TypeId} (h : w.heap[g]? = some (.cells #[a, b] t (0, 0))) : (w.setCell ⟨g, 0, none⟩ v).heap[g]? = some (.cells #[v, b] t (0, 0)) := by
  simp [World.setCell, Array.getElem?_modify, h]
theorem rsr_set1 {w : World} {g : Nat} {a b v : Value} {t : TypeId} (h : w.heap[g]? = some (.cells #[a, b] t (0, 0))) : (w.setCell ⟨g, 1, none⟩ v).heap[g]? = some (.cells #[a, v] t (0, 0)) := by
  simp [World.setCell, Array.getElem?_modify, h]

theorem make_own (k : Nat) (hk : k ≤ 70000) : ∃ Z : Array Value, (∀ w : World, (Instr.makeSlice 22 (.int .i64 (k : Int)) (.int .i64 (k : Int))).run Try.prog w = .ok (.slice (some ⟨w.heap.size, 0, none⟩) k k) (w.alloc (.cells Z 5))) ∧
    ∀ (w : World) (B : Nat), B ≤ w.heap.size → Own (w.alloc (.cells Z 5)) B (.slice (some ⟨w.heap.size, 0, none⟩) k k) (List.replicate k 0) := by
  obtain ⟨i, hi, hz0, hz1, hz2⟩ := info_parts info_u8
  refine ⟨_, fun w => (run_makeSlice (P := Try.prog) (w := w) 22 5 i (.int .u8 0) Try.underlying22 hi hz0 .i64 .i64 (k : Int) (k : Int) (by omega) (by omega) (by rw [hz1]; omega) (by rw [hz2]; omega) (by omega)).trans rfl, fun w B hB => ?_⟩
  refine ⟨by simp [u8s], .inr ⟨w.heap.size, k, _, by rw [List.length_replicate], hB, heap_alloc_new w _, by simp, by unfold maxLen; omega, ?_, ?_⟩⟩
  · rw [hz1]
    simp [madeCells, Value.cells]
  · rw [hz1]
    simp only [madeCells, Value.cells, u8s, List.map_replicate, Nat.mul_one]
    refine List.ext_getElem (by simp) fun i h1 h2 => ?_
    simp [Nat.mod_one]

/-- What take answers: bytes of the call's own; they are what stood there, or too little did. -/
def TakePost (w : World) (g k : Nat) (l : List UInt8) (bad : Bool) (e : Ending) (w' : World) : Prop :=
  ∃ q c t, e = .returned (.slice q k c) ∧ k = t.length ∧ Own w' w.heap.size (.slice q k c) t ∧ w.grownBy w' (some g) ∧
    ((bad = false ∧ k ≤ l.length ∧ t = l.take k ∧ RsR w' g (l.drop k) false) ∨ ((bad = true ∨ l.length < k) ∧ RsR w' g l true))

theorem Own.fresh0 {w : World} {B g : Nat} (hg : g = w.heap.size) (hB : B ≤ g) : Own (w.alloc (.cells #[] 5)) B (.slice (Option.some ⟨g, 0, none⟩) 0 0) [] := by
  subst hg
  exact ⟨rfl, .inr ⟨w.heap.size, 0, #[], rfl, hB, heap_alloc_new w _, Nat.le_refl _, by simp [maxLen], rfl, rfl⟩⟩
theorem rown_set {w : World} {B : Nat} {v : Value} {l : List UInt8} (h : Own w B v l) {g i : Nat} (hg : g < B) (x : Value) : Own (w.setCell ⟨g, i, none⟩ x) B v l := by
  refine ⟨h.1, ?_⟩
  rcases h.2 with h0 | ⟨k, cap, cur, hv, h1, hk, h2⟩
  · exact .inl h0
  · exact .inr ⟨k, cap, cur, hv, h1, by rw [heap_setCell_other _ _ _ _ (show k ≠ g from by omega)]; exact hk, h2⟩

set_option maxHeartbeats 1600000 in
theorem take_any {w : World} {g : Nat} {l : List UInt8} {bad : Bool} (h : RsR w g l bad) (hl : l.length ≤ 100000) (k : Nat) (hk : k ≤ 70000) :
    Calls Try.prog 27 #[.pointer (some ⟨g, 0, none⟩), .int .i64 (k : Int)] w (TakePost w g k l bad) := by
  obtain ⟨p, n, c, hblk, hbs, hn, hnc, hc, hz, hlo⟩ := h
  have hg := (Array.getElem?_eq_some_iff.1 hblk).1
  have c0 : w.cell? ⟨g, 0, none⟩ = some (.slice p n c) := Joins.cell_of_block hblk 0
  have c1 : w.cell? ⟨g, 1, none⟩ = some (.bool bad) := Joins.cell_of_block hblk 1
  have f0 := Joins.unfrozen_of_block hblk 0
  have f1 := Joins.unfrozen_of_block hblk 1
  obtain ⟨Z, hmk, hoz⟩ := make_own k hk
  have HOZ := Lib.hid hoz
  have HBK := Lib.hid hblk
  have HBS := Lib.hid hbs
  have HN := Lib.hid hn
  have HZ := Lib.hid hz
  have HLO := Lib.hid hlo
  rw [← hn] at hl
  -- too little
  have HBAD : Hid (∀ (b : Bool), (b = true ∨ n < k) → TakePost w g k l b (.returned (.slice (some ⟨w.heap.size, 0, none⟩) k k)) ((w.setCell ⟨g, 1, none⟩ (.bool true)).alloc (.cells Z 5))) := Lib.hid fun b hb => by
    have hs : (w.setCell ⟨g, 1, none⟩ (.bool true)).heap.size = w.heap.size := by simp
    have h1 := hoz (w.setCell ⟨g, 1, none⟩ (.bool true)) w.heap.size (by omega)
    rw [hs] at h1
    refine ⟨_, _, _, rfl, (List.length_replicate).symm, h1, gb_trans (gb_set (gb_refl w g) 1 _) (gb_below ((Below.refl _ _).alloc (Nat.le_refl _) _)), .inr ⟨hn ▸ hb, ?_⟩⟩
    have h2 : RsR (w.setCell ⟨g, 1, none⟩ (.bool true)) g l true := ⟨p, n, c, rsr_set1 hblk, bs_low2 hbs hlo ((Below.refl _ _).setCell (p := ⟨g, 1, none⟩) (Nat.le_refl _) _), hn, hnc, hc, hz, hlo⟩
    exact h2.below ((Below.refl _ _).alloc (Nat.le_refl _) _)
  clear hblk hbs hn hz hlo hoz HOZ
  cases bad
  · by_cases hkn : n < k
    · have hd : decide ((n : Int) < k) = true := by simp; omega
      go_enter Try.func27, Try.ntmps27
      go_wp2
      go_ret
      exact HBAD.out _ (.inr hkn)
    · have hd : decide ((n : Int) < k) = false := by simp; omega
      have hkc : k ≤ c := by omega
      have HM : Hid (k = (l.take k).length) := Lib.hid (by rw [List.length_take, ← HN.out]; omega)
      have HT := Lib.hid (HBS.out.take k)
      have HEND : Hid (∀ (w2 : World) (q : Option Addr) (c2 : Nat) (p' : Option Addr) (n' c' : Nat), Below w.heap.size w w2 → Own w2 w.heap.size (.slice q k c2) (l.take k) → ((c = k ∧ p' = p) ∨ (∃ ad, p = some ad ∧ p' = some (ad.add k))) → n' = n - k → c' = c - k → TakePost w g k l false (.returned (.slice q k c2)) (w2.setCell ⟨g, 0, none⟩ (.slice p' n' c'))) := Lib.hid fun w2 q c2 p' n' c' hb ho hp hn' hc' => by
        have hbl : Below g w2 (w2.setCell ⟨g, 0, none⟩ (.slice p' n' c')) := (Below.refl _ _).setCell (p := ⟨g, 0, none⟩) (Nat.le_refl _) _
        have hbs2 := HBS.out.below hb
        refine ⟨q, c2, l.take k, rfl, HM.out, rown_set ho hg _, gb_set (gb_below hb) 0 _, .inl ⟨rfl, by rw [← HN.out]; omega, rfl, p', n', c', rsr_set0 ((hb.block g hg).trans HBK.out), ?_, by rw [List.length_drop, ← HN.out]; omega, by omega, by omega, ?_, ?_⟩⟩
        · rcases hp with ⟨h1, rfl⟩ | ⟨ad, rfl, rfl⟩
          · rw [List.drop_eq_nil_of_le (by rw [← HN.out]; omega)]
            exact Bs.nil _ _
          · refine bs_low2 (drop_addr hbs2) ?_ hbl
            intro a ha hne
            obtain rfl := Option.some.inj ha
            rw [add_block]
            exact HLO.out ad rfl (fun e => hne (by rw [e]; simp))
        · rcases hp with ⟨h1, rfl⟩ | ⟨ad, rfl, rfl⟩
          · intro e; have := HZ.out e; omega
          · intro e; cases e
        · rcases hp with ⟨h1, rfl⟩ | ⟨ad, rfl, rfl⟩
          · exact fun a ha hne => HLO.out a ha (fun e => hne (by rw [e]; simp))
          · intro a ha hne
            obtain rfl := Option.some.inj ha
            rw [add_block]
            exact HLO.out ad rfl (fun e => hne (by rw [e]; simp))
      clear hmk
      cases p with
      | none =>
        obtain rfl : c = 0 := HZ.out rfl
        obtain rfl : n = 0 := by omega
        obtain rfl : k = 0 := by omega
        have HZ2 := HZ
        clear HZ HZ2
        rw [show ((0 : Nat) : Int) = 0 from rfl]
        go_enter Try.func27, Try.ntmps27
        go_wp2_with (at_builtin; go_loud (refine app_own rfl (.tmp 24) (.tmp 30) rfl rfl (Own.fresh0 rfl (Nat.le_refl w.heap.size)) HM.out rfl ((HT.out).alloc _) (fun h => by first | rfl | cases h) (by simp; try omega) (by simp) ?_; intro v2 w2 ho2 hb2; rw [List.nil_append] at ho2; obtain ⟨q2, d2, rfl, _, _, _, _⟩ := ho2.form HM.out; have HO2 := Lib.hid ho2; have HB2 : Hid (Below w.heap.size w w2) := Lib.hid (((Below.refl _ _).alloc (Nat.le_refl _) _).trans hb2); have hbk2 := (HB2.out.block g hg).trans HBK.out; have hg2 : g < w2.heap.size := (Array.getElem?_eq_some_iff.1 hbk2).1; clear c0 c1 f0 f1; have c0 := Joins.cell_of_block hbk2 0; have f0 := Joins.unfrozen_of_block hbk2 0; replace hbk2 := Lib.hid hbk2; clear ho2 hb2))
        go_ret
        exact HEND.out _ _ _ _ _ _ HB2.out HO2.out (.inl (by simp)) rfl rfl
      | some ad =>
        by_cases hcm : c = k
        · subst hcm
          go_enter Try.func27, Try.ntmps27
          go_wp2_with (at_builtin; go_loud (refine app_own rfl (.tmp 24) (.tmp 30) rfl rfl (Own.fresh0 rfl (Nat.le_refl w.heap.size)) HM.out rfl ((HT.out).alloc _) (fun h => by first | rfl | cases h) (by simp; try omega) (by simp) ?_; intro v2 w2 ho2 hb2; rw [List.nil_append] at ho2; obtain ⟨q2, d2, rfl, _, _, _, _⟩ := ho2.form HM.out; have HO2 := Lib.hid ho2; have HB2 : Hid (Below w.heap.size w w2) := Lib.hid (((Below.refl _ _).alloc (Nat.le_refl _) _).trans hb2); have hbk2 := (HB2.out.block g hg).trans HBK.out; have hg2 : g < w2.heap.size := (Array.getElem?_eq_some_iff.1 hbk2).1; clear c0 c1 f0 f1; have c0 := Joins.cell_of_block hbk2 0; have f0 := Joins.unfrozen_of_block hbk2 0; replace hbk2 := Lib.hid hbk2; clear ho2 hb2))
          all_goals
            go_ret
            exact HEND.out _ _ _ _ _ _ HB2.out HO2.out (.inl (by simp)) (by omega) (by omega)
        · go_enter Try.func27, Try.ntmps27
          go_wp2_with (at_builtin; go_loud (refine app_own rfl (.tmp 24) (.tmp 30) rfl rfl (Own.fresh0 rfl (Nat.le_refl w.heap.size)) HM.out rfl ((HT.out).alloc _) (fun h => by first | rfl | cases h) (by simp; try omega) (by simp) ?_; intro v2 w2 ho2 hb2; rw [List.nil_append] at ho2; obtain ⟨q2, d2, rfl, _, _, _, _⟩ := ho2.form HM.out; have HO2 := Lib.hid ho2; have HB2 : Hid (Below w.heap.size w w2) := Lib.hid (((Below.refl _ _).alloc (Nat.le_refl _) _).trans hb2); have hbk2 := (HB2.out.block g hg).trans HBK.out; have hg2 : g < w2.heap.size := (Array.getElem?_eq_some_iff.1 hbk2).1; clear c0 c1 f0 f1; have c0 := Joins.cell_of_block hbk2 0; have f0 := Joins.unfrozen_of_block hbk2 0; replace hbk2 := Lib.hid hbk2; clear ho2 hb2))
          go_ret
          exact HEND.out _ _ _ _ _ _ HB2.out HO2.out (.inr ⟨_, rfl, rfl⟩) rfl rfl
  · go_enter Try.func27, Try.ntmps27
    go_wp2
    go_ret
    exact HBAD.out _ (.inl rfl)

/-- What two answers. -/
def TwoPost (w : World) (g : Nat) (l : List UInt8) (bad : Bool) (e : Ending) (w' : World) : Prop :=
  ∃ v : Nat, e = .returned (.int .i64 (v : Int)) ∧ v ≤ 65535 ∧ w.grownBy w' (some g) ∧
    ((bad = false ∧ 2 ≤ l.length ∧ v = leN (l.take 2) ∧ RsR w' g (l.drop 2) false) ∨ ((bad = true ∨ l.length < 2) ∧ RsR w' g l true))

set_option maxHeartbeats 1600000 in
theorem rtake2_any {w : World} {g : Nat} {l : List UInt8} {bad : Bool} (h : RsR w g l bad) (hl : l.length ≤ 100000) :
    Calls Try.prog 28 #[.pointer (some ⟨g, 0, none⟩)] w (TwoPost w g l bad) := by
  have HT := Lib.hid (take_any h hl 2 (by omega))
  clear h hl
  go_enter Try.func28, Try.ntmps28
  go_wp2_with fail
  refine HT.out.mono ?_
  rintro e w1 ⟨q, c, t, rfl, hk, ho, hg, hp⟩
  obtain ⟨a, b, rfl⟩ : ∃ a b, t = [a, b] := by
    match t, hk with
    | [a, b], _ => exact ⟨a, b, rfl⟩
  obtain ⟨g1, c1, hv, h1, h2, h3, hg1, hcell, _⟩ := ho.some (n := 2) rfl (by omega)
  cases hv
  have d0 : w1.cell? ⟨g1, 0, none⟩ = some (.int .u8 (a.toNat : Int)) := hcell 0 (by simp)
  have d1 : w1.cell? ⟨g1, 1, none⟩ = some (.int .u8 (b.toNat : Int)) := hcell 1 (by simp)
  have hab := a.toNat_lt
  have hbb := b.toNat_lt
  have HEND : Hid (∀ k, TwoPost w g l bad (.returned (.int .i64 ((a.toNat + 256 * b.toNat : Nat) : Int))) (w1.drewN k)) := Lib.hid fun k => by
    refine ⟨_, rfl, by omega, gb_trans hg (gb_below (belowN (Below.refl _ _) k)), ?_⟩
    rcases hp with ⟨h1, h2, h3, h4⟩ | ⟨h1, h2⟩
    · exact .inl ⟨h1, h2, by rw [← h3]; simp [leN], h4.below (belowN (Below.refl _ _) k)⟩
    · exact .inr ⟨h1, h2.below (belowN (Below.refl _ _) k)⟩
  generalize a.toNat = an at *
  generalize b.toNat = bn at *
  clear hcell hg hp hk ho HT
  go_wp2_with fail
  go_quiet (fail)
  go_wp2
  go_ret
  exact HEND.out _

end Go.Proofs.Ytigmibmebockhaa
