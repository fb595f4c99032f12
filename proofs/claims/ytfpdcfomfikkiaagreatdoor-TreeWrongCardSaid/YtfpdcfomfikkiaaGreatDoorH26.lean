/-
  tree.splice: over keys, values and numbers.
  tree.sizes: how many bytes each entry has.
-/
import Derived.Test.YtfpdcfomfikkiaaGreatDoorTrCat
set_option linter.unusedVariables false
set_option linter.unusedSimpArgs false
set_option maxRecDepth 100000
namespace Go.Proofs.YtfpdcfomfikkiaaGreatDoor
open Go.RowKit

theorem ownsRow_le {w : World} {B B' size n : Nat} {e : TypeId} {v : Value} {xs : List Value} (h : w.ownsRow B e size v n xs) (hb : B' ≤ B) : w.ownsRow B' e size v n xs := by
  refine ⟨h.1, ?_⟩
  rcases h.2 with h0 | ⟨g, cap, cur, hv, h1, h2⟩
  · exact .inl h0
  · exact .inr ⟨g, cap, cur, hv, Nat.le_trans hb h1, h2⟩
theorem kbs_take {w : World} {q : Option Addr} {l : List Kb} (h : Kbs w q l) (k : Nat) : Kbs w q (l.take k) := by
  intro hne
  obtain ⟨b, o, hp, hc⟩ := h (by intro e; rw [e] at hne; simp at hne)
  refine ⟨b, o, hp, fun i x hi => hc i x ?_⟩
  rw [List.getElem?_take] at hi
  split at hi
  · exact hi
  · cases hi
theorem kbs_drop {w : World} {ad : Addr} {l : List Kb} (h : Kbs w (some ad) l) (k : Nat) : Kbs w (some (ad.add (k * 1))) (l.drop k) := by
  intro hne
  obtain ⟨b, o, hp, hc⟩ := h (by intro e; rw [e] at hne; simp at hne)
  obtain rfl := Option.some.inj hp
  refine ⟨b, o + k * 1, by rw [Addr.add_lit], fun i x hi => ?_⟩
  rw [List.getElem?_drop] at hi
  have := hc (k + i) x hi
  rw [show o + k * 1 + i = o + (k + i) by omega]
  exact this
theorem ks_take {w : World} {q : Option Addr} {l : List Int} (h : Ks w q l) (k : Nat) : Ks w q (l.take k) := by
  intro hne
  obtain ⟨b, o, hp, hc⟩ := h (by intro e; rw [e] at hne; simp at hne)
  refine ⟨b, o, hp, fun i x hi => hc i x ?_⟩
  rw [List.getElem?_take] at hi
  split at hi
  · exact hi
  · cases hi
theorem ks_drop {w : World} {ad : Addr} {l : List Int} (h : Ks w (some ad) l) (k : Nat) : Ks w (some (ad.add (k * 1))) (l.drop k) := by
  intro hne
  obtain ⟨b, o, hp, hc⟩ := h (by intro e; rw [e] at hne; simp at hne)
  obtain rfl := Option.some.inj hp
  refine ⟨b, o + k * 1, by rw [Addr.add_lit], fun i x hi => ?_⟩
  rw [List.getElem?_drop] at hi
  have := hc (k + i) x hi
  rw [show o + k * 1 + i = o + (k + i) by omega]
  exact this
theorem vls_take {w : World} {q : Option Addr} {l : List Vl} (h : Vls w q l) (k : Nat) : Vls w q (l.take k) := by
  intro hne
  obtain ⟨b, o, hp, hc⟩ := h (by intro e; rw [e] at hne; simp at hne)
  refine ⟨b, o, hp, fun i x hi => hc i x ?_⟩
  rw [List.getElem?_take] at hi
  split at hi
  · exact hi
  · cases hi
theorem vls_drop {w : World} {ad : Addr} {l : List Vl} (h : Vls w (some ad) l) (k : Nat) : Vls w (some (ad.add (k * 3))) (l.drop k) := by
  intro hne
  obtain ⟨b, o, hp, hc⟩ := h (by intro e; rw [e] at hne; simp at hne)
  obtain rfl := Option.some.inj hp
  refine ⟨b, o + k * 3, by rw [Addr.add_lit], fun i x hi => ?_⟩
  rw [List.getElem?_drop] at hi
  have := hc (k + i) x hi
  rw [show o + k * 3 + i * 3 = o + (k + i) * 3 by omega]
  exact this

set_option maxHeartbeats 3200000 in
theorem spliceK {w : World} {x y : SlK} (hx : x.Ok w) (hy : y.Ok w) {i j : Nat} (hij : i ≤ j) (hj : j ≤ x.l.length) (hlen : x.l.length + y.l.length ≤ 50000) :
    Calls Tryz.prog 71 #[.slice x.q x.l.length x.c, .int .i64 (i : Int), .int .i64 (j : Int), .slice y.q y.l.length y.c] w fun e w' => ∃ v, e = .returned v ∧ KOwn w' w.heap.size v (x.l.take i ++ (y.l ++ x.l.drop j)) ∧ Below w.heap.size w w' := by
  obtain ⟨q, c, l⟩ := x
  obtain ⟨q2, c2, l2⟩ := y
  have HCT : Hid (∀ w' g (z : SlK), Below w.heap.size w w' → z.Ok w → z.l = l.drop j → w'.heap[g]? = some (.cells #[.slice q i c, .slice q2 l2.length c2, .slice z.q (l.length - j) z.c] 38 (0, 0)) → Calls Tryz.prog 99 #[.slice (some ⟨g, 0, none⟩) 3 3] w' fun e w'' => ∃ v, e = .returned v ∧ KOwn w'' w'.heap.size v (l.take i ++ (l2 ++ l.drop j)) ∧ Below w'.heap.size w' w'') := Lib.hid fun w' g z hb hz hzl hg => by
    have hti : (l.take i).length = i := by rw [List.length_take]; exact Nat.min_eq_left (Nat.le_trans hij hj)
    have hzn : z.l.length = l.length - j := by rw [hzl, List.length_drop]
    have hc := concatK (w := w') (b := g) (m := 3) (L := [⟨q, c, l.take i⟩, ⟨q2, c2, l2⟩, z]) rfl (by omega) (fun n u hn => by
      match n, hn with
      | 0, hn => cases hn; rw [Joins.cell_of_block hg]; show some _ = some (Value.slice q (l.take i).length c); rw [hti]; rfl
      | 1, hn => cases hn; rw [Joins.cell_of_block hg]; rfl
      | 2, hn => cases hn; rw [Joins.cell_of_block hg]; show some _ = some (Value.slice z.q z.l.length z.c); rw [hzn]; rfl
      | n + 3, hn => simp at hn) (fun u hu => by
      simp only [List.mem_cons, List.not_mem_nil, or_false] at hu
      rcases hu with rfl | rfl | rfl
      · have h1 := hx.below hb
        exact ⟨kbs_take h1.at_ i, by show (l.take i).length ≤ c; rw [hti]; have := h1.h1; show i ≤ c; exact Nat.le_trans (Nat.le_trans hij hj) this, h1.h2, h1.z⟩
      · exact hy.below hb
      · exact hz.below hb) (by
      show (l.take i).length + (l2.length + (z.l.length + 0)) ≤ 100000
      rw [hti, hzn]
      have h1 : j ≤ l.length := hj
      have h2 : l.length + l2.length ≤ 50000 := hlen
      omega)
    have he : List.flatMap SlK.l [⟨q, c, l.take i⟩, ⟨q2, c2, l2⟩, z] = l.take i ++ (l2 ++ l.drop j) := by
      simp [hzl]
    rw [he] at hc
    exact hc
  have h1 := hx.h1
  have h2 := hx.h2
  have h3 := hy.h1
  have h4 := hy.h2
  have HX := Lib.hid hx
  dsimp only at h1 h2 h3 h4 hj hlen ⊢
  have HLD : Hid ((l.drop j).length = l.length - j) := Lib.hid List.length_drop
  obtain ⟨n, hn⟩ : ∃ n, n = l.length := ⟨_, rfl⟩
  have HN := Lib.hid hn
  rw [← hn] at h1 hj hlen HCT HLD ⊢
  obtain ⟨n2, hn2⟩ : ∃ n2, n2 = l2.length := ⟨_, rfl⟩
  rw [← hn2] at h3 hlen HCT ⊢
  clear hx hy hn hn2
  have a1 : (0 : Int) ≤ (i : Int) := by omega
  have a2 : (i : Int) ≤ (c : Int) := by omega
  have a3 : (0 : Int) ≤ (j : Int) := by omega
  have a4 : (j : Int) ≤ (n : Int) := by omega
  have a5 : i ≤ c := by omega
  have ways : ∀ (zq : Option Addr) (zc : Nat), (∀ w', Below w.heap.size w w' → (SlK.mk zq zc (l.drop j)).Ok w') → Hid (∀ w' g, Below w.heap.size w w' → w'.heap[g]? = some (.cells #[.slice q i c, .slice q2 n2 c2, .slice zq (n - j) zc] 38 (0, 0)) → Calls Tryz.prog 99 #[.slice (some ⟨g, 0, none⟩) 3 3] w' fun e w'' => ∃ v, e = .returned v ∧ KOwn w'' w'.heap.size v (l.take i ++ (l2 ++ l.drop j)) ∧ Below w'.heap.size w' w'') := fun zq zc hz => Lib.hid fun w' g hb hg => HCT.out w' g ⟨zq, zc, l.drop j⟩ hb (hz w (Below.refl _ _)) rfl hg
  clear HCT
  cases q with
  | none =>
    obtain rfl : c = 0 := HX.out.z rfl
    obtain rfl : n = 0 := by omega
    obtain rfl : j = 0 := by omega
    obtain rfl : i = 0 := by omega
    have HC3 := ways none 0 (fun w' hb => by
      obtain rfl : l = [] := List.eq_nil_of_length_eq_zero HN.out.symm
      exact ⟨(fun h => absurd rfl h), Nat.le_refl _, by show 0 ≤ _; omega, fun _ => rfl⟩)
    have HC4 : Hid (Calls Tryz.prog 99 #[.slice (some ⟨w.heap.size, 0, none⟩) 3 3] (w.alloc (.cells #[.slice none 0 0, .slice q2 n2 c2, .slice none (0) (0)] 38)).drew fun e w'' => ∃ v, e = .returned v ∧ KOwn w'' w.heap.size v (l.take 0 ++ (l2 ++ l.drop 0)) ∧ Below w.heap.size w w'') := Lib.hid ((HC3.out _ w.heap.size (sbox1 _ _).drew (heap_alloc_new w _)).mono fun e w'' ⟨v, h1, h2, h3⟩ => ⟨v, h1, ownsRow_le h2 (by simp), (sbox1 _ _).drew.trans (h3.mono (by simp))⟩)
    clear ways HC3
    go_enter Tryz.func71, Tryz.ntmps71
    go_wp2_with fail
    go_region_with (go_at_call 99; (with_reducible refine HC4.out.mono ?_); rintro e w1 ⟨v, rfl, hv, hb⟩; have HV := Lib.hid hv; have HB := Lib.hid hb; clear hv hb)
    all_goals
      go_wp2
      go_ret
      exact ⟨_, rfl, HV.out, HB.out⟩
  | some ad =>
    by_cases hcj : c = j
    · subst hcj
      have en : n - c = 0 := by omega
      have HC3 := ways (some ad) 0 (fun w' hb => by
        have e : l.drop c = [] := List.drop_eq_nil_of_le (by rw [← HN.out]; omega)
        rw [e]
        exact ⟨(fun h => absurd rfl h), Nat.le_refl _, by show 0 ≤ _; omega, fun h => (by cases h)⟩)
      have HC4 : Hid (Calls Tryz.prog 99 #[.slice (some ⟨w.heap.size, 0, none⟩) 3 3] (w.alloc (.cells #[.slice (some ad) i c, .slice q2 n2 c2, .slice (some ad) 0 0] 38)).drew fun e w'' => ∃ v, e = .returned v ∧ KOwn w'' w.heap.size v (l.take i ++ (l2 ++ l.drop c)) ∧ Below w.heap.size w w'') := Lib.hid ((en ▸ HC3.out _ w.heap.size (sbox1 _ _).drew (heap_alloc_new w _)).mono fun e w'' ⟨v, h1, h2, h3⟩ => ⟨v, h1, ownsRow_le h2 (by simp), (sbox1 _ _).drew.trans (h3.mono (by simp))⟩)
      clear ways HC3 en
      go_enter Tryz.func71, Tryz.ntmps71
      go_wp2_with fail
      go_region_with (go_at_call 99; (with_reducible refine HC4.out.mono ?_); rintro e w1 ⟨v, rfl, hv, hb⟩; have HV := Lib.hid hv; have HB := Lib.hid hb; clear hv hb)
      all_goals
        go_wp2
        go_ret
        exact ⟨_, rfl, HV.out, HB.out⟩
    · have HC3 := ways (some (ad.add (j * 1))) (c - j) (fun w' hb => ⟨(kbs_drop HX.out.at_ j).below hb, by show (l.drop j).length ≤ c - j; rw [HLD.out]; omega, by show c - j ≤ _; omega, fun h => (by cases h)⟩)
      rw [Nat.mul_one] at HC3
      have HC4 : Hid (Calls Tryz.prog 99 #[.slice (some ⟨w.heap.size, 0, none⟩) 3 3] (w.alloc (.cells #[.slice (some ad) i c, .slice q2 n2 c2, .slice (some (ad.add j)) (n - j) (c - j)] 38)).drew fun e w'' => ∃ v, e = .returned v ∧ KOwn w'' w.heap.size v (l.take i ++ (l2 ++ l.drop j)) ∧ Below w.heap.size w w'') := Lib.hid ((HC3.out _ w.heap.size (sbox1 _ _).drew (heap_alloc_new w _)).mono fun e w'' ⟨v, h1, h2, h3⟩ => ⟨v, h1, ownsRow_le h2 (by simp), (sbox1 _ _).drew.trans (h3.mono (by simp))⟩)
      clear ways HC3
      go_enter Tryz.func71, Tryz.ntmps71
      go_wp2_with fail
      go_region_with (go_at_call 99; (with_reducible refine HC4.out.mono ?_); rintro e w1 ⟨v, rfl, hv, hb⟩; have HV := Lib.hid hv; have HB := Lib.hid hb; clear hv hb)
      all_goals
        go_wp2
        go_ret
        exact ⟨_, rfl, HV.out, HB.out⟩

set_option maxHeartbeats 3200000 in
theorem spliceV {w : World} {x y : SlV} (hx : x.Ok w) (hy : y.Ok w) {i j : Nat} (hij : i ≤ j) (hj : j ≤ x.l.length) (hlen : x.l.length + y.l.length ≤ 50000) :
    Calls Tryz.prog 72 #[.slice x.q x.l.length x.c, .int .i64 (i : Int), .int .i64 (j : Int), .slice y.q y.l.length y.c] w fun e w' => ∃ v, e = .returned v ∧ VOwn w' w.heap.size v (x.l.take i ++ (y.l ++ x.l.drop j)) ∧ Below w.heap.size w w' := by
  obtain ⟨q, c, l⟩ := x
  obtain ⟨q2, c2, l2⟩ := y
  have HCT : Hid (∀ w' g (z : SlV), Below w.heap.size w w' → z.Ok w → z.l = l.drop j → w'.heap[g]? = some (.cells #[.slice q i c, .slice q2 l2.length c2, .slice z.q (l.length - j) z.c] 80 (0, 0)) → Calls Tryz.prog 100 #[.slice (some ⟨g, 0, none⟩) 3 3] w' fun e w'' => ∃ v, e = .returned v ∧ VOwn w'' w'.heap.size v (l.take i ++ (l2 ++ l.drop j)) ∧ Below w'.heap.size w' w'') := Lib.hid fun w' g z hb hz hzl hg => by
    have hti : (l.take i).length = i := by rw [List.length_take]; exact Nat.min_eq_left (Nat.le_trans hij hj)
    have hzn : z.l.length = l.length - j := by rw [hzl, List.length_drop]
    have hc := concatV (w := w') (b := g) (m := 3) (L := [⟨q, c, l.take i⟩, ⟨q2, c2, l2⟩, z]) rfl (by omega) (fun n u hn => by
      match n, hn with
      | 0, hn => cases hn; rw [Joins.cell_of_block hg]; show some _ = some (Value.slice q (l.take i).length c); rw [hti]; rfl
      | 1, hn => cases hn; rw [Joins.cell_of_block hg]; rfl
      | 2, hn => cases hn; rw [Joins.cell_of_block hg]; show some _ = some (Value.slice z.q z.l.length z.c); rw [hzn]; rfl
      | n + 3, hn => simp at hn) (fun u hu => by
      simp only [List.mem_cons, List.not_mem_nil, or_false] at hu
      rcases hu with rfl | rfl | rfl
      · have h1 := hx.below hb
        exact ⟨vls_take h1.at_ i, by show (l.take i).length ≤ c; rw [hti]; have := h1.h1; show i ≤ c; exact Nat.le_trans (Nat.le_trans hij hj) this, h1.h2, h1.z⟩
      · exact hy.below hb
      · exact hz.below hb) (by
      show (l.take i).length + (l2.length + (z.l.length + 0)) ≤ 100000
      rw [hti, hzn]
      have h1 : j ≤ l.length := hj
      have h2 : l.length + l2.length ≤ 50000 := hlen
      omega)
    have he : List.flatMap SlV.l [⟨q, c, l.take i⟩, ⟨q2, c2, l2⟩, z] = l.take i ++ (l2 ++ l.drop j) := by
      simp [hzl]
    rw [he] at hc
    exact hc
  have h1 := hx.h1
  have h2 := hx.h2
  have h3 := hy.h1
  have h4 := hy.h2
  have HX := Lib.hid hx
  dsimp only at h1 h2 h3 h4 hj hlen ⊢
  have HLD : Hid ((l.drop j).length = l.length - j) := Lib.hid List.length_drop
  obtain ⟨n, hn⟩ : ∃ n, n = l.length := ⟨_, rfl⟩
  have HN := Lib.hid hn
  rw [← hn] at h1 hj hlen HCT HLD ⊢
  obtain ⟨n2, hn2⟩ : ∃ n2, n2 = l2.length := ⟨_, rfl⟩
  rw [← hn2] at h3 hlen HCT ⊢
  clear hx hy hn hn2
  have a1 : (0 : Int) ≤ (i : Int) := by omega
  have a2 : (i : Int) ≤ (c : Int) := by omega
  have a3 : (0 : Int) ≤ (j : Int) := by omega
  have a4 : (j : Int) ≤ (n : Int) := by omega
  have a5 : i ≤ c := by omega
  have ways : ∀ (zq : Option Addr) (zc : Nat), (∀ w', Below w.heap.size w w' → (SlV.mk zq zc (l.drop j)).Ok w') → Hid (∀ w' g, Below w.heap.size w w' → w'.heap[g]? = some (.cells #[.slice q i c, .slice q2 n2 c2, .slice zq (n - j) zc] 80 (0, 0)) → Calls Tryz.prog 100 #[.slice (some ⟨g, 0, none⟩) 3 3] w' fun e w'' => ∃ v, e = .returned v ∧ VOwn w'' w'.heap.size v (l.take i ++ (l2 ++ l.drop j)) ∧ Below w'.heap.size w' w'') := fun zq zc hz => Lib.hid fun w' g hb hg => HCT.out w' g ⟨zq, zc, l.drop j⟩ hb (hz w (Below.refl _ _)) rfl hg
  clear HCT
  cases q with
  | none =>
    obtain rfl : c = 0 := HX.out.z rfl
    obtain rfl : n = 0 := by omega
    obtain rfl : j = 0 := by omega
    obtain rfl : i = 0 := by omega
    have HC3 := ways none 0 (fun w' hb => by
      obtain rfl : l = [] := List.eq_nil_of_length_eq_zero HN.out.symm
      exact ⟨(fun h => absurd rfl h), Nat.le_refl _, by show 0 ≤ _; omega, fun _ => rfl⟩)
    have HC4 : Hid (Calls Tryz.prog 100 #[.slice (some ⟨w.heap.size, 0, none⟩) 3 3] (w.alloc (.cells #[.slice none 0 0, .slice q2 n2 c2, .slice none (0) (0)] 80)).drew fun e w'' => ∃ v, e = .returned v ∧ VOwn w'' w.heap.size v (l.take 0 ++ (l2 ++ l.drop 0)) ∧ Below w.heap.size w w'') := Lib.hid ((HC3.out _ w.heap.size (sbox1 _ _).drew (heap_alloc_new w _)).mono fun e w'' ⟨v, h1, h2, h3⟩ => ⟨v, h1, ownsRow_le h2 (by simp), (sbox1 _ _).drew.trans (h3.mono (by simp))⟩)
    clear ways HC3
    go_enter Tryz.func72, Tryz.ntmps72
    go_wp2_with fail
    go_region_with (go_at_call 100; (with_reducible refine HC4.out.mono ?_); rintro e w1 ⟨v, rfl, hv, hb⟩; have HV := Lib.hid hv; have HB := Lib.hid hb; clear hv hb)
    all_goals
      go_wp2
      go_ret
      exact ⟨_, rfl, HV.out, HB.out⟩
  | some ad =>
    by_cases hcj : c = j
    · subst hcj
      have en : n - c = 0 := by omega
      have HC3 := ways (some ad) 0 (fun w' hb => by
        have e : l.drop c = [] := List.drop_eq_nil_of_le (by rw [← HN.out]; omega)
        rw [e]
        exact ⟨(fun h => absurd rfl h), Nat.le_refl _, by show 0 ≤ _; omega, fun h => (by cases h)⟩)
      have HC4 : Hid (Calls Tryz.prog 100 #[.slice (some ⟨w.heap.size, 0, none⟩) 3 3] (w.alloc (.cells #[.slice (some ad) i c, .slice q2 n2 c2, .slice (some ad) 0 0] 80)).drew fun e w'' => ∃ v, e = .returned v ∧ VOwn w'' w.heap.size v (l.take i ++ (l2 ++ l.drop c)) ∧ Below w.heap.size w w'') := Lib.hid ((en ▸ HC3.out _ w.heap.size (sbox1 _ _).drew (heap_alloc_new w _)).mono fun e w'' ⟨v, h1, h2, h3⟩ => ⟨v, h1, ownsRow_le h2 (by simp), (sbox1 _ _).drew.trans (h3.mono (by simp))⟩)
      clear ways HC3 en
      go_enter Tryz.func72, Tryz.ntmps72
      go_wp2_with fail
      go_region_with (go_at_call 100; (with_reducible refine HC4.out.mono ?_); rintro e w1 ⟨v, rfl, hv, hb⟩; have HV := Lib.hid hv; have HB := Lib.hid hb; clear hv hb)
      all_goals
        go_wp2
        go_ret
        exact ⟨_, rfl, HV.out, HB.out⟩
    · have HC3 := ways (some (ad.add (j * 3))) (c - j) (fun w' hb => ⟨(vls_drop HX.out.at_ j).below hb, by show (l.drop j).length ≤ c - j; rw [HLD.out]; omega, by show c - j ≤ _; omega, fun h => (by cases h)⟩)
      have HC4 : Hid (Calls Tryz.prog 100 #[.slice (some ⟨w.heap.size, 0, none⟩) 3 3] (w.alloc (.cells #[.slice (some ad) i c, .slice q2 n2 c2, .slice (some (ad.add (j * 3))) (n - j) (c - j)] 80)).drew fun e w'' => ∃ v, e = .returned v ∧ VOwn w'' w.heap.size v (l.take i ++ (l2 ++ l.drop j)) ∧ Below w.heap.size w w'') := Lib.hid ((HC3.out _ w.heap.size (sbox1 _ _).drew (heap_alloc_new w _)).mono fun e w'' ⟨v, h1, h2, h3⟩ => ⟨v, h1, ownsRow_le h2 (by simp), (sbox1 _ _).drew.trans (h3.mono (by simp))⟩)
      clear ways HC3
      go_enter Tryz.func72, Tryz.ntmps72
      go_wp2_with fail
      go_region_with (go_at_call 100; (with_reducible refine HC4.out.mono ?_); rintro e w1 ⟨v, rfl, hv, hb⟩; have HV := Lib.hid hv; have HB := Lib.hid hb; clear hv hb)
      all_goals
        go_wp2
        go_ret
        exact ⟨_, rfl, HV.out, HB.out⟩

set_option maxHeartbeats 3200000 in
theorem spliceI {w : World} {x y : SlI} (hx : x.Ok w) (hy : y.Ok w) {i j : Nat} (hij : i ≤ j) (hj : j ≤ x.l.length) (hlen : x.l.length + y.l.length ≤ 50000) :
    Calls Tryz.prog 96 #[.slice x.q x.l.length x.c, .int .i64 (i : Int), .int .i64 (j : Int), .slice y.q y.l.length y.c] w fun e w' => ∃ v, e = .returned v ∧ IOwn w' w.heap.size v (x.l.take i ++ (y.l ++ x.l.drop j)) ∧ Below w.heap.size w w' := by
  obtain ⟨q, c, l⟩ := x
  obtain ⟨q2, c2, l2⟩ := y
  have HCT : Hid (∀ w' g (z : SlI), Below w.heap.size w w' → z.Ok w → z.l = l.drop j → w'.heap[g]? = some (.cells #[.slice q i c, .slice q2 l2.length c2, .slice z.q (l.length - j) z.c] 33 (0, 0)) → Calls Tryz.prog 127 #[.slice (some ⟨g, 0, none⟩) 3 3] w' fun e w'' => ∃ v, e = .returned v ∧ IOwn w'' w'.heap.size v (l.take i ++ (l2 ++ l.drop j)) ∧ Below w'.heap.size w' w'') := Lib.hid fun w' g z hb hz hzl hg => by
    have hti : (l.take i).length = i := by rw [List.length_take]; exact Nat.min_eq_left (Nat.le_trans hij hj)
    have hzn : z.l.length = l.length - j := by rw [hzl, List.length_drop]
    have hc := concatI (w := w') (b := g) (m := 3) (L := [⟨q, c, l.take i⟩, ⟨q2, c2, l2⟩, z]) rfl (by omega) (fun n u hn => by
      match n, hn with
      | 0, hn => cases hn; rw [Joins.cell_of_block hg]; show some _ = some (Value.slice q (l.take i).length c); rw [hti]; rfl
      | 1, hn => cases hn; rw [Joins.cell_of_block hg]; rfl
      | 2, hn => cases hn; rw [Joins.cell_of_block hg]; show some _ = some (Value.slice z.q z.l.length z.c); rw [hzn]; rfl
      | n + 3, hn => simp at hn) (fun u hu => by
      simp only [List.mem_cons, List.not_mem_nil, or_false] at hu
      rcases hu with rfl | rfl | rfl
      · have h1 := hx.below hb
        exact ⟨ks_take h1.at_ i, by show (l.take i).length ≤ c; rw [hti]; have := h1.h1; show i ≤ c; exact Nat.le_trans (Nat.le_trans hij hj) this, h1.h2, h1.z⟩
      · exact hy.below hb
      · exact hz.below hb) (by
      show (l.take i).length + (l2.length + (z.l.length + 0)) ≤ 100000
      rw [hti, hzn]
      have h1 : j ≤ l.length := hj
      have h2 : l.length + l2.length ≤ 50000 := hlen
      omega)
    have he : List.flatMap SlI.l [⟨q, c, l.take i⟩, ⟨q2, c2, l2⟩, z] = l.take i ++ (l2 ++ l.drop j) := by
      simp [hzl]
    rw [he] at hc
    exact hc
  have h1 := hx.h1
  have h2 := hx.h2
  have h3 := hy.h1
  have h4 := hy.h2
  have HX := Lib.hid hx
  dsimp only at h1 h2 h3 h4 hj hlen ⊢
  have HLD : Hid ((l.drop j).length = l.length - j) := Lib.hid List.length_drop
  obtain ⟨n, hn⟩ : ∃ n, n = l.length := ⟨_, rfl⟩
  have HN := Lib.hid hn
  rw [← hn] at h1 hj hlen HCT HLD ⊢
  obtain ⟨n2, hn2⟩ : ∃ n2, n2 = l2.length := ⟨_, rfl⟩
  rw [← hn2] at h3 hlen HCT ⊢
  clear hx hy hn hn2
  have a1 : (0 : Int) ≤ (i : Int) := by omega
  have a2 : (i : Int) ≤ (c : Int) := by omega
  have a3 : (0 : Int) ≤ (j : Int) := by omega
  have a4 : (j : Int) ≤ (n : Int) := by omega
  have a5 : i ≤ c := by omega
  have ways : ∀ (zq : Option Addr) (zc : Nat), (∀ w', Below w.heap.size w w' → (SlI.mk zq zc (l.drop j)).Ok w') → Hid (∀ w' g, Below w.heap.size w w' → w'.heap[g]? = some (.cells #[.slice q i c, .slice q2 n2 c2, .slice zq (n - j) zc] 33 (0, 0)) → Calls Tryz.prog 127 #[.slice (some ⟨g, 0, none⟩) 3 3] w' fun e w'' => ∃ v, e = .returned v ∧ IOwn w'' w'.heap.size v (l.take i ++ (l2 ++ l.drop j)) ∧ Below w'.heap.size w' w'') := fun zq zc hz => Lib.hid fun w' g hb hg => HCT.out w' g ⟨zq, zc, l.drop j⟩ hb (hz w (Below.refl _ _)) rfl hg
  clear HCT
  cases q with
  | none =>
    obtain rfl : c = 0 := HX.out.z rfl
    obtain rfl : n = 0 := by omega
    obtain rfl : j = 0 := by omega
    obtain rfl : i = 0 := by omega
    have HC3 := ways none 0 (fun w' hb => by
      obtain rfl : l = [] := List.eq_nil_of_length_eq_zero HN.out.symm
      exact ⟨(fun h => absurd rfl h), Nat.le_refl _, by show 0 ≤ _; omega, fun _ => rfl⟩)
    have HC4 : Hid (Calls Tryz.prog 127 #[.slice (some ⟨w.heap.size, 0, none⟩) 3 3] (w.alloc (.cells #[.slice none 0 0, .slice q2 n2 c2, .slice none (0) (0)] 33)).drew fun e w'' => ∃ v, e = .returned v ∧ IOwn w'' w.heap.size v (l.take 0 ++ (l2 ++ l.drop 0)) ∧ Below w.heap.size w w'') := Lib.hid ((HC3.out _ w.heap.size (sbox1 _ _).drew (heap_alloc_new w _)).mono fun e w'' ⟨v, h1, h2, h3⟩ => ⟨v, h1, ownsRow_le h2 (by simp), (sbox1 _ _).drew.trans (h3.mono (by simp))⟩)
    clear ways HC3
    go_enter Tryz.func96, Tryz.ntmps96
    go_wp2_with fail
    go_region_with (go_at_call 127; (with_reducible refine HC4.out.mono ?_); rintro e w1 ⟨v, rfl, hv, hb⟩; have HV := Lib.hid hv; have HB := Lib.hid hb; clear hv hb)
    all_goals
      go_wp2
      go_ret
      exact ⟨_, rfl, HV.out, HB.out⟩
  | some ad =>
    by_cases hcj : c = j
    · subst hcj
      have en : n - c = 0 := by omega
      have HC3 := ways (some ad) 0 (fun w' hb => by
        have e : l.drop c = [] := List.drop_eq_nil_of_le (by rw [← HN.out]; omega)
        rw [e]
        exact ⟨(fun h => absurd rfl h), Nat.le_refl _, by show 0 ≤ _; omega, fun h => (by cases h)⟩)
      have HC4 : Hid (Calls Tryz.prog 127 #[.slice (some ⟨w.heap.size, 0, none⟩) 3 3] (w.alloc (.cells #[.slice (some ad) i c, .slice q2 n2 c2, .slice (some ad) 0 0] 33)).drew fun e w'' => ∃ v, e = .returned v ∧ IOwn w'' w.heap.size v (l.take i ++ (l2 ++ l.drop c)) ∧ Below w.heap.size w w'') := Lib.hid ((en ▸ HC3.out _ w.heap.size (sbox1 _ _).drew (heap_alloc_new w _)).mono fun e w'' ⟨v, h1, h2, h3⟩ => ⟨v, h1, ownsRow_le h2 (by simp), (sbox1 _ _).drew.trans (h3.mono (by simp))⟩)
      clear ways HC3 en
      go_enter Tryz.func96, Tryz.ntmps96
      go_wp2_with fail
      go_region_with (go_at_call 127; (with_reducible refine HC4.out.mono ?_); rintro e w1 ⟨v, rfl, hv, hb⟩; have HV := Lib.hid hv; have HB := Lib.hid hb; clear hv hb)
      all_goals
        go_wp2
        go_ret
        exact ⟨_, rfl, HV.out, HB.out⟩
    · have HC3 := ways (some (ad.add (j * 1))) (c - j) (fun w' hb => ⟨(ks_drop HX.out.at_ j).below hb, by show (l.drop j).length ≤ c - j; rw [HLD.out]; omega, by show c - j ≤ _; omega, fun h => (by cases h)⟩)
      rw [Nat.mul_one] at HC3
      have HC4 : Hid (Calls Tryz.prog 127 #[.slice (some ⟨w.heap.size, 0, none⟩) 3 3] (w.alloc (.cells #[.slice (some ad) i c, .slice q2 n2 c2, .slice (some (ad.add j)) (n - j) (c - j)] 33)).drew fun e w'' => ∃ v, e = .returned v ∧ IOwn w'' w.heap.size v (l.take i ++ (l2 ++ l.drop j)) ∧ Below w.heap.size w w'') := Lib.hid ((HC3.out _ w.heap.size (sbox1 _ _).drew (heap_alloc_new w _)).mono fun e w'' ⟨v, h1, h2, h3⟩ => ⟨v, h1, ownsRow_le h2 (by simp), (sbox1 _ _).drew.trans (h3.mono (by simp))⟩)
      clear ways HC3
      go_enter Tryz.func96, Tryz.ntmps96
      go_wp2_with fail
      go_region_with (go_at_call 127; (with_reducible refine HC4.out.mono ?_); rintro e w1 ⟨v, rfl, hv, hb⟩; have HV := Lib.hid hv; have HB := Lib.hid hb; clear hv hb)
      all_goals
        go_wp2
        go_ret
        exact ⟨_, rfl, HV.out, HB.out⟩

end Go.Proofs.YtfpdcfomfikkiaaGreatDoor

set_option linter.unusedVariables false
set_option linter.unusedSimpArgs false
set_option maxRecDepth 100000
namespace Go.Proofs.YtfpdcfomfikkiaaGreatDoor
open Go.RowKit

theorem iown_nil (w : World) (B : Nat) : IOwn w B (.slice none 0 0) [] := World.ownsRow_nil _ _ _ _
/-- What sizes answers. -/
def szB (ks : List Kb) : List Int := ks.map fun k => ((k.l.length + 3 : Nat) : Int)
def szL (ks : List Kb) (vs : List Vl) : List Int := List.zipWith (fun k v => ((entS k.l v.s : Nat) : Int)) ks vs
def szN (n : Nd) : List Int := if n.leaf then szL n.ks n.vs else 2 :: szB n.ks
theorem szB_next {ks : List Kb} {j : Nat} {x : Kb} (h : ks[j]? = some x) : szB (ks.take (j + 1)) = szB (ks.take j) ++ [((x.l.length + 3 : Nat) : Int)] := by
  unfold szB
  rw [List.map_take, List.map_take, List.take_add_one, List.getElem?_map, h]
  rfl
theorem szL_next {ks : List Kb} {vs : List Vl} {j : Nat} {x : Kb} {y : Vl} (h : ks[j]? = some x) (h' : vs[j]? = some y) : szL (ks.take (j + 1)) (vs.take (j + 1)) = szL (ks.take j) (vs.take j) ++ [((entS x.l y.s : Nat) : Int)] := by
  unfold szL
  rw [← List.take_zipWith, ← List.take_zipWith, List.take_add_one, List.getElem?_zipWith, h, h']
  rfl
theorem ks_one {w : World} (x : Int) : Ks (w.alloc (.cells #[.int .i64 x] 3)) (some ⟨w.heap.size, 0, none⟩) [x] := fun _ => ⟨w.heap.size, 0, rfl, fun i z hz => by
  match i, hz with
  | 0, hz => cases hz; exact Joins.cell_of_block (heap_alloc_new w _) 0
  | i + 1, hz => simp at hz⟩
def SzPost (w : World) (n : Nd) (e : Ending) (w' : World) : Prop := ∃ v, e = .returned v ∧ IOwn w' w.heap.size v (szN n) ∧ Below w.heap.size w w'

set_option maxHeartbeats 1600000 in
theorem sizesB_any {w : World} {n : Nd} (h : n.Ok w) (hl : n.leaf = false) (hc : n.s.count ≤ 100000) :
    Calls Tryz.prog 124 #[n.cell] w (SzPost w n) := by
  obtain ⟨f1, f2, f3, f4, f5⟩ := Nd.few hc
  have hk1 := h.k1
  have hk2 := h.k2
  have HOK := Lib.hid h
  have HF4 := Lib.hid f4
  have HS : Hid (szN n = 2 :: szB n.ks) := Lib.hid (by unfold szN; rw [hl]; rfl)
  obtain ⟨m, hm⟩ : ∃ m, m = n.ks.length := ⟨_, rfl⟩
  have HM := Lib.hid hm
  rw [← hm] at hk1 f1
  have hcell : n.cell = .agg #[.bool false, .slice n.kq m n.kc, .slice n.vq n.vs.length n.vc, .slice n.iq n.is.length n.ic] := by rw [hm, ← hl]; rfl
  obtain ⟨W, hW⟩ : ∃ W, W = w.alloc (.cells #[.bool false, .slice n.kq m n.kc, .slice n.vq n.vs.length n.vc, .slice n.iq n.is.length n.ic] 82) := ⟨_, rfl⟩
  have HBW : Hid (Below w.heap.size w W) := Lib.hid (by rw [hW]; exact (Below.refl _ _).alloc (Nat.le_refl _) _)
  have hblk : W.heap[w.heap.size]? = some (.cells #[.bool false, .slice n.kq m n.kc, .slice n.vq n.vs.length n.vc, .slice n.iq n.is.length n.ic] 82 (0, 0)) := by rw [hW]; exact heap_alloc_new w _
  have HWS : Hid (W.heap.size = w.heap.size + 1) := Lib.hid (by rw [hW]; simp)
  have HC : Hid (∀ w', Below W.heap.size W w' → w'.cell? ⟨w.heap.size, 0, none⟩ = some (.bool false) ∧ w'.cell? ⟨w.heap.size, 1, none⟩ = some (.slice n.kq m n.kc) ∧ w'.cell? ⟨w.heap.size, 2, none⟩ = some (.slice n.vq n.vs.length n.vc) ∧ w'.cell? ⟨w.heap.size, 3, none⟩ = some (.slice n.iq n.is.length n.ic)) := Lib.hid fun w' hb => by
    have h1 := (hb.block w.heap.size (by rw [HWS.out]; omega)).trans hblk
    exact ⟨Joins.cell_of_block h1 0, Joins.cell_of_block h1 1, Joins.cell_of_block h1 2, Joins.cell_of_block h1 3⟩
  rw [hcell]
  have HCE := Lib.hid hcell
  clear hblk hm hcell h f4 f5 hc hl
  obtain ⟨c0, c1, c2, c3⟩ := HC.out W (Below.refl _ _)
  go_enter Tryz.func124, Tryz.ntmps124
  go_wp2_with (at_builtin; rw [← hW]; refine app_slI rfl (.tmp 9) (.tmp 10) rfl rfl (iown_nil _ W.heap.size) (m := [2]) rfl rfl (by have h := ks_one (w := W) 2; rw [HWS.out] at h; exact h) (fun h => by cases h) (by decide) (by simp) ?_; intro v1 w1 hv1 hg1; have HV1 := Lib.hid hv1; have HB1 : Hid (Below W.heap.size W w1) := Lib.hid (((Below.refl _ _).alloc (Nat.le_refl _) _).grown hg1 (by simp) (fun k hk => by cases hk)); clear hv1 hg1 c0 c1 c2 c3; obtain ⟨c0, c1, c2, c3⟩ := HC.out w1 HB1.out)
  replace hW := Lib.hid hW
  go_loopw [3, 15] (fun v i wr => ∃ j : Nat, i = .int .i64 (j : Int) ∧ j ≤ m ∧ IOwn wr W.heap.size v (2 :: szB (n.ks.take j)) ∧ Below W.heap.size W wr) (fun _ i _ => m - (intOf i).toNat)
  case atStart => exact ⟨0, rfl, by omega, HV1.out, HB1.out⟩
  case round =>
    clear c0 c1 c2 c3
    obtain ⟨j, rfl, hj, hv, hb⟩ := hrel
    have HV := Lib.hid hv
    have HB := Lib.hid hb
    obtain ⟨c0, c1, c2, c3⟩ := HC.out _ hb
    clear hb hv
    by_cases hlt : j < m
    · obtain ⟨x, hx⟩ : ∃ x, n.ks[j]? = some x := ⟨_, List.getElem?_eq_getElem (by have := HM.out; omega)⟩
      have hm2 := List.mem_of_getElem? hx
      obtain ⟨b, o, hq, hblt, hkc⟩ := (((HOK.out.below HBW.out).below HB.out).kl).at hx
      have hx2 := (HOK.out.ko x hm2).h2
      have hx3 := HF4.out x hm2
      have hx1 := (HOK.out.ko x hm2).h1
      rw [hq] at c1 ⊢
      have HD := Lib.hid (szB_next hx)
      obtain ⟨kl, hkl⟩ : ∃ k, k = x.l.length := ⟨_, rfl⟩
      rw [← hkl] at hkc hx3 hx1 HD
      have HCH := Lib.hid (fun w => child_any (w := w) (q := x.q) (n := kl) (c := x.c) (by omega))
      have HLN : Hid ((2 :: szB (n.ks.take j)).length ≤ 999999) := Lib.hid (by simp [szB]; omega)
      clear hx hm2 hkl hq
      go_wp2_with fail
      refine (HCH.out _).mono ?_
      rintro e w2 ⟨rfl, rfl⟩
      go_wp2_with (at_builtin; refine app_slI rfl (.tmp 32) (.tmp 35) rfl rfl (World.ownsRow.alloc HV.out _) (m := [((kl + 3 : Nat) : Int)]) rfl rfl (ks_one _) (fun h => by cases h) (by have := HLN.out; simp only [List.length_cons, List.length_nil] at this ⊢; omega) (by have := HB.out.size; simp; omega) ?_; intro v3 w3 hv3 hg3; have HV3 := Lib.hid hv3; have HB3 : Hid (Below W.heap.size W w3) := Lib.hid ((HB.out.alloc HB.out.size _).grown hg3 (by have := HB.out.size; simp; omega) (fun k hk => (World.ownsRow.lt HV.out k hk).1)); clear hv3 hg3)
      go_wp2
      go_roundw
      case rel => exact ⟨j + 1, by go_num, by omega, by rw [HD.out]; exact HV3.out, HB3.out⟩
      case measure => simp [intOf]; omega
    · go_wp2
      go_ret
      refine ⟨_, rfl, ?_, HBW.out.trans (HB.out.mono (by rw [HWS.out]; omega))⟩
      rw [HS.out]
      have hv := HV.out
      rw [List.take_of_length_le (by have := HM.out; omega)] at hv
      exact ownsRow_le hv (by rw [HWS.out]; omega)

set_option maxHeartbeats 1600000 in
theorem sizesL_any {w : World} {n : Nd} (h : n.Ok w) (hl : n.leaf = true) (hvk : n.vs.length = n.ks.length) (hc : n.s.count ≤ 100000) :
    Calls Tryz.prog 124 #[n.cell] w (SzPost w n) := by
  obtain ⟨f1, f2, f3, f4, f5⟩ := Nd.few hc
  have hk1 := h.k1
  have hk2 := h.k2
  have HOK := Lib.hid h
  have HF4 := Lib.hid f4
  have HS : Hid (szN n = szL n.ks n.vs) := Lib.hid (by unfold szN; rw [hl]; rfl)
  obtain ⟨m, hm⟩ : ∃ m, m = n.ks.length := ⟨_, rfl⟩
  have HM := Lib.hid hm
  rw [← hm] at hk1 f1
  obtain ⟨mv, hmv⟩ : ∃ m, m = n.vs.length := ⟨_, rfl⟩
  have HMV := Lib.hid hmv
  obtain rfl : mv = m := by omega
  have hv1 := h.v1
  have hv2 := h.v2
  rw [← hmv] at hv1
  have hcell : n.cell = .agg #[.bool true, .slice n.kq mv n.kc, .slice n.vq mv n.vc, .slice n.iq n.is.length n.ic] := by rw [← hl]; unfold Nd.cell; rw [← hm, ← hmv]
  obtain ⟨W, hW⟩ : ∃ W, W = w.alloc (.cells #[.bool true, .slice n.kq mv n.kc, .slice n.vq mv n.vc, .slice n.iq n.is.length n.ic] 82) := ⟨_, rfl⟩
  have HBW : Hid (Below w.heap.size w W) := Lib.hid (by rw [hW]; exact (Below.refl _ _).alloc (Nat.le_refl _) _)
  have hblk : W.heap[w.heap.size]? = some (.cells #[.bool true, .slice n.kq mv n.kc, .slice n.vq mv n.vc, .slice n.iq n.is.length n.ic] 82 (0, 0)) := by rw [hW]; exact heap_alloc_new w _
  have HWS : Hid (W.heap.size = w.heap.size + 1) := Lib.hid (by rw [hW]; simp)
  have HC : Hid (∀ w', Below W.heap.size W w' → w'.cell? ⟨w.heap.size, 0, none⟩ = some (.bool true) ∧ w'.cell? ⟨w.heap.size, 1, none⟩ = some (.slice n.kq mv n.kc) ∧ w'.cell? ⟨w.heap.size, 2, none⟩ = some (.slice n.vq mv n.vc) ∧ w'.cell? ⟨w.heap.size, 3, none⟩ = some (.slice n.iq n.is.length n.ic)) := Lib.hid fun w' hb => by
    have h1 := (hb.block w.heap.size (by rw [HWS.out]; omega)).trans hblk
    exact ⟨Joins.cell_of_block h1 0, Joins.cell_of_block h1 1, Joins.cell_of_block h1 2, Joins.cell_of_block h1 3⟩
  rw [hcell]
  have HCE := Lib.hid hcell
  have HF5 := Lib.hid f5
  clear hblk hm hmv hcell h f4 f5 hc hl hvk f2
  obtain ⟨c0, c1, c2, c3⟩ := HC.out W (Below.refl _ _)
  go_enter Tryz.func124, Tryz.ntmps124
  go_wp2_with fail
  rw [← hW]
  replace hW := Lib.hid hW
  go_wp2
  go_loopw [3, 15] (fun v i wr => ∃ j : Nat, i = .int .i64 (j : Int) ∧ j ≤ mv ∧ IOwn wr W.heap.size v (szL (n.ks.take j) (n.vs.take j)) ∧ Below W.heap.size W wr) (fun _ i _ => mv - (intOf i).toNat)
  case atStart => exact ⟨0, rfl, by omega, iown_nil _ _, Below.refl _ _⟩
  case round =>
    clear c0 c1 c2 c3
    obtain ⟨j, rfl, hj, hv, hb⟩ := hrel
    have HV := Lib.hid hv
    have HB := Lib.hid hb
    obtain ⟨c0, c1, c2, c3⟩ := HC.out _ hb
    clear hb hv
    by_cases hlt : j < mv
    · obtain ⟨x, hx⟩ : ∃ x, n.ks[j]? = some x := ⟨_, List.getElem?_eq_getElem (by have := HM.out; omega)⟩
      have hm2 := List.mem_of_getElem? hx
      obtain ⟨b, o, hq, hblt, hkc⟩ := (((HOK.out.below HBW.out).below HB.out).kl).at hx
      have hx2 := (HOK.out.ko x hm2).h2
      have hx3 := HF4.out x hm2
      have hx1 := (HOK.out.ko x hm2).h1
      obtain ⟨y, hy⟩ : ∃ y, n.vs[j]? = some y := ⟨_, List.getElem?_eq_getElem (by have := HMV.out; omega)⟩
      obtain ⟨bv, ov, hqv, hbvlt, hv0, hv1', hv2'⟩ := (((HOK.out.below HBW.out).below HB.out).vl).at hy
      have HYL := Lib.hid (Nat.le_trans (lens_mem (f := Vl.l) (List.mem_of_getElem? hy)) HF5.out)
      rw [hq] at c1 ⊢
      rw [hqv] at c2 ⊢
      have HD := Lib.hid (szL_next hx hy)
      obtain ⟨kl, hkl⟩ : ∃ k, k = x.l.length := ⟨_, rfl⟩
      rw [← hkl] at hkc hx3 hx1
      have HKL := Lib.hid hkl
      have HYO := HOK.out.vo y (List.mem_of_getElem? hy)
      have g1 := HYO.g1
      have g2 := HYO.g2
      have g3 := HYO.p1
      have g4 := HYO.p2
      have g5 := HYO.h1
      have g6 := HYO.h2
      have HCH := Lib.hid (fun w => entry_any (w := w) (q := x.q) (n := kl) (c := x.c) (by omega) y.q y.c y.l y.g y.p (Nat.le_trans HYL.out (by omega)) x.l HKL.out)
      have HES : Hid (entS x.l y.s ≤ 200006) := Lib.hid (by
        have h1 := HYL.out
        have h2 := HKL.out
        unfold entS Vl.s
        dsimp only
        split <;> omega)
      obtain ⟨es, hes⟩ : ∃ s, s = entS x.l ⟨y.l, y.g, y.p⟩ := ⟨_, rfl⟩
      rw [show entS x.l y.s = es from hes.symm] at HD HES
      rw [← hes] at HCH
      obtain ⟨yl, hyl⟩ : ∃ k, k = y.l.length := ⟨_, rfl⟩
      rw [← hyl] at hv0 HCH g5
      have hes2 := HES.out
      have HLN : Hid ((szL (n.ks.take j) (n.vs.take j)).length ≤ 999999) := Lib.hid (by simp [szL]; omega)
      clear hx hm2 hkl hq hy hqv HYO hes hyl
      go_wp2_with fail
      refine (HCH.out _).mono ?_
      rintro e w2 ⟨rfl, hb2⟩
      have HB2 := Lib.hid (HB.out.trans (hb2.mono HB.out.size))
      have HV2 := Lib.hid (row_below HV.out hb2)
      clear hb2
      go_wp2_with (at_builtin; refine app_slI rfl (.tmp 22) (.tmp 30) rfl rfl (World.ownsRow.alloc HV2.out _) (m := [((es : Nat) : Int)]) rfl rfl (ks_one _) (fun h => by cases h) (by have := HLN.out; simp only [List.length_cons, List.length_nil] at this ⊢; omega) (by have := HB2.out.size; simp; omega) ?_; intro v3 w3 hv3 hg3; have HV3 := Lib.hid hv3; have HB3 : Hid (Below W.heap.size W w3) := Lib.hid ((HB2.out.alloc HB2.out.size _).grown hg3 (by have := HB2.out.size; simp; omega) (fun k hk => (World.ownsRow.lt HV2.out k hk).1)); clear hv3 hg3)
      go_wp2
      go_roundw
      case rel => exact ⟨j + 1, by go_num, by omega, by rw [HD.out]; exact HV3.out, HB3.out⟩
      case measure => simp [intOf]; omega
    · go_wp2
      go_ret
      refine ⟨_, rfl, ?_, HBW.out.trans (HB.out.mono (by rw [HWS.out]; omega))⟩
      rw [HS.out]
      have hv := HV.out
      rw [List.take_of_length_le (by have := HM.out; omega), List.take_of_length_le (by have := HMV.out; omega)] at hv
      exact ownsRow_le hv (by rw [HWS.out]; omega)

theorem sizes_any {w : World} {n : Nd} (h : n.Ok w) (hv : n.leaf = true → n.vs.length = n.ks.length) (hc : n.s.count ≤ 100000) :
    Calls Tryz.prog 124 #[n.cell] w (SzPost w n) := by
  cases hl : n.leaf
  · exact sizesB_any h hl hc
  · exact sizesL_any h hl (hv hl) hc

end Go.Proofs.YtfpdcfomfikkiaaGreatDoor

