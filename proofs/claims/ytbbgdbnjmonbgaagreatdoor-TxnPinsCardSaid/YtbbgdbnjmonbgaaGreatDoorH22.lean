/-
  tree.splice.
  tree.sizes.
  Where sizes are cut.
  How an argument that is a list.
  Package share.
  Package share.
  tree.cut.
  tree.cut.
  Package share.
  tree.
  tree.
  tree.
-/
import Derived.Test.YtbbgdbnjmonbgaaGreatDoorH00
import Derived.Test.YtbbgdbnjmonbgaaGreatDoorH21
import Derived.Test.YtbbgdbnjmonbgaaGreatDoorH04
import Derived.Test.YtbbgdbnjmonbgaaGreatDoorH20
import Derived.ProofKit
import Derived.ShutString
import Derived.Carry
import Derived.SizedLaws
import Derived.OpenShut
import Derived.Deep.Onto
import Derived.Deep.Slices
import Derived.Lib.SmallJoins
import Derived.RangeFuncNested
import Derived.RangeFuncBound
import Derived.RangeFuncCalls
import Derived.RangeFuncLeaves
import Derived.Shelf.Abstract
import Derived.WalkKit
import Derived.OwnWalkIn
import Derived.TacticsInMore
import Derived.LoopNIn
import Derived.LoopIn
set_option linter.unusedVariables false
set_option linter.unusedSimpArgs false
set_option maxRecDepth 100000
namespace Go.Proofs.YtbbgdbnjmonbgaaGreatDoor
open Go.RowKit
theorem ownsRow_le {w : World} {B B' size n : Nat} {e : TypeId} {v : Value} {xs : List Value} (h : w.ownsRow B e size v n xs) (hb : B' ≤ B) : w.ownsRow B' e size v n xs := by
 refine ⟨h.1, ?_⟩
 rcases h.2 with h0 | ⟨g, cap, cur, hv, h1, h2⟩
 ·
  exact .inl h0
 ·
  exact .inr ⟨g, cap, cur, hv, Nat.le_trans hb h1, h2⟩
theorem kbs_take {w : World} {q : Option Addr} {l : List Kb} (h : Kbs w q l) (k : Nat) : Kbs w q (l.take k) := by
 intro hne
 obtain ⟨b, o, hp, hc⟩ := h (by intro e; rw [e] at hne; simp at hne)
 refine ⟨b, o, hp, fun i x hi => hc i x ?_⟩
 rw [List.getElem?_take] at hi
 split at hi
 ·
  exact hi
 ·
  cases hi
theorem kbs_drop {w : World} {ad : Addr} {l : List Kb} (h : Kbs w (some ad) l) (k : Nat) : Kbs w (some (ad.add (k * 1))) (l.drop k) := by
 intro hne
 obtain ⟨b, o, hp, hc⟩ := h (by intro e; rw [e] at hne; simp at hne)
 obtain rfl := Option.some.inj hp
 refine ⟨b, o + k * 1, by rw [Addr.add_lit], fun i x hi => ?_⟩
 rw [List.getElem?_drop] at hi
 have := hc (k + i) x hi
 rw [show o + k * 1 + i = o + (k + i) by omega]
 exact this
theorem vls_take {w : World} {q : Option Addr} {l : List Vl} (h : Vls w q l) (k : Nat) : Vls w q (l.take k) := by
 intro hne
 obtain ⟨b, o, hp, hc⟩ := h (by intro e; rw [e] at hne; simp at hne)
 refine ⟨b, o, hp, fun i x hi => hc i x ?_⟩
 rw [List.getElem?_take] at hi
 split at hi
 ·
  exact hi
 ·
  cases hi
theorem vls_drop {w : World} {ad : Addr} {l : List Vl} (h : Vls w (some ad) l) (k : Nat) : Vls w (some (ad.add (k * 3))) (l.drop k) := by
 intro hne
 obtain ⟨b, o, hp, hc⟩ := h (by intro e; rw [e] at hne; simp at hne)
 obtain rfl := Option.some.inj hp
 refine ⟨b, o + k * 3, by rw [Addr.add_lit], fun i x hi => ?_⟩
 rw [List.getElem?_drop] at hi
 have := hc (k + i) x hi
 rw [show o + k * 3 + i * 3 = o + (k + i) * 3 by omega]
 exact this
set_option maxHeartbeats 3200000 in
theorem spliceK {w : World} {x y : SlK} (hx : x.Ok w) (hy : y.Ok w) {i j : Nat} (hij : i ≤ j) (hj : j ≤ x.l.length) (hlen : x.l.length + y.l.length ≤ 50000) :
  Calls Tryz.prog 143 #[.slice x.q x.l.length x.c, .int .i64 (i : Int), .int .i64 (j : Int), .slice y.q y.l.length y.c] w fun e w' => ∃ v, e = .returned v ∧ KOwn w' w.heap.size v (x.l.take i ++ (y.l ++ x.l.drop j)) ∧ Below w.heap.size w w' := by
 obtain ⟨q, c, l⟩ := x
 obtain ⟨q2, c2, l2⟩ := y
 have HCT : Hid (∀ w' g (z : SlK), Below w.heap.size w w' → z.Ok w → z.l = l.drop j → w'.heap[g]? = some (.cells #[.slice q i c, .slice q2 l2.length c2, .slice z.q (l.length - j) z.c] 103 (0, 0)) → Calls Tryz.prog 162 #[.slice (some ⟨g, 0, none⟩) 3 3] w' fun e w'' => ∃ v, e = .returned v ∧ KOwn w'' w'.heap.size v (l.take i ++ (l2 ++ l.drop j)) ∧ Below w'.heap.size w' w'') := Hq fun w' g z hb hz hzl hg => by
  have hti : (l.take i).length = i := by rw [List.length_take]; exact Nat.min_eq_left (Nat.le_trans hij hj)
  have hzn : z.l.length = l.length - j := by rw [hzl, List.length_drop]
  have hc := concatK (w := w') (b := g) (m := 3) (L := [⟨q, c, l.take i⟩, ⟨q2, c2, l2⟩, z]) rfl (by omega) (fun n u hn => by
   match n, hn with
   | 0, hn => cases hn; rw [jC hg]; show some _ = some (Value.slice q (l.take i).length c); rw [hti]; rfl
   | 1, hn => cases hn; rw [jC hg]; rfl
   | 2, hn => cases hn; rw [jC hg]; show some _ = some (Value.slice z.q z.l.length z.c); rw [hzn]; rfl
   | n + 3, hn => simp at hn) (fun u hu => by
   simp only [List.mem_cons, List.not_mem_nil, or_false] at hu
   rcases hu with rfl | rfl | rfl
   ·
    have h1 := hx.below hb
    exact ⟨kbs_take h1.at_ i, by show (l.take i).length ≤ c; rw [hti]; have := h1.h1; show i ≤ c; exact Nat.le_trans (Nat.le_trans hij hj) this, h1.h2, h1.z⟩
   ·
    exact hy.below hb
   ·
    exact hz.below hb) (by
   show (l.take i).length + (l2.length + (z.l.length + 0)) ≤ 100000
   rw [hti, hzn]
   have h1 : j ≤ l.length := hj
   have h2 : l.length + l2.length ≤ 50000 := hlen
   omega)
  have he : List.flatMap SlK.l [⟨q, c, l.take i⟩, ⟨q2, c2, l2⟩, z] = l.take i ++ (l2 ++ l.drop j) := by
   simp [hzl]
  rw [he] at hc
  exact hc
 have h1 := hx.h1
 have h2 := hx.h2
 have h3 := hy.h1
 have h4 := hy.h2
 have HX := Hq hx
 dsimp only at h1 h2 h3 h4 hj hlen ⊢
 have HLD : Hid ((l.drop j).length = l.length - j) := Hq List.length_drop
 obtain ⟨n, hn⟩ : ∃ n, n = l.length := ⟨_, rfl⟩
 have HN := Hq hn
 rw [← hn] at h1 hj hlen HCT HLD ⊢
 obtain ⟨n2, hn2⟩ : ∃ n2, n2 = l2.length := ⟨_, rfl⟩
 rw [← hn2] at h3 hlen HCT ⊢
 clear hx hy hn hn2
 have a1 : (0 : Int) ≤ (i : Int) := by omega
 have a2 : (i : Int) ≤ (c : Int) := by omega
 have a3 : (0 : Int) ≤ (j : Int) := by omega
 have a4 : (j : Int) ≤ (n : Int) := by omega
 have a5 : i ≤ c := by omega
 have ways : ∀ (zq : Option Addr) (zc : Nat), (∀ w', Below w.heap.size w w' → (SlK.mk zq zc (l.drop j)).Ok w') → Hid (∀ w' g, Below w.heap.size w w' → w'.heap[g]? = some (.cells #[.slice q i c, .slice q2 n2 c2, .slice zq (n - j) zc] 103 (0, 0)) → Calls Tryz.prog 162 #[.slice (some ⟨g, 0, none⟩) 3 3] w' fun e w'' => ∃ v, e = .returned v ∧ KOwn w'' w'.heap.size v (l.take i ++ (l2 ++ l.drop j)) ∧ Below w'.heap.size w' w'') := fun zq zc hz => Hq fun w' g hb hg => HCT.out w' g ⟨zq, zc, l.drop j⟩ hb (hz w (Below.refl _ _)) rfl hg
 clear HCT
 cases q with
 | none =>
  obtain rfl : c = 0 := HX.out.z rfl
  obtain rfl : n = 0 := by omega
  obtain rfl : j = 0 := by omega
  obtain rfl : i = 0 := by omega
  have HC3 := ways none 0 (fun w' hb => by
   obtain rfl : l = [] := List.eq_nil_of_length_eq_zero HN.out.symm
   exact ⟨(fun h => absurd rfl h), Nat.le_refl _, by show 0 ≤ _; omega, fun _ => rfl⟩)
  have HC4 : Hid (Calls Tryz.prog 162 #[.slice (some ⟨w.heap.size, 0, none⟩) 3 3] (w.alloc (.cells #[.slice none 0 0, .slice q2 n2 c2, .slice none (0) (0)] 103)).drew fun e w'' => ∃ v, e = .returned v ∧ KOwn w'' w.heap.size v (l.take 0 ++ (l2 ++ l.drop 0)) ∧ Below w.heap.size w w'') := Hq ((HC3.out _ w.heap.size (sbox1 _ _).drew (heap_alloc_new w _)).mono fun e w'' ⟨v, h1, h2, h3⟩ => ⟨v, h1, ownsRow_le h2 (by simp), (sbox1 _ _).drew.trans (h3.mono (by simp))⟩)
  clear ways HC3
  go_enter Tryz.func143, Tryz.ntmps143
  go_wp2_with fail
  go_region_with (go_at_call 162; (with_reducible refine HC4.out.mono ?_); rintro e w1 ⟨v, rfl, hv, hb⟩; have HV := Hq hv; have HB := Hq hb; clear hv hb)
  all_goals
   go_wp2
   go_ret
   exact ⟨_, rfl, HV.out, HB.out⟩
 | some ad =>
  by_cases hcj : c = j
  ·
   subst hcj
   have en : n - c = 0 := by omega
   have HC3 := ways (some ad) 0 (fun w' hb => by
    have e : l.drop c = [] := List.drop_eq_nil_of_le (by rw [← HN.out]; omega)
    rw [e]
    exact ⟨(fun h => absurd rfl h), Nat.le_refl _, by show 0 ≤ _; omega, fun h => (by cases h)⟩)
   have HC4 : Hid (Calls Tryz.prog 162 #[.slice (some ⟨w.heap.size, 0, none⟩) 3 3] (w.alloc (.cells #[.slice (some ad) i c, .slice q2 n2 c2, .slice (some ad) 0 0] 103)).drew fun e w'' => ∃ v, e = .returned v ∧ KOwn w'' w.heap.size v (l.take i ++ (l2 ++ l.drop c)) ∧ Below w.heap.size w w'') := Hq ((en ▸ HC3.out _ w.heap.size (sbox1 _ _).drew (heap_alloc_new w _)).mono fun e w'' ⟨v, h1, h2, h3⟩ => ⟨v, h1, ownsRow_le h2 (by simp), (sbox1 _ _).drew.trans (h3.mono (by simp))⟩)
   clear ways HC3 en
   go_enter Tryz.func143, Tryz.ntmps143
   go_wp2_with fail
   go_region_with (go_at_call 162; (with_reducible refine HC4.out.mono ?_); rintro e w1 ⟨v, rfl, hv, hb⟩; have HV := Hq hv; have HB := Hq hb; clear hv hb)
   all_goals
    go_wp2
    go_ret
    exact ⟨_, rfl, HV.out, HB.out⟩
  ·
   have HC3 := ways (some (ad.add (j * 1))) (c - j) (fun w' hb => ⟨(kbs_drop HX.out.at_ j).below hb, by show (l.drop j).length ≤ c - j; rw [HLD.out]; omega, by show c - j ≤ _; omega, fun h => (by cases h)⟩)
   rw [Nat.mul_one] at HC3
   have HC4 : Hid (Calls Tryz.prog 162 #[.slice (some ⟨w.heap.size, 0, none⟩) 3 3] (w.alloc (.cells #[.slice (some ad) i c, .slice q2 n2 c2, .slice (some (ad.add j)) (n - j) (c - j)] 103)).drew fun e w'' => ∃ v, e = .returned v ∧ KOwn w'' w.heap.size v (l.take i ++ (l2 ++ l.drop j)) ∧ Below w.heap.size w w'') := Hq ((HC3.out _ w.heap.size (sbox1 _ _).drew (heap_alloc_new w _)).mono fun e w'' ⟨v, h1, h2, h3⟩ => ⟨v, h1, ownsRow_le h2 (by simp), (sbox1 _ _).drew.trans (h3.mono (by simp))⟩)
   clear ways HC3
   go_enter Tryz.func143, Tryz.ntmps143
   go_wp2_with fail
   go_region_with (go_at_call 162; (with_reducible refine HC4.out.mono ?_); rintro e w1 ⟨v, rfl, hv, hb⟩; have HV := Hq hv; have HB := Hq hb; clear hv hb)
   all_goals
    go_wp2
    go_ret
    exact ⟨_, rfl, HV.out, HB.out⟩
set_option maxHeartbeats 3200000 in
theorem spliceV {w : World} {x y : SlV} (hx : x.Ok w) (hy : y.Ok w) {i j : Nat} (hij : i ≤ j) (hj : j ≤ x.l.length) (hlen : x.l.length + y.l.length ≤ 50000) :
  Calls Tryz.prog 144 #[.slice x.q x.l.length x.c, .int .i64 (i : Int), .int .i64 (j : Int), .slice y.q y.l.length y.c] w fun e w' => ∃ v, e = .returned v ∧ VOwn w' w.heap.size v (x.l.take i ++ (y.l ++ x.l.drop j)) ∧ Below w.heap.size w w' := by
 obtain ⟨q, c, l⟩ := x
 obtain ⟨q2, c2, l2⟩ := y
 have HCT : Hid (∀ w' g (z : SlV), Below w.heap.size w w' → z.Ok w → z.l = l.drop j → w'.heap[g]? = some (.cells #[.slice q i c, .slice q2 l2.length c2, .slice z.q (l.length - j) z.c] 104 (0, 0)) → Calls Tryz.prog 163 #[.slice (some ⟨g, 0, none⟩) 3 3] w' fun e w'' => ∃ v, e = .returned v ∧ VOwn w'' w'.heap.size v (l.take i ++ (l2 ++ l.drop j)) ∧ Below w'.heap.size w' w'') := Hq fun w' g z hb hz hzl hg => by
  have hti : (l.take i).length = i := by rw [List.length_take]; exact Nat.min_eq_left (Nat.le_trans hij hj)
  have hzn : z.l.length = l.length - j := by rw [hzl, List.length_drop]
  have hc := concatV (w := w') (b := g) (m := 3) (L := [⟨q, c, l.take i⟩, ⟨q2, c2, l2⟩, z]) rfl (by omega) (fun n u hn => by
   match n, hn with
   | 0, hn => cases hn; rw [jC hg]; show some _ = some (Value.slice q (l.take i).length c); rw [hti]; rfl
   | 1, hn => cases hn; rw [jC hg]; rfl
   | 2, hn => cases hn; rw [jC hg]; show some _ = some (Value.slice z.q z.l.length z.c); rw [hzn]; rfl
   | n + 3, hn => simp at hn) (fun u hu => by
   simp only [List.mem_cons, List.not_mem_nil, or_false] at hu
   rcases hu with rfl | rfl | rfl
   ·
    have h1 := hx.below hb
    exact ⟨vls_take h1.at_ i, by show (l.take i).length ≤ c; rw [hti]; have := h1.h1; show i ≤ c; exact Nat.le_trans (Nat.le_trans hij hj) this, h1.h2, h1.z⟩
   ·
    exact hy.below hb
   ·
    exact hz.below hb) (by
   show (l.take i).length + (l2.length + (z.l.length + 0)) ≤ 100000
   rw [hti, hzn]
   have h1 : j ≤ l.length := hj
   have h2 : l.length + l2.length ≤ 50000 := hlen
   omega)
  have he : List.flatMap SlV.l [⟨q, c, l.take i⟩, ⟨q2, c2, l2⟩, z] = l.take i ++ (l2 ++ l.drop j) := by
   simp [hzl]
  rw [he] at hc
  exact hc
 have h1 := hx.h1
 have h2 := hx.h2
 have h3 := hy.h1
 have h4 := hy.h2
 have HX := Hq hx
 dsimp only at h1 h2 h3 h4 hj hlen ⊢
 have HLD : Hid ((l.drop j).length = l.length - j) := Hq List.length_drop
 obtain ⟨n, hn⟩ : ∃ n, n = l.length := ⟨_, rfl⟩
 have HN := Hq hn
 rw [← hn] at h1 hj hlen HCT HLD ⊢
 obtain ⟨n2, hn2⟩ : ∃ n2, n2 = l2.length := ⟨_, rfl⟩
 rw [← hn2] at h3 hlen HCT ⊢
 clear hx hy hn hn2
 have a1 : (0 : Int) ≤ (i : Int) := by omega
 have a2 : (i : Int) ≤ (c : Int) := by omega
 have a3 : (0 : Int) ≤ (j : Int) := by omega
 have a4 : (j : Int) ≤ (n : Int) := by omega
 have a5 : i ≤ c := by omega
 have ways : ∀ (zq : Option Addr) (zc : Nat), (∀ w', Below w.heap.size w w' → (SlV.mk zq zc (l.drop j)).Ok w') → Hid (∀ w' g, Below w.heap.size w w' → w'.heap[g]? = some (.cells #[.slice q i c, .slice q2 n2 c2, .slice zq (n - j) zc] 104 (0, 0)) → Calls Tryz.prog 163 #[.slice (some ⟨g, 0, none⟩) 3 3] w' fun e w'' => ∃ v, e = .returned v ∧ VOwn w'' w'.heap.size v (l.take i ++ (l2 ++ l.drop j)) ∧ Below w'.heap.size w' w'') := fun zq zc hz => Hq fun w' g hb hg => HCT.out w' g ⟨zq, zc, l.drop j⟩ hb (hz w (Below.refl _ _)) rfl hg
 clear HCT
 cases q with
 | none =>
  obtain rfl : c = 0 := HX.out.z rfl
  obtain rfl : n = 0 := by omega
  obtain rfl : j = 0 := by omega
  obtain rfl : i = 0 := by omega
  have HC3 := ways none 0 (fun w' hb => by
   obtain rfl : l = [] := List.eq_nil_of_length_eq_zero HN.out.symm
   exact ⟨(fun h => absurd rfl h), Nat.le_refl _, by show 0 ≤ _; omega, fun _ => rfl⟩)
  have HC4 : Hid (Calls Tryz.prog 163 #[.slice (some ⟨w.heap.size, 0, none⟩) 3 3] (w.alloc (.cells #[.slice none 0 0, .slice q2 n2 c2, .slice none (0) (0)] 104)).drew fun e w'' => ∃ v, e = .returned v ∧ VOwn w'' w.heap.size v (l.take 0 ++ (l2 ++ l.drop 0)) ∧ Below w.heap.size w w'') := Hq ((HC3.out _ w.heap.size (sbox1 _ _).drew (heap_alloc_new w _)).mono fun e w'' ⟨v, h1, h2, h3⟩ => ⟨v, h1, ownsRow_le h2 (by simp), (sbox1 _ _).drew.trans (h3.mono (by simp))⟩)
  clear ways HC3
  go_enter Tryz.func144, Tryz.ntmps144
  go_wp2_with fail
  go_region_with (go_at_call 163; (with_reducible refine HC4.out.mono ?_); rintro e w1 ⟨v, rfl, hv, hb⟩; have HV := Hq hv; have HB := Hq hb; clear hv hb)
  all_goals
   go_wp2
   go_ret
   exact ⟨_, rfl, HV.out, HB.out⟩
 | some ad =>
  by_cases hcj : c = j
  ·
   subst hcj
   have en : n - c = 0 := by omega
   have HC3 := ways (some ad) 0 (fun w' hb => by
    have e : l.drop c = [] := List.drop_eq_nil_of_le (by rw [← HN.out]; omega)
    rw [e]
    exact ⟨(fun h => absurd rfl h), Nat.le_refl _, by show 0 ≤ _; omega, fun h => (by cases h)⟩)
   have HC4 : Hid (Calls Tryz.prog 163 #[.slice (some ⟨w.heap.size, 0, none⟩) 3 3] (w.alloc (.cells #[.slice (some ad) i c, .slice q2 n2 c2, .slice (some ad) 0 0] 104)).drew fun e w'' => ∃ v, e = .returned v ∧ VOwn w'' w.heap.size v (l.take i ++ (l2 ++ l.drop c)) ∧ Below w.heap.size w w'') := Hq ((en ▸ HC3.out _ w.heap.size (sbox1 _ _).drew (heap_alloc_new w _)).mono fun e w'' ⟨v, h1, h2, h3⟩ => ⟨v, h1, ownsRow_le h2 (by simp), (sbox1 _ _).drew.trans (h3.mono (by simp))⟩)
   clear ways HC3 en
   go_enter Tryz.func144, Tryz.ntmps144
   go_wp2_with fail
   go_region_with (go_at_call 163; (with_reducible refine HC4.out.mono ?_); rintro e w1 ⟨v, rfl, hv, hb⟩; have HV := Hq hv; have HB := Hq hb; clear hv hb)
   all_goals
    go_wp2
    go_ret
    exact ⟨_, rfl, HV.out, HB.out⟩
  ·
   have HC3 := ways (some (ad.add (j * 3))) (c - j) (fun w' hb => ⟨(vls_drop HX.out.at_ j).below hb, by show (l.drop j).length ≤ c - j; rw [HLD.out]; omega, by show c - j ≤ _; omega, fun h => (by cases h)⟩)
   have HC4 : Hid (Calls Tryz.prog 163 #[.slice (some ⟨w.heap.size, 0, none⟩) 3 3] (w.alloc (.cells #[.slice (some ad) i c, .slice q2 n2 c2, .slice (some (ad.add (j * 3))) (n - j) (c - j)] 104)).drew fun e w'' => ∃ v, e = .returned v ∧ VOwn w'' w.heap.size v (l.take i ++ (l2 ++ l.drop j)) ∧ Below w.heap.size w w'') := Hq ((HC3.out _ w.heap.size (sbox1 _ _).drew (heap_alloc_new w _)).mono fun e w'' ⟨v, h1, h2, h3⟩ => ⟨v, h1, ownsRow_le h2 (by simp), (sbox1 _ _).drew.trans (h3.mono (by simp))⟩)
   clear ways HC3
   go_enter Tryz.func144, Tryz.ntmps144
   go_wp2_with fail
   go_region_with (go_at_call 163; (with_reducible refine HC4.out.mono ?_); rintro e w1 ⟨v, rfl, hv, hb⟩; have HV := Hq hv; have HB := Hq hb; clear hv hb)
   all_goals
    go_wp2
    go_ret
    exact ⟨_, rfl, HV.out, HB.out⟩
end Go.Proofs.YtbbgdbnjmonbgaaGreatDoor

set_option linter.unusedVariables false
set_option linter.unusedSimpArgs false
set_option maxRecDepth 100000
namespace Go.Proofs.YtbbgdbnjmonbgaaGreatDoor
open Go.RowKit
def szB (ks : List Kb) : List Int := ks.map fun k => ((k.l.length + 3 : Nat) : Int)
def szL (ks : List Kb) (vs : List Vl) : List Int := List.zipWith (fun k v => ((entS k.l v.s : Nat) : Int)) ks vs
def szN (n : Nd) : List Int := if n.leaf then szL n.ks n.vs else 2 :: szB n.ks
end Go.Proofs.YtbbgdbnjmonbgaaGreatDoor

set_option linter.unusedVariables false
set_option maxRecDepth 100000
namespace Go.Proofs.YtbbgdbnjmonbgaaGreatDoor
def shP (l : List Int) (k : Nat) : Int := (l.take k).sum
def shQ (l : List Int) (k : Nat) : Int := (l.drop k).sum
def shG (l : List Int) (k : Nat) : Int := if shP l k ≤ shQ l k then shQ l k - shP l k else shP l k - shQ l k
def ShFit (l : List Int) (most : Int) (k : Nat) : Prop := shP l k ≤ most ∧ shQ l k ≤ most
instance (l : List Int) (most : Int) (k : Nat) : Decidable (ShFit l most k) := inferInstanceAs (Decidable (_ ∧ _))
structure ShBest (l : List Int) (most : Int) (n b : Nat) (d : Int) (f : Bool) : Prop where
 no : f = false → b = 0 ∧ d = 0 ∧ ∀ i, 1 ≤ i → i < n → ¬ ShFit l most i
 yes : f = true → 1 ≤ b ∧ b < n ∧ ShFit l most b ∧ d = shG l b ∧ ∀ i, 1 ≤ i → i < n → ShFit l most i → shG l b ≤ shG l i ∧ (i < b → shG l b < shG l i)
def shRight (l : List Int) : Prop := l.length ≤ 4096 ∧ ∀ x ∈ l, 0 ≤ x ∧ x ≤ 1048576
instance (l : List Int) : Decidable (shRight l) := inferInstanceAs (Decidable (_ ∧ _))
def ShCut (l : List Int) (most : Int) (b : Nat) (f : Bool) : Prop :=
 (0 ≤ most ∧ shRight l → ∃ d, ShBest l most l.length b d f) ∧ (¬ (0 ≤ most ∧ shRight l) → b = 0 ∧ f = false)
end Go.Proofs.YtbbgdbnjmonbgaaGreatDoor

set_option linter.unusedVariables false
set_option maxRecDepth 100000
namespace Go.Proofs.YtbbgdbnjmonbgaaGreatDoor
open Go.ChangeShapes Go.WideShapes Go.ChangeAt Go.RowKit
structure KsOk (w : World) (q : Option Addr) (m c : Nat) (l : List Int) : Prop where
 hn : m = l.length
 h1 : m ≤ c
 h2 : c ≤ 9223372036854775807
 hl : Ks w q l
theorem cells_one : Tryz.prog.cellsOf 3 = 1 := by kernel_rfl
theorem open_keep {H : Type} {enc : TypeId × Value → H} {W : World} {fuel : Nat} {cs : List Value} {x : DataW H × List MemPlace}
  (h : DataW.trod enc Tryz.prog W 0 (fun _ => true) true fuel 22 cs = some x) : ∃ (q : Option Addr) (m c : Nat) (l : List Int), cs = [.slice q m c] ∧ KsOk W q m c l := by
 rcases Deep.open_slice Tryz.underlying22 h with ⟨hcs, _⟩ | ⟨a, len, cap, m, n, D, Pl, hcs, _, hl, hm, hmm, hx, hi⟩
 ·
  exact ⟨none, 0, 0, [], hcs, rfl, by omega, by omega, fun h => absurd rfl h⟩
 ·
  simp only [if_true] at hmm
  obtain rfl := hmm
  have hcell : ∀ i, i < len → ∃ t : Int, W.cells? 0 (a.add (i * 1)) 1 = some [.int .i64 t] := by
   intro i hil
   obtain ⟨cs', h1, h2⟩ := hi i (by omega)
   obtain ⟨s, e0, _, w0⟩ := DataW.trod_int Tryz.underlying3 h2
   rw [cells_one, e0] at h1
   exact ⟨s, h1⟩
  obtain ⟨F, hF⟩ := Deep.choose_lt hcell
  unfold maxLen at hm
  refine ⟨some a, len, m, (List.range len).map F, hcs, by simp, hl, by omega, ?_⟩
  intro hne
  have h0 : 0 < len := by
   rcases Nat.eq_zero_or_pos len with h | h
   ·
    subst h; simp at hne
   ·
    exact h
  obtain ⟨b, o, s⟩ := a
  have hs : s = none := by
   obtain ⟨_, _, hc⟩ := World.cells?_some (hF 0 h0)
   have := World.cell?_spot ((hc 0 (by omega)).trans rfl)
   simpa [Addr.add] using this
  subst hs
  refine ⟨b, o, rfl, fun i t hit => ?_⟩
  rw [List.getElem?_map] at hit
  have hil : i < len := by
   rcases Nat.lt_or_ge i len with h | h
   ·
    exact h
   ·
    rw [List.getElem?_eq_none (by simpa using h)] at hit
    cases hit
  rw [List.getElem?_eq_getElem (by simpa using hil)] at hit
  simp only [List.getElem_range, Option.map_some, Option.some.injEq] at hit
  subst hit
  obtain ⟨_, _, hc⟩ := World.cells?_some (hF i hil)
  have c0 := hc 0 (by omega)
  rw [Deep.add_add, add_plain, Nat.mul_one, Nat.add_zero] at c0
  exact c0
end Go.Proofs.YtbbgdbnjmonbgaaGreatDoor

set_option linter.unusedVariables false
set_option maxRecDepth 100000
namespace Go.Proofs.YtbbgdbnjmonbgaaGreatDoor
open Go.RowKit
end Go.Proofs.YtbbgdbnjmonbgaaGreatDoor

set_option linter.unusedVariables false
set_option maxRecDepth 100000
namespace Go.Proofs.YtbbgdbnjmonbgaaGreatDoor
open Go.RowKit
theorem alloc_old {w : World} {R : Nat} {x : Obj} (h : w.heap[R]? = some x) (o : Obj) : (w.alloc o).heap[R]? = some x := by
 rw [Below.heap_alloc _ _ _ (aL h)]
 exact h
end Go.Proofs.YtbbgdbnjmonbgaaGreatDoor

set_option linter.unusedVariables false
set_option linter.unusedSimpArgs false
set_option maxRecDepth 100000
namespace Go.Proofs.YtbbgdbnjmonbgaaGreatDoor
open Go.RowKit
def Nds (w : World) (q : Option Addr) (ls : List Nd) : Prop := ls ≠ [] → ∃ b o, q = some ⟨b, o, none⟩ ∧ ∀ i n, ls[i]? = some n → w.cell? ⟨b, o + i * 4, none⟩ = some (.bool n.leaf) ∧ w.cell? ⟨b, o + i * 4 + 1, none⟩ = some (.slice n.kq n.ks.length n.kc) ∧ w.cell? ⟨b, o + i * 4 + 2, none⟩ = some (.slice n.vq n.vs.length n.vc) ∧ w.cell? ⟨b, o + i * 4 + 3, none⟩ = some (.slice n.iq n.is.length n.ic)
theorem Nds.below {w w' : World} {q : Option Addr} {l : List Nd} (h : Nds w q l) (hb : Below w.heap.size w w') : Nds w' q l := by
 intro hne
 obtain ⟨b, o, hp, hc⟩ := h hne
 refine ⟨b, o, hp, fun i u hi => ?_⟩
 obtain ⟨h0, h1, h2, h3⟩ := hc i u hi
 rw [hb.cell (World.block_lt_of_cell? _ _ h0), hb.cell (World.block_lt_of_cell? _ _ h1), hb.cell (World.block_lt_of_cell? _ _ h2), hb.cell (World.block_lt_of_cell? _ _ h3)]
 exact ⟨h0, h1, h2, h3⟩
theorem nds_one {w : World} {g : Nat} {n : Nd} {t : TypeId} {f : Nat × Nat} (h : w.heap[g]? = some (.cells n.cells t f)) : Nds w (some ⟨g, 0, none⟩) [n] := fun _ => ⟨g, 0, rfl, fun i u hi => by
 match i, hi with
 | 0, hi =>
  cases hi
  exact ⟨jC h 0, jC h 1, jC h 2, jC h 3⟩
 | i + 1, hi => simp at hi⟩
structure Rw where
 nq : Option Addr
 nc : Nat
 ns : List Nd
 bq : Option Addr
 bc : Nat
 bs : List Kb
def Rw.cell (r : Rw) : Value := .agg #[.slice r.nq r.ns.length r.nc, .slice r.bq r.bs.length r.bc]
def qadd (q : Option Addr) (k : Nat) : Option Addr := q.map fun a => a.add k
def Nd.lowL (n : Nd) (k : Nat) : Nd := ⟨true, n.kq, n.kc, n.ks.take k, n.vq, n.vc, n.vs.take k, none, 0, []⟩
def Nd.highL (n : Nd) (k : Nat) : Nd := ⟨true, qadd n.kq k, n.kc - k, n.ks.drop k, qadd n.vq (k * 3), n.vc - k, n.vs.drop k, none, 0, []⟩
def Nd.lowB (n : Nd) (k : Nat) : Nd := ⟨false, n.kq, n.kc, n.ks.take (k - 1), none, 0, [], n.iq, n.ic, n.is.take k⟩
def Nd.highB (n : Nd) (k : Nat) : Nd := ⟨false, qadd n.kq k, n.kc - k, n.ks.drop k, none, 0, [], qadd n.iq k, n.ic - k, n.is.drop k⟩
def rwL (n : Nd) (k g : Nat) : Rw := ⟨some ⟨g, 0, none⟩, 2, [n.lowL k, n.highL k], qadd n.kq k, n.kc - k, (n.ks.drop k).take 1⟩
def rwB (n : Nd) (k g : Nat) : Rw := ⟨some ⟨g, 0, none⟩, 2, [n.lowB k, n.highB k], qadd n.kq (k - 1), n.kc - (k - 1), (n.ks.drop (k - 1)).take 1⟩
def rw1 (n : Nd) (g : Nat) : Rw := ⟨some ⟨g, 0, none⟩, 1, [n], none, 0, []⟩
theorem cset2 {w : World} {R : Nat} {x0 x1 a0 a1 : Value} {t : TypeId} (h : w.heap[R]? = some (.cells #[x0, x1] t (0, 0))) : ((w.setCell ⟨R, 0, none⟩ a0).setCell ⟨R, 1, none⟩ a1).heap[R]? = some (.cells #[a0, a1] t (0, 0)) := by
 simp [World.setCell, Array.getElem?_modify, h]
theorem gb2 (w : World) (R : Nat) (a b : Value) : w.grownBy ((w.setCell ⟨R, 0, none⟩ a).setCell ⟨R, 1, none⟩ b) (some R) := gb_set (gb_set (gb_refl w R) 0 a) 1 b
def CutIs (n : Nd) (g : Nat) (r : Rw) : Prop := (n.s.size ≤ 493 ∧ r = rw1 n g) ∨ (493 < n.s.size ∧ ∃ k f, ShCut (szN n) 492 k f ∧ 1 ≤ k ∧ r = if n.leaf then rwL n k g else rwB n k g)
def TrCutPost (w : World) (n : Nd) (e : Ending) (w' : World) : Prop := ∃ g r, e = .returned r.cell ∧ CutIs n g r ∧ w.heap.size ≤ g ∧ Nds w' (some ⟨g, 0, none⟩) r.ns ∧ Below w.heap.size w w'
set_option maxHeartbeats 3200000 in
theorem cut1_any {w : World} {n : Nd} (h : n.Ok w) (hc : n.s.count ≤ 100000) (hs : n.s.size ≤ 493) :
  Calls Tryz.prog 156 #[n.cell] w (TrCutPost w n) := by
 obtain ⟨W, hW⟩ : ∃ W, W = (w.alloc (.cells n.cells 106)).alloc (.cells #[.slice none 0 0, .slice none 0 0] 225) := ⟨_, rfl⟩
 obtain ⟨hb0, hb1, hbw, hws⟩ := boxes w n.cells #[.slice none 0 0, .slice none 0 0] 106 225
 rw [← hW] at hb0 hb1 hbw hws
 have HCS := Hq (size_any (h.below hbw) hc)
 have HB := Hq hbw
 have HWS := Hq hws
 have HB1 := Hq hb1
 have HX : Hid (∀ w', Below W.heap.size W w' → w'.cell? ⟨w.heap.size, 0, none⟩ = some (.bool n.leaf) ∧ w'.cell? ⟨w.heap.size, 1, none⟩ = some (.slice n.kq n.ks.length n.kc) ∧ w'.cell? ⟨w.heap.size, 2, none⟩ = some (.slice n.vq n.vs.length n.vc) ∧ w'.cell? ⟨w.heap.size, 3, none⟩ = some (.slice n.iq n.is.length n.ic) ∧ w'.cell? ⟨w.heap.size + 1, 0, none⟩ = some (.slice none 0 0) ∧ w'.cell? ⟨w.heap.size + 1, 1, none⟩ = some (.slice none 0 0)) := Hq fun w' hb => by
  have h0 := (hb.block w.heap.size (by omega)).trans hb0
  have h1 := (hb.block (w.heap.size + 1) (by omega)).trans hb1
  exact ⟨jC h0 0, jC h0 1, jC h0 2, jC h0 3, jC h1 0, jC h1 1⟩
 obtain ⟨c0, c1, c2, c3, c4, c5⟩ := HX.out W (Below.refl _ _)
 have HS := Hq hs
 unfold Nd.cell at HCS ⊢
 unfold Nd.cells at hW
 obtain ⟨m1, hm1⟩ : ∃ m, m = n.ks.length := ⟨_, rfl⟩
 obtain ⟨m2, hm2⟩ : ∃ m, m = n.vs.length := ⟨_, rfl⟩
 obtain ⟨m3, hm3⟩ : ∃ m, m = n.is.length := ⟨_, rfl⟩
 obtain ⟨sz, hsz⟩ : ∃ m, m = n.s.size := ⟨_, rfl⟩
 rw [← hm1, ← hm2, ← hm3, ← hsz] at HCS
 rw [← hm1] at c1 HX hW ⊢
 rw [← hm2] at c2 HX hW ⊢
 rw [← hm3] at c3 HX hW ⊢
 have d1 : decide ((sz : Int) ≤ 493) = true := decide_eq_true (by omega)
 have HM := Hq hm1
 have HM2 := Hq hm2
 have HM3 := Hq hm3
 clear hm1 hm2 hm3 hsz hb0 hb1 hbw hws h hc hs
 go_enter Tryz.func156, Tryz.ntmps156
 go_wp2_with fail
 rw [← hW]
 replace hW := Hq hW
 refine HCS.out.mono ?_
 rintro e w1 ⟨rfl, hb⟩
 have HB2 := Hq hb
 clear c0 c1 c2 c3 c4 c5
 obtain ⟨c0, c1, c2, c3, c4, c5⟩ := HX.out w1 hb
 have hbk : (w1.alloc (.cells #[.bool n.leaf, .slice n.kq m1 n.kc, .slice n.vq m2 n.vc, .slice n.iq m3 n.ic] 106)).heap[w.heap.size + 1]? = some (.cells #[.slice none 0 0, .slice none 0 0] 225 (0, 0)) := alloc_old ((hb.block _ (by have := HWS.out; omega)).trans HB1.out) _
 have z4 := (jC hbk 0).trans rfl
 have z5 := (jC hbk 1).trans rfl
 have y4 := jU hbk 0
 have y5 := jU hbk 1
 have HBK := Hq hbk
 clear hb hbk
 go_wp2
 refine bodyPost_ret (results_cell_row rfl _ _ (w.heap.size + 1) 225 #[.slice (some ⟨w1.heap.size, 0, none⟩) 1 1, .slice none 0 0] (0, 0) _ (by kernel_rfl) (cset2 HBK.out) Tryz.underlying225 rfl (by kernel_rfl)) rfl ?_
 have h1 := HB.out.size
 have h2 := HB2.out.size
 have h3 := HWS.out
 have hg := gb2 (w1.alloc (.cells #[.bool n.leaf, .slice n.kq m1 n.kc, .slice n.vq m2 n.vc, .slice n.iq m3 n.ic] 106)) (w.heap.size + 1) (.slice (some ⟨w1.heap.size, 0, none⟩) 1 1) (.slice none 0 0)
 refine ⟨w1.heap.size, rw1 n w1.heap.size, rfl, .inl ⟨HS.out, rfl⟩, by omega, nds_one (t := 106) (f := (0, 0)) ?_, ?_⟩
 ·
  rw [hg.block _ (by simp) (fun e => by have := Option.some.inj e; omega), heap_alloc_new]
  unfold Nd.cells
  rw [HM.out, HM2.out, HM3.out]
 ·
  exact ((HB.out.trans (HB2.out.mono (by omega))).alloc (by omega) _).grown hg (by simp; omega) (fun k hk => by have := Option.some.inj hk; omega)
end Go.Proofs.YtbbgdbnjmonbgaaGreatDoor

set_option linter.unusedVariables false
set_option linter.unusedSimpArgs false
set_option maxRecDepth 100000
namespace Go.Proofs.YtbbgdbnjmonbgaaGreatDoor
open Go.RowKit
end Go.Proofs.YtbbgdbnjmonbgaaGreatDoor

set_option linter.unusedVariables false
set_option maxRecDepth 100000
namespace Go.Proofs.YtbbgdbnjmonbgaaGreatDoor
open Go.RowKit
end Go.Proofs.YtbbgdbnjmonbgaaGreatDoor

set_option linter.unusedVariables false
set_option linter.unusedSimpArgs false
set_option maxRecDepth 100000
namespace Go.Proofs.YtbbgdbnjmonbgaaGreatDoor
open Go.RowKit
end Go.Proofs.YtbbgdbnjmonbgaaGreatDoor

set_option linter.unusedVariables false
set_option linter.unusedSimpArgs false
set_option maxRecDepth 100000
namespace Go.Proofs.YtbbgdbnjmonbgaaGreatDoor
open Go.RowKit
def CBx (w : World) (cb P sm : Nat) (val : Kb) (fv lv : Value) : Prop := w.heap[cb]? = some (.cells #[.pointer (some ⟨P, 0, none⟩), .map (some sm), .slice val.q val.l.length val.c, fv, lv] 186 (0, 0))
def entV (x : Kb) : Vl := if 64 < x.l.length then ⟨none, 0, [], x.l.length, -1⟩ else ⟨x.q, x.c, x.l, 0, 0⟩
set_option maxHeartbeats 800000 in
theorem entry_ok {w : World} {cb P sm : Nat} {val : Kb} {fv lv : Value} (h : CBx w cb P sm val fv lv) (hv : val.Ok w) :
  Calls Tryz.prog 119 #[.pointer (some ⟨cb, 0, none⟩)] w fun e w' => e = .returned (entV val).cell ∧ Below w.heap.size w w' := by
 have hlt := (aL h)
 obtain ⟨q, c, l⟩ := val
 have h1 := hv.h1
 have h2 := hv.h2
 have z2 : w.cell? ⟨cb, 2, none⟩ = some (.slice q l.length c) := (jC h 2).trans rfl
 have HE : Hid (entV ⟨q, c, l⟩ = if 64 < l.length then ⟨none, 0, [], l.length, -1⟩ else ⟨q, c, l, 0, 0⟩) := Hq rfl
 dsimp only at h1 h2
 obtain ⟨n, hn⟩ : ∃ n, n = l.length := ⟨_, rfl⟩
 rw [← hn] at h1 z2 HE
 have HN := Hq hn
 clear h hv hn
 by_cases hd : 64 < n
 ·
  have d1 : decide ((64 : Int) < (n : Int)) = true := decide_eq_true (by omega)
  have HE2 : Hid (entV ⟨q, c, l⟩ = ⟨none, 0, [], n, -1⟩) := Hq (by rw [HE.out, if_pos hd])
  generalize entV ⟨q, c, l⟩ = x at *
  go_enter Tryz.func119, Tryz.ntmps119
  go_wp2
  refine bodyPost_ret (results_cell_row rfl _ _ w.heap.size 108 _ (0, 0) _ (by kernel_rfl) (heap_alloc_new w _) Tryz.underlying108 rfl (by kernel_rfl)) rfl ?_
  refine ⟨?_, sbox1 _ _⟩
  rw [HE2.out]
  rfl
 ·
  have d1 : decide ((64 : Int) < (n : Int)) = false := decide_eq_false (by omega)
  have HE2 : Hid (entV ⟨q, c, l⟩ = ⟨q, c, l, 0, 0⟩) := Hq (by rw [HE.out, if_neg hd])
  generalize entV ⟨q, c, l⟩ = x at *
  go_enter Tryz.func119, Tryz.ntmps119
  go_wp2
  refine bodyPost_ret (results_cell_row rfl _ _ w.heap.size 108 _ (0, 0) _ (by kernel_rfl) (heap_alloc_new w _) Tryz.underlying108 rfl (by kernel_rfl)) rfl ?_
  refine ⟨?_, sbox1 _ _⟩
  rw [HE2.out, HN.out]
  rfl
end Go.Proofs.YtbbgdbnjmonbgaaGreatDoor

set_option linter.unusedVariables false
set_option linter.unusedSimpArgs false
set_option maxRecDepth 100000
namespace Go.Proofs.YtbbgdbnjmonbgaaGreatDoor
open Go.RowKit Go.Shelf
attribute [local go_sem] Oper.semAt_some
set_option maxHeartbeats 1600000 in
theorem eachW_any {w : World} {l by_ bd : Nat} {pc : Pc} {K : World → Prop} (hy : w.cell? ⟨by_, 0, none⟩ = some (.func (.yield l) #[] #[]))
  (hR : ∀ W, Below w.heap.size w W → YieldAt Fence.wide 2 Tryz.prog l #[Nd.zero.cell, .int .i64 18] W fun e W' => e = .returned (.bool false) ∧ K W') :
  Calls Tryz.prog 82 #[pc.v, Nd.zero.cell, .int .i64 18, .pointer (some ⟨bd, 0, none⟩), .pointer (some ⟨by_, 0, none⟩)] w fun e w' => e = .returned (.bool false) ∧ K w' := by
 have hbw : Below w.heap.size w ((w.alloc (.cells pc.cells 129)).alloc (.cells #[.bool false, .slice none 0 0, .slice none 0 0, .slice none 0 0] 106)) := sbox2 _ _ _
 obtain ⟨fn, tmps, assign, body, hyl, hRR⟩ := hR _ hbw
 have hyW : ((w.alloc (.cells pc.cells 129)).alloc (.cells #[.bool false, .slice none 0 0, .slice none 0 0, .slice none 0 0] 106)).cell? ⟨by_, 0, none⟩ = some (.func (.yield l) #[] #[]) := by rw [hbw.cell (World.block_lt_of_cell? _ _ hy)]; exact hy
 unfold Nd.cell Nd.zero at hyl
 unfold Pc.v Pc.cells at *
 unfold Nd.cell Nd.zero
 dsimp only [List.length_nil] at *
 clear hR hy hbw
 refine (callsIn_wide (n := 3)).1 (callsIn_of_wp Tryz.func82 rfl trivial ?_)
 simp only [Tryz.ntmps82, List.size_toArray, List.length_cons, List.length_nil, Nat.reduceAdd, Nat.reduceSub, Array.replicate_succ, Array.replicate_zero, List.push_toArray, List.append_toArray, List.nil_append, List.cons_append]
 gi_wp2
 refine hRR.mono ?_
 rintro e W' ⟨rfl, hK⟩
 gi_wp2
 go_ret
 exact ⟨rfl, hK⟩
section
variable {w : World} {B P pd sm : Nat} {X : PG} {seen : Int → Bool}
set_option maxHeartbeats 1600000 in
theorem belowW_any (h : LookAt w B P pd sm X seen) (hBw : B ≤ w.heap.size) {pc : Pc} (hp : pc.s.Ok w) (hno : ∀ s, ¬ NodeAt X seen pc.no pc.deep pc.s.s s) {l by_ bd : Nat} {ty : TypeId} {K : World → Prop} (nv : Value)
  (hy : w.heap[by_]? = some (.cells #[.func (.yield l) #[] #[]] ty (0, 0)))
  (hR : ∀ W seen', LookAt W B P pd sm X seen' → LStep sm w W → YieldAt Fence.wide 2 Tryz.prog l #[Nd.zero.cell, .int .i64 18] W fun e W' => e = .returned (.bool false) ∧ K W') :
  Calls Tryz.prog 83 #[.agg #[.pointer (some ⟨P, 0, none⟩), .map (some sm)], pc.v, nv, .func (.func 82) #[] #[.pointer (some ⟨bd, 0, none⟩), .pointer (some ⟨by_, 0, none⟩)]] w fun e w' => e = .returned (.bool false) ∧ K w' := by
 obtain ⟨W, hW⟩ : ∃ W, W = (w.alloc (.cells #[.pointer (some ⟨P, 0, none⟩), .map (some sm)] 95)).alloc (.cells pc.cells 129) := ⟨_, rfl⟩
 have hbw : Below w.heap.size w W := by rw [hW]; exact sbox2 _ _ _
 obtain ⟨b0, b1, _, hws⟩ := boxes w #[.pointer (some ⟨P, 0, none⟩), .map (some sm)] pc.cells 95 129
 rw [← hW] at b0 b1 hws
 have HLN := Hq (lookNode_any (h.below hbw) (by omega) (hp.below hbw))
 have HNO := Hq hno
 have HLS : Hid (LStep sm w W) := Hq (h.step hbw)
 have HX : Hid (∀ w', Keeps (isMaps [sm]) W w' → PBox w' (w.heap.size + 1) pc) := Hq fun w' hk => PBox.of (hk.stay b1 rfl)
 have HB0 : Hid (∀ w', Keeps (isMaps [sm]) W w' → w'.cell? ⟨w.heap.size, 0, none⟩ = some (.pointer (some ⟨P, 0, none⟩)) ∧ w'.cell? ⟨w.heap.size, 1, none⟩ = some (.map (some sm))) := Hq fun w' hk => ⟨(jC (hk.stay b0 rfl) 0).trans rfl, (jC (hk.stay b0 rfl) 1).trans rfl⟩
 have HY := Hq hy
 have HR := Hq hR
 obtain ⟨p0, p1, p2, p3, p4⟩ := HX.out W (Keeps.refl _ _)
 obtain ⟨x0, x1⟩ := HB0.out W (Keeps.refl _ _)
 unfold Pc.v at *
 unfold Pc.cells at hW
 clear h hBw hp hno hbw b0 b1 hws hy hR
 go_enter Tryz.func83, Tryz.ntmps83
 go_wp2_with fail
 rw [← hW]
 replace hW := Hq hW
 refine HLN.out.mono ?_
 rintro e w1 (⟨n, rfl, hna, _⟩ | ⟨rfl, _, ⟨seen', hla⟩, hst⟩)
 ·
  exact absurd hna (HNO.out _)
 clear HLN p0 p1 p2 p3 p4 x0 x1
 obtain ⟨W2, hW2⟩ : ∃ W2, W2 = w1.alloc (.cells #[.bool false, .slice none 0 0, .slice none 0 0, .slice none 0 0] 106) := ⟨_, rfl⟩
 have hb2 : Below w1.heap.size w1 W2 := by rw [hW2]; exact sbox1 _ _
 have hs2 : LStep sm w W2 := (HLS.out.trans hst).trans (hla.step hb2)
 obtain ⟨p0, p1, p2, p3, p4⟩ := HX.out W2 (hst.keeps.trans (Keeps.below hb2))
 have hbx : W2.heap[w1.heap.size]? = some (.cells #[.bool false, .slice none 0 0, .slice none 0 0, .slice none 0 0] 106 (0, 0)) := by rw [hW2]; exact heap_alloc_new _ _
 have n0 : W2.cell? ⟨w1.heap.size, 0, none⟩ = some (.bool false) := (jC hbx 0).trans rfl
 have n1 : W2.cell? ⟨w1.heap.size, 1, none⟩ = some (.slice none 0 0) := (jC hbx 1).trans rfl
 have n2 : W2.cell? ⟨w1.heap.size, 2, none⟩ = some (.slice none 0 0) := (jC hbx 2).trans rfl
 have n3 : W2.cell? ⟨w1.heap.size, 3, none⟩ = some (.slice none 0 0) := (jC hbx 3).trans rfl
 have HE := Hq (eachW_any (w := W2) (l := l) (by_ := by_) (bd := bd) (pc := pc) (K := K) ((jC (hs2.keeps.stay HY.out rfl) 0).trans rfl) (fun W3 hb3 => HR.out W3 seen' ((hla.below hb2).below hb3) (hs2.trans ((hla.below hb2).step hb3))))
 unfold Pc.v Nd.cell Nd.zero at HE
 clear hla hst hb2 hs2 hbx
 subst hW2
 dsimp only [Nd.cell, Nd.zero, List.length_nil]
 go_wp2_with fail
 refine HE.out.mono ?_
 rintro e w3 ⟨rfl, hK⟩
 clear p0 p1 p2 p3 p4 n0 n1 n2 n3
 go_wp2
 go_ret
 exact ⟨rfl, hK⟩
end
end Go.Proofs.YtbbgdbnjmonbgaaGreatDoor

