/-
  Open of both sides, as one; the law PageOpens: the walk.
-/
import Derived.Test.YthkgejkgnkpjdaaDoorPgOpenR
import Derived.Test.YthkgejkgnkpjdaaDoorLawPSeals
set_option linter.unusedVariables false
set_option maxRecDepth 100000
namespace Go.Proofs.YthkgejkgnkpjdaaDoor
open Go.RowKit

theorem open_any {w : World} (hT : Tab w) {p : Option Addr} {l : List UInt8} (hl : Bs w p l) {n c : Nat} (hn : n = l.length) (hnc : n ≤ c) (hc : c ≤ 9223372036854775807) (no : Int) :
    Calls Tryd.prog 12 #[.slice p n c, .int .i64 no] w (OpenPost w l no) := by
  by_cases h : n = 512
  · subst h
    obtain ⟨b, o, rfl, _, _⟩ := hl.at (by omega)
    by_cases hf : Fits l
    · exact open_fits hT hl hn hnc hc no hf
    · exact open_torn hT hl hn hnc no hf
  · exact open_long hn no h (by omega)
theorem openR_any {w : World} {p : Option Addr} {l : List UInt8} (hl : Bs w p l) {n c : Nat} (hn : n = l.length) (hnc : n ≤ c) (hc : c ≤ 9223372036854775807) (no : Int) (h1 : -9223372036854775808 ≤ no) (h2 : no ≤ 9223372036854775807) :
    Calls Tryd.prog 13 #[.slice p n c, .int .i64 no] w (OpenPost w l no) := by
  by_cases h : n = 512
  · subst h
    obtain ⟨b, o, rfl, _, _⟩ := hl.at (by omega)
    by_cases hf : Fits l
    · exact openR_fits hl hn hnc hc no h1 h2 hf
    · exact openR_torn hl hn hnc no hf
  · exact openR_long hn no h (by omega)

/-- What Open tells, written out. -/
def OpU (w : World) (K G E : Int) (m : Nat) (x : List UInt8) (e : Ending) (w' : World) : Prop := ∃ q c, e = .returned (.tuple #[.int .u8 K, .int .i64 G, .slice q m c, .int .i64 E]) ∧ Bs w' q x ∧ Below w.heap.size w w'
theorem OpenPost.u {l : List UInt8} {no : Int} : ∃ (K G E : Int) (m : Nat) (x : List UInt8), m = x.length ∧ ∀ w e w', OpenPost w l no e w' → OpU w K G E m x e w' := by
  by_cases h : openE l no = 0
  · obtain ⟨hl, _⟩ := openE_zero.1 h
    refine ⟨(l[0]'(by omega)).toNat, fGen l, 0, (fIn l).length, fIn l, rfl, fun w e w' hp => ?_⟩
    rcases hp with ⟨h1, _⟩ | ⟨_, u, v, hu, rfl, hv, hb⟩
    · exact absurd h h1
    · obtain ⟨q, c, rfl, _, _, h3, _⟩ := hv.form rfl
      obtain ⟨_, rfl⟩ := List.getElem?_eq_some_iff.1 hu
      exact ⟨q, c, rfl, h3, hb⟩
  · refine ⟨0, 0, openE l no, 0, [], rfl, fun w e w' hp => ?_⟩
    rcases hp with ⟨_, rfl, hb⟩ | ⟨h1, _⟩
    · exact ⟨none, 0, rfl, Bs.nil _ _, hb⟩
    · exact absurd h1 h

/-- Seal(1, 2, 3, nil). -/
theorem seal_one {w : World} (hT : Tab w) : Calls Tryd.prog 8 #[.int .u8 1, .int .i64 2, .int .i64 3, .slice none 0 0] w (LayPost w (pageB 1 2 3 [])) :=
  seal_ok hT 1 (no := 2) (gen := 3) (by omega) (by omega) (p := none) (l := []) (Bs.nil _ _) (n := 0) (c := 0) rfl (by omega) (by omega) (by omega)

/-- What a law asks of both, in later worlds. -/
theorem open_both {w : World} (hT : Tab w) {p : Option Addr} {l : List UInt8} (hl : Bs w p l) {n c : Nat} (hn : n = l.length) (hnc : n ≤ c) (hc : c ≤ 9223372036854775807) (no : Int) (h1 : -9223372036854775808 ≤ no) (h2 : no ≤ 9223372036854775807) :
    ∃ (K G E : Int) (m : Nat) (x : List UInt8), m = x.length ∧ (∀ w', Below w.heap.size w w' → Calls Tryd.prog 12 #[.slice p n c, .int .i64 no] w' (OpU w' K G E m x)) ∧
      (∀ w', Below w.heap.size w w' → Calls Tryd.prog 13 #[.slice p n c, .int .i64 no] w' (OpU w' K G E m x)) := by
  obtain ⟨K, G, E, m, x, hm, hu⟩ := OpenPost.u (l := l) (no := no)
  exact ⟨K, G, E, m, x, hm, fun w' hb => (open_any (hT.below hT.lt hb) (hl.below hb) hn hnc hc no).mono fun e w2 h => hu _ _ _ h, fun w' hb => (openR_any (hl.below hb) hn hnc hc no h1 h2).mono fun e w2 h => hu _ _ _ h⟩

theorem sum_bytes {s : Nat} (hs : s < 4294967296) : #[Value.int .u8 ((s : Int) % 256), .int .u8 ((s : Int) / 256 % 256), .int .u8 ((s : Int) / 65536 % 256), .int .u8 ((s : Int) / 16777216)] = (u8s (leB 4 s)).toArray := by
  simp only [leB, u8s, List.map_cons, List.map_nil, u8_ofNat, Nat.div_div_eq_div_mul]
  congr 5
  all_goals congr 1
  all_goals first | omega | (congr 1; omega)

set_option maxHeartbeats 6400000 in
theorem lawPOpens_any {w : World} (hT : Tab w) {p : Option Addr} {l : List UInt8} (hl : Bs w p l) {n c : Nat} (hn : n = l.length) (hnc : n ≤ c) (hc : c ≤ 9223372036854775807) (hp : p = none → c = 0) (no : Int) (h1 : -9223372036854775808 ≤ no) (h2 : no ≤ 9223372036854775807) (mend : Bool) :
    Calls Tryd.prog 4 #[.slice p n c, .int .i64 no, .bool mend] w fun e w' => e = .returned (.bool true) ∧ Below w.heap.size w w' := by
  have HT := Lib.hid hT
  by_cases h600 : 600 < n
  · have HOB := Lib.hid (open_both hT (hl.take 600) (n := 600) (by rw [List.length_take]; omega) (by omega) hc no h1 h2)
    clear hT hl hn
    cases mend
    · go_enter Tryd.func4, Tryd.ntmps4
      obtain ⟨K, G, E, m, x, hm, hO, hR⟩ := HOB.out
      have HM := Lib.hid hm
      have HO := Lib.hid hO
      have HR := Lib.hid hR
      clear hm hO hR HOB
      go_wp2_with fail
      with_reducible refine (HO.out w (Below.refl _ _)).mono ?_
      rintro e w1 ⟨q1, d1, rfl, h1, hb1⟩
      have HB1 := Lib.hid hb1
      have H1 := Lib.hid h1
      clear h1 hb1
      go_wp2_with fail
      with_reducible refine (HR.out w1 HB1.out).mono ?_
      rintro e w2 ⟨q2, d2, rfl, h2, hb2⟩
      have HB2 : Hid (Below w.heap.size w w2) := Lib.hid (HB1.out.trans (hb2.mono HB1.out.size))
      have H1' : Hid (Bs w2 q1 x) := Lib.hid (H1.out.below hb2)
      have H2 := Lib.hid h2
      clear h2 hb2 H1
      have HTW : Hid (Tab w2) := Lib.hid ((HT.out.below HT.out.lt (Below.refl w.heap.size w)).below (Nat.lt_of_lt_of_le HT.out.lt (Below.refl w.heap.size w).size) HB2.out)
      have HC := Lib.hid (seal_one HTW.out)
      go_wp2_with fail
      with_reducible refine HC.out.mono ?_
      rintro e w3 ⟨rfl, h3, hb3⟩
      have HB3 : Hid (Below w.heap.size w w3) := Lib.hid (HB2.out.trans (hb3.mono HB2.out.size))
      have s1 := str_of (H1'.out.below hb3) (c := d1) HM.out
      have s2 := str_of (H2.out.below hb3) (c := d2) HM.out
      clear h3 hb3 H1' H2 HC
      go_wp2
      go_ret
      exact ⟨rfl, (Below.refl w.heap.size w).trans (HB3.out.mono (Below.refl w.heap.size w).size)⟩
    · go_enter Tryd.func4, Tryd.ntmps4
      obtain ⟨K, G, E, m, x, hm, hO, hR⟩ := HOB.out
      have HM := Lib.hid hm
      have HO := Lib.hid hO
      have HR := Lib.hid hR
      clear hm hO hR HOB
      go_wp2_with fail
      with_reducible refine (HO.out w (Below.refl _ _)).mono ?_
      rintro e w1 ⟨q1, d1, rfl, h1, hb1⟩
      have HB1 := Lib.hid hb1
      have H1 := Lib.hid h1
      clear h1 hb1
      go_wp2_with fail
      with_reducible refine (HR.out w1 HB1.out).mono ?_
      rintro e w2 ⟨q2, d2, rfl, h2, hb2⟩
      have HB2 : Hid (Below w.heap.size w w2) := Lib.hid (HB1.out.trans (hb2.mono HB1.out.size))
      have H1' : Hid (Bs w2 q1 x) := Lib.hid (H1.out.below hb2)
      have H2 := Lib.hid h2
      clear h2 hb2 H1
      have HTW : Hid (Tab w2) := Lib.hid ((HT.out.below HT.out.lt (Below.refl w.heap.size w)).below (Nat.lt_of_lt_of_le HT.out.lt (Below.refl w.heap.size w).size) HB2.out)
      have HC := Lib.hid (seal_one HTW.out)
      go_wp2_with fail
      with_reducible refine HC.out.mono ?_
      rintro e w3 ⟨rfl, h3, hb3⟩
      have HB3 : Hid (Below w.heap.size w w3) := Lib.hid (HB2.out.trans (hb3.mono HB2.out.size))
      have s1 := str_of (H1'.out.below hb3) (c := d1) HM.out
      have s2 := str_of (H2.out.below hb3) (c := d2) HM.out
      clear h3 hb3 H1' H2 HC
      go_wp2
      go_ret
      exact ⟨rfl, (Below.refl w.heap.size w).trans (HB3.out.mono (Below.refl w.heap.size w).size)⟩
  by_cases h512 : n = 512
  · cases mend
    · have HOB := Lib.hid (open_both hT hl hn hnc hc no h1 h2)
      clear hT hl hn
      subst h512
      go_enter Tryd.func4, Tryd.ntmps4
      obtain ⟨K, G, E, m, x, hm, hO, hR⟩ := HOB.out
      have HM := Lib.hid hm
      have HO := Lib.hid hO
      have HR := Lib.hid hR
      clear hm hO hR HOB
      go_wp2_with fail
      with_reducible refine (HO.out w (Below.refl _ _)).mono ?_
      rintro e w1 ⟨q1, d1, rfl, h1, hb1⟩
      have HB1 := Lib.hid hb1
      have H1 := Lib.hid h1
      clear h1 hb1
      go_wp2_with fail
      with_reducible refine (HR.out w1 HB1.out).mono ?_
      rintro e w2 ⟨q2, d2, rfl, h2, hb2⟩
      have HB2 : Hid (Below w.heap.size w w2) := Lib.hid (HB1.out.trans (hb2.mono HB1.out.size))
      have H1' : Hid (Bs w2 q1 x) := Lib.hid (H1.out.below hb2)
      have H2 := Lib.hid h2
      clear h2 hb2 H1
      have HTW : Hid (Tab w2) := Lib.hid ((HT.out.below HT.out.lt (Below.refl w.heap.size w)).below (Nat.lt_of_lt_of_le HT.out.lt (Below.refl w.heap.size w).size) HB2.out)
      have HC := Lib.hid (seal_one HTW.out)
      go_wp2_with fail
      with_reducible refine HC.out.mono ?_
      rintro e w3 ⟨rfl, h3, hb3⟩
      have HB3 : Hid (Below w.heap.size w w3) := Lib.hid (HB2.out.trans (hb3.mono HB2.out.size))
      have s1 := str_of (H1'.out.below hb3) (c := d1) HM.out
      have s2 := str_of (H2.out.below hb3) (c := d2) HM.out
      clear h3 hb3 H1' H2 HC
      go_wp2
      go_ret
      exact ⟨rfl, (Below.refl w.heap.size w).trans (HB3.out.mono (Below.refl w.heap.size w).size)⟩
    · subst h512
      have HS : Hid (Calls Tryd.prog 11 #[.slice p 508 c] w fun e w' => e = .returned (.int .u32 (sumV (l.take 508) : Nat)) ∧ w = w') := Lib.hid (sumR_any (hl.take 508) (by rw [List.length_take]; omega) (by omega))
      have HL := Lib.hid (hl.take 508)
      have HP := Lib.hid hp
      have HL5 : Hid (508 = (l.take 508).length) := Lib.hid (by rw [List.length_take]; omega)
      have HE : Hid (Own (w.alloc (.cells #[] 5)) w.heap.size (.slice (.some ⟨w.heap.size, 0, none⟩) 0 0) []) := Lib.hid (Own.empty w _ (Nat.le_refl _))
      have hs := sumV_lt (l.take 508)
      have HSB := Lib.hid (sum_bytes hs)
      have HLL := Lib.hid (leB_length 4 (sumV (l.take 508)))
      clear hT hl hn hp
      generalize sumV (l.take 508) = s at *
      generalize l.take 508 = l5 at *
      go_enter Tryd.func4, Tryd.ntmps4
      go_wp2_with fail
      with_reducible refine HS.out.mono ?_
      rintro e w0 ⟨rfl, rfl⟩
      go_wp2_with (first
        | (at_builtin; refine app_own rfl (.tmp 32) (.tmp 34) rfl rfl HE.out HL5.out rfl (HL.out.alloc _) HP.out (by have := HL5.out; have e : ([] : List UInt8).length = 0 := rfl; omega) (pgbox1 w _).size ?_; intro v4 w4 ho4 hb4; rw [List.nil_append] at ho4; have HO4 := Lib.hid ho4; have HB4 : Hid (Below w.heap.size w w4) := Lib.hid ((pgbox1 w _).trans hb4); clear ho4 hb4)
        | (at_builtin; refine app_own rfl (.tmp 35) (.tmp 47) rfl rfl (HO4.out.alloc _) HLL.out.symm rfl (Bs.new _ _ _ _ rfl HSB.out) (fun h => by cases h) (by have := HL5.out; have := HLL.out; omega) (by have := HB4.out.size; simp; omega) ?_; intro v5 w5 ho5 hb5; have HO5 := Lib.hid ho5; have HB5 : Hid (Below w.heap.size w w5) := Lib.hid ((HB4.out.alloc HB4.out.size _).trans hb5); clear ho5 hb5))
      obtain ⟨n5, hn5⟩ : ∃ n5, n5 = (l5 ++ leB 4 s).length := ⟨_, rfl⟩
      have hn512 : n5 = 512 := by rw [hn5, List.length_append, ← HL5.out, HLL.out]
      obtain ⟨q5, c5, rfl, hq1, hq2, hq3, hq4⟩ := HO5.out.form hn5
      have HOB := Lib.hid (open_both (HT.out.below HT.out.lt HB5.out) hq3 hn5 hq1 hq2 no h1 h2)
      clear hn5 hq3 hq4 HO5 HO4 HB4
      subst hn512
      obtain ⟨K, G, E, m, x, hm, hO, hR⟩ := HOB.out
      have HM := Lib.hid hm
      have HO := Lib.hid hO
      have HR := Lib.hid hR
      clear hm hO hR HOB
      go_wp2_with fail
      with_reducible refine (HO.out w5 (Below.refl _ _)).mono ?_
      rintro e w1 ⟨q1, d1, rfl, h1, hb1⟩
      have HB1 := Lib.hid hb1
      have H1 := Lib.hid h1
      clear h1 hb1
      go_wp2_with fail
      with_reducible refine (HR.out w1 HB1.out).mono ?_
      rintro e w2 ⟨q2, d2, rfl, h2, hb2⟩
      have HB2 : Hid (Below w5.heap.size w5 w2) := Lib.hid (HB1.out.trans (hb2.mono HB1.out.size))
      have H1' : Hid (Bs w2 q1 x) := Lib.hid (H1.out.below hb2)
      have H2 := Lib.hid h2
      clear h2 hb2 H1
      have HTW : Hid (Tab w2) := Lib.hid ((HT.out.below HT.out.lt (HB5.out)).below (Nat.lt_of_lt_of_le HT.out.lt (HB5.out).size) HB2.out)
      have HC := Lib.hid (seal_one HTW.out)
      go_wp2_with fail
      with_reducible refine HC.out.mono ?_
      rintro e w3 ⟨rfl, h3, hb3⟩
      have HB3 : Hid (Below w5.heap.size w5 w3) := Lib.hid (HB2.out.trans (hb3.mono HB2.out.size))
      have s1 := str_of (H1'.out.below hb3) (c := d1) HM.out
      have s2 := str_of (H2.out.below hb3) (c := d2) HM.out
      clear h3 hb3 H1' H2 HC
      go_wp2
      go_ret
      exact ⟨rfl, (HB5.out).trans (HB3.out.mono (HB5.out).size)⟩
  · have HOB := Lib.hid (open_both hT hl hn hnc hc no h1 h2)
    clear hT hl hn
    have hb : ((n : Int) == 512) = false := by rw [beq_eq_false_iff_ne]; omega
    cases mend
    · go_enter Tryd.func4, Tryd.ntmps4
      obtain ⟨K, G, E, m, x, hm, hO, hR⟩ := HOB.out
      have HM := Lib.hid hm
      have HO := Lib.hid hO
      have HR := Lib.hid hR
      clear hm hO hR HOB
      go_wp2_with fail
      with_reducible refine (HO.out w (Below.refl _ _)).mono ?_
      rintro e w1 ⟨q1, d1, rfl, h1, hb1⟩
      have HB1 := Lib.hid hb1
      have H1 := Lib.hid h1
      clear h1 hb1
      go_wp2_with fail
      with_reducible refine (HR.out w1 HB1.out).mono ?_
      rintro e w2 ⟨q2, d2, rfl, h2, hb2⟩
      have HB2 : Hid (Below w.heap.size w w2) := Lib.hid (HB1.out.trans (hb2.mono HB1.out.size))
      have H1' : Hid (Bs w2 q1 x) := Lib.hid (H1.out.below hb2)
      have H2 := Lib.hid h2
      clear h2 hb2 H1
      have HTW : Hid (Tab w2) := Lib.hid ((HT.out.below HT.out.lt (Below.refl w.heap.size w)).below (Nat.lt_of_lt_of_le HT.out.lt (Below.refl w.heap.size w).size) HB2.out)
      have HC := Lib.hid (seal_one HTW.out)
      go_wp2_with fail
      with_reducible refine HC.out.mono ?_
      rintro e w3 ⟨rfl, h3, hb3⟩
      have HB3 : Hid (Below w.heap.size w w3) := Lib.hid (HB2.out.trans (hb3.mono HB2.out.size))
      have s1 := str_of (H1'.out.below hb3) (c := d1) HM.out
      have s2 := str_of (H2.out.below hb3) (c := d2) HM.out
      clear h3 hb3 H1' H2 HC
      go_wp2
      go_ret
      exact ⟨rfl, (Below.refl w.heap.size w).trans (HB3.out.mono (Below.refl w.heap.size w).size)⟩
    · go_enter Tryd.func4, Tryd.ntmps4
      obtain ⟨K, G, E, m, x, hm, hO, hR⟩ := HOB.out
      have HM := Lib.hid hm
      have HO := Lib.hid hO
      have HR := Lib.hid hR
      clear hm hO hR HOB
      go_wp2_with fail
      with_reducible refine (HO.out w (Below.refl _ _)).mono ?_
      rintro e w1 ⟨q1, d1, rfl, h1, hb1⟩
      have HB1 := Lib.hid hb1
      have H1 := Lib.hid h1
      clear h1 hb1
      go_wp2_with fail
      with_reducible refine (HR.out w1 HB1.out).mono ?_
      rintro e w2 ⟨q2, d2, rfl, h2, hb2⟩
      have HB2 : Hid (Below w.heap.size w w2) := Lib.hid (HB1.out.trans (hb2.mono HB1.out.size))
      have H1' : Hid (Bs w2 q1 x) := Lib.hid (H1.out.below hb2)
      have H2 := Lib.hid h2
      clear h2 hb2 H1
      have HTW : Hid (Tab w2) := Lib.hid ((HT.out.below HT.out.lt (Below.refl w.heap.size w)).below (Nat.lt_of_lt_of_le HT.out.lt (Below.refl w.heap.size w).size) HB2.out)
      have HC := Lib.hid (seal_one HTW.out)
      go_wp2_with fail
      with_reducible refine HC.out.mono ?_
      rintro e w3 ⟨rfl, h3, hb3⟩
      have HB3 : Hid (Below w.heap.size w w3) := Lib.hid (HB2.out.trans (hb3.mono HB2.out.size))
      have s1 := str_of (H1'.out.below hb3) (c := d1) HM.out
      have s2 := str_of (H2.out.below hb3) (c := d2) HM.out
      clear h3 hb3 H1' H2 HC
      go_wp2
      go_ret
      exact ⟨rfl, (Below.refl w.heap.size w).trans (HB3.out.mono (Below.refl w.heap.size w).size)⟩

end Go.Proofs.YthkgejkgnkpjdaaDoor
