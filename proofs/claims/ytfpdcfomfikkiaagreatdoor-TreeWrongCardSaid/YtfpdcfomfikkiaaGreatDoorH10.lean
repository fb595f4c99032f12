/-
  page.Open: contracts for the walks.
  page.Open and the reference's, of any bytes.
  meta.Seal: contracts for the walks.
  meta.Seal: contracts for the walks.
-/
import Derived.Test.YtfpdcfomfikkiaaGreatDoorH09
import Derived.Test.YtfpdcfomfikkiaaGreatDoorH08
set_option linter.unusedVariables false
set_option maxRecDepth 100000
namespace Go.Proofs.YtfpdcfomfikkiaaGreatDoor
open Go.RowKit

/-- A part of bytes that lie at an address. -/
theorem Bs.part {w : World} {b o : Nat} {l : List UInt8} (h : Bs w (some ⟨b, o, none⟩) l) (a n : Nat) : Bs w (some ⟨b, o + a, none⟩) ((l.drop a).take n) := by
  refine Bs.take ?_ n
  intro hne
  obtain ⟨b', o', hp, hc⟩ := h (by intro e; subst e; simp at hne)
  simp only [Option.some.injEq, Addr.mk.injEq, and_true] at hp
  obtain ⟨rfl, rfl⟩ := hp
  exact Bs.drop hc a hne

/-- What Open tells. -/
def OpenPost (w : World) (l : List UInt8) (no : Int) (e : Ending) (w' : World) : Prop :=
  (openE l no ≠ 0 ∧ e = .returned (.tuple #[.int .u8 0, .int .i64 0, .slice none 0 0, .int .i64 (openE l no : Nat)]) ∧ Below w.heap.size w w') ∨
  (openE l no = 0 ∧ ∃ u v, l[0]? = some u ∧ e = .returned (.tuple #[.int .u8 (u.toNat : Int), .int .i64 (fGen l : Nat), v, .int .i64 0]) ∧ Own w' w.heap.size v (fIn l) ∧ Below w.heap.size w w')

theorem get_is {w : World} {b o : Nat} {l : List UInt8} (h : Bs w (some ⟨b, o, none⟩) l) (a k : Nat) (hk : k ≤ 8) (hl : a + k ≤ l.length) : ∀ n c, Calls Tryz.prog 107 #[.slice (some ⟨b, o + a, none⟩) k c] (w.drewN n) fun e w' => e = .returned (.int .u64 (leV ((l.drop a).take k) : Nat)) ∧ w' = w.drewN n := fun n c =>
  (get_any ((h.part a k).drewN n) (sub_length hl).symm hk).mono fun e w' ⟨h1, h2⟩ => ⟨h1, h2.symm⟩
theorem sum_is {w : World} (hT : Tab w) {b o : Nat} {l : List UInt8} (h : Bs w (some ⟨b, o, none⟩) l) (k : Nat) (hk : k ≤ 1000000) (hl : k ≤ l.length) : ∀ n c, Calls Tryz.prog 84 #[.slice (some ⟨b, o, none⟩) k c] (w.drewN n) fun e w' => e = .returned (.int .u32 (sumV (l.take k) : Nat)) ∧ w' = w.drewN n := fun n c =>
  (sum_any (hT.below hT.lt (belowN (Below.refl w.heap.size w) n)) ((h.take k).drewN n) (by rw [List.length_take]; omega) (by omega)).mono fun e w' ⟨h1, h2⟩ => ⟨h1, h2.symm⟩

set_option maxHeartbeats 800000 in
theorem open_long {w : World} {p : Option Addr} {l : List UInt8} {n c : Nat} (hn : n = l.length) (no : Int) (h512 : n ≠ 512) (hn63 : n ≤ 9223372036854775807) :
    Calls Tryz.prog 86 #[.slice p n c, .int .i64 no] w (OpenPost w l no) := by
  have HE : Hid (openE l no = 11) := Lib.hid (by unfold openE; rw [if_pos (by omega)])
  have hb : ((n : Int) == 512) = false := by rw [beq_eq_false_iff_ne]; omega
  clear hn
  go_enter Tryz.func86, Tryz.ntmps86
  go_wp2
  exact bodyPost_ret (v := .tuple #[.int .u8 0, .int .i64 0, .slice none 0 0, .int .i64 11]) (by simp [results, Tryz.results86, go_sem]) rfl (.inl ⟨by rw [HE.out]; decide, by rw [HE.out]; rfl, Below.refl _ _⟩)

set_option maxHeartbeats 1600000 in
theorem open_torn {w : World} (hT : Tab w) {b o : Nat} {l : List UInt8} (hl : Bs w (some ⟨b, o, none⟩) l) {c : Nat} (hn : 512 = l.length) (hc : 512 ≤ c) (no : Int) (hf : ¬ Fits l) :
    Calls Tryz.prog 86 #[.slice (some ⟨b, o, none⟩) 512 c, .int .i64 no] w (OpenPost w l no) := by
  have hne : ¬ c = 508 := by omega
  have HE : Hid (openE l no = 12) := Lib.hid (by unfold openE; rw [if_neg (by omega), if_pos hf])
  have HG := Lib.hid (get_is hl 508 4 (by omega) (by omega))
  have HS := Lib.hid (sum_is hT hl 508 (by omega) (by omega))
  have hd : (l.drop 508).take 4 = l.drop 508 := List.take_of_length_le (by rw [List.length_drop]; omega)
  have hx := sumV_lt (l.take 508)
  have hb : (((leV ((l.drop 508).take 4) : Nat) : Int) == ((sumV (l.take 508) : Nat) : Int)) = false := by
    rw [beq_eq_false_iff_ne, hd]
    intro h
    exact hf (by unfold Fits; omega)
  clear hl hd hf hn
  generalize leV ((l.drop 508).take 4) = x at *
  generalize sumV (l.take 508) = y at *
  go_enter Tryz.func86, Tryz.ntmps86
  go_wp2_with fail
  go_quiet (first | (go_at_call 107; with_reducible exact Calls.quiet_of_same (HG.out _ _)) | (go_at_call 84; with_reducible exact Calls.quiet_of_same (HS.out _ _)))
  go_wp2
  exact bodyPost_ret (v := .tuple #[.int .u8 0, .int .i64 0, .slice none 0 0, .int .i64 12]) (by simp [results, Tryz.results86, go_sem]) rfl (.inl ⟨by rw [HE.out]; decide, by rw [HE.out]; rfl, belowN (Below.refl _ _) _⟩)

theorem wrap_g {g : Nat} (h : g < 18446744073709551616) : (g ≤ 1152921504606846976 → wrap64 (g : Int) = (g : Int)) ∧ (1152921504606846976 < g → wrap64 (g : Int) < 0 ∨ 1152921504606846976 < wrap64 (g : Int)) := by
  unfold wrap64
  constructor <;> intro h1 <;> omega

set_option maxHeartbeats 3200000 in
theorem open_fits {w : World} (hT : Tab w) {b o : Nat} {l : List UInt8} (hl : Bs w (some ⟨b, o, none⟩) l) {c : Nat} (hn : 512 = l.length) (hc : 512 ≤ c) (hc63 : c ≤ 9223372036854775807) (no : Int) (hf : Fits l) :
    Calls Tryz.prog 86 #[.slice (some ⟨b, o, none⟩) 512 c, .int .i64 no] w (OpenPost w l no) := by
  have hne : ¬ c = 508 := by omega
  have hne13 : ¬ c = 13 := by omega
  have hne5 : ¬ c = 5 := by omega
  have hne15 : ¬ c = 15 := by omega
  have hn' : l.length = 512 := hn.symm
  have HE : Hid (¬ Right l no → openE l no = 11) := Lib.hid fun h => by unfold openE; rw [if_neg (by omega), if_neg (by simpa using hf), if_neg h]
  have HE0 : Hid (Right l no → openE l no = 0) := Lib.hid fun h => openE_zero.2 ⟨hn', hf, h⟩
  have HG : Hid (∀ n c, Calls Tryz.prog 107 #[.slice (some ⟨b, o + 508, none⟩) 4 c] (w.drewN n) fun e w' => e = .returned (.int .u64 (sumV (l.take 508) : Nat)) ∧ w' = w.drewN n) := Lib.hid (by
    have h1 := get_is hl 508 4 (by omega) (by omega)
    have hd : (l.drop 508).take 4 = l.drop 508 := List.take_of_length_le (by rw [List.length_drop]; omega)
    rw [hd, show leV (l.drop 508) = sumV (l.take 508) from hf] at h1
    exact h1)
  have HS := Lib.hid (sum_is hT hl 508 (by omega) (by omega))
  have hx := sumV_lt (l.take 508)
  obtain ⟨u, hu⟩ : ∃ u, l[0]? = some u := ⟨l[0], List.getElem?_eq_getElem (by omega)⟩
  have HL := Lib.hid hl
  have HT := Lib.hid hT
  have HN := Lib.hid hn'
  have hsz := fLen_lt hn'
  have hgn := fGen_lt hn'
  clear hl hT hf hn
  generalize sumV (l.take 508) = x at *
  obtain ⟨sz, hsz0⟩ : ∃ sz, sz = fLen l := ⟨_, rfl⟩
  obtain ⟨g, hg0⟩ : ∃ g, g = fGen l := ⟨_, rfl⟩
  rw [← hsz0] at hsz
  rw [← hg0] at hgn
  have HSZ := Lib.hid hsz0
  have HGN := Lib.hid hg0
  have HU := Lib.hid hu
  clear hsz0 hg0 hu hn'
  go_enter Tryz.func86, Tryz.ntmps86
  go_wp2_with fail
  go_quiet (first | (go_at_call 107; with_reducible exact Calls.quiet_of_same (HG.out _ _)) | (go_at_call 84; with_reducible exact Calls.quiet_of_same (HS.out _ _)))
  obtain ⟨w1, hw1⟩ : ∃ w1, w1 = w.drewN nq := ⟨_, rfl⟩
  have HB1 : Hid (Below w.heap.size w w1) := Lib.hid (by rw [hw1]; exact belowN (Below.refl _ _) _)
  rw [← hw1]
  clear hw1
  have HL1 : Hid (Bs w1 (some ⟨b, o, none⟩) l) := Lib.hid (HL.out.below HB1.out)
  have HG2 : Hid (∀ c, Calls Tryz.prog 107 #[.slice (some ⟨b, o + 13, none⟩) 2 c] w1 fun e w' => e = .returned (.int .u64 (sz : Nat)) ∧ w1 = w') := Lib.hid (fun c => by rw [HSZ.out]; exact get_any (HL1.out.part 13 2) (sub_length (by rw [HN.out]; omega)).symm (by omega))
  have HG3 : Hid (∀ n c, Calls Tryz.prog 107 #[.slice (some ⟨b, o + 5, none⟩) 8 c] (w1.drewN n) fun e w' => e = .returned (.int .u64 (g : Nat)) ∧ w' = w1.drewN n) := Lib.hid (by rw [HGN.out]; exact get_is HL1.out 5 8 (by omega) (by rw [HN.out]; omega))
  have hcell : ∀ n, (w1.drewN n).cell? ⟨b, o, none⟩ = some (.int .u8 (u.toNat : Int)) := fun n => by
    have h1 := (HL1.out.drewN n).cell (i := 0) (by rw [HN.out]; omega)
    obtain ⟨h2, h3⟩ := List.getElem?_eq_some_iff.1 HU.out
    rw [h3] at h1
    exact h1
  clear HG HS
  go_wp2_with fail
  with_reducible refine (HG2.out _).mono ?_
  rintro e w2 ⟨rfl, rfl⟩
  by_cases h493 : sz ≤ 493
  · have k1 : (13 : Int) ≤ (c : Int) := by omega
    have k2 : 13 ≤ c := by omega
    have k3 : (15 : Int) + (sz : Int) ≤ (c : Int) := by omega
    have k4 : 15 + sz ≤ c := by omega
    have k5 : IntKind.u64.wrap (15 + (sz : Int)) = ((15 + sz : Nat) : Int) := by rw [IntKind.wrap_u64]; omega
    have k6 : ((15 + sz : Nat) : Int) ≤ (c : Int) := by omega
    go_wp2_with fail
    go_quiet (first | (go_at_call 107; with_reducible exact Calls.quiet_of_same (HG3.out _ _)))
    obtain ⟨w2, hw2⟩ : ∃ w2, w2 = w1.drewN nq := ⟨_, rfl⟩
    have HB2 : Hid (Below w.heap.size w w2) := Lib.hid (by rw [hw2]; exact belowN HB1.out _)
    rw [← hw2]
    have HL2 : Hid (Bs w2 (some ⟨b, o, none⟩) l) := Lib.hid (HL.out.below HB2.out)
    clear hw2 hcell HG2 HG3 HL1 HB1 hx
    rw [show 15 + sz - 15 = sz from by omega]
    obtain ⟨gi, hgi⟩ : ∃ gi, gi = wrap64 (g : Int) := ⟨_, rfl⟩
    rw [← hgi]
    have HI : Hid ((g ≤ 1152921504606846976 → gi = (g : Int)) ∧ (1152921504606846976 < g → gi < 0 ∨ 1152921504606846976 < gi)) := Lib.hid (by rw [hgi]; exact wrap_g hgn)
    clear hgi k1 k2 k3 k4 k5 k6
    by_cases hz : sealE no gi sz = 0
    · have h3 : 0 ≤ no ∧ no < 4096 ∧ 0 ≤ gi ∧ gi ≤ 1152921504606846976 := by
        unfold sealE at hz
        split at hz
        · cases hz
        · omega
      have hgg : g ≤ 1152921504606846976 := by have := HI.out; omega
      obtain rfl : gi = (g : Int) := HI.out.1 hgg
      obtain ⟨n, rfl⟩ := Int.eq_ofNat_of_zero_le h3.1
      have hn96 : n < 4096 := by omega
      have hfin : Bs w2 (some ⟨b, o + 15, none⟩) (fIn l) := by
        have := HL2.out.part 15 sz
        rw [HSZ.out] at this
        exact this
      have hfl : sz = (fIn l).length := by rw [HSZ.out]; exact (fIn_length HN.out (by rw [← HSZ.out]; exact h493)).symm
      have HC := Lib.hid (lay_ok (w := w2) u (no := n) (gen := g) hn96 hgg hfin (c := c - 15) hfl (by omega) (by omega) h493)
      clear h3 hz HI
      have hu0 : u = l[0]'(by rw [HN.out]; omega) := by
        obtain ⟨h2, h3⟩ := List.getElem?_eq_some_iff.1 HU.out
        exact h3.symm
      have HA : Hid (headB u n g (fIn l) = l.take 508 ↔ Right l (n : Int)) := Lib.hid (by
        rw [hu0, HGN.out, again_iff HN.out (by omega) (by rw [← HSZ.out]; exact h493)]
        unfold Right
        rw [← HGN.out, ← HSZ.out]
        constructor
        · rintro ⟨h1, h2⟩
          exact ⟨by omega, by omega, by omega, by omega, h493, h2⟩
        · rintro ⟨_, _, h1, _, _, h2⟩
          exact ⟨by omega, h2⟩)
      have hlt := layB_take (kind := u) (no := n) (gen := g) (l := fIn l) (by omega)
      have hll := layB_length (kind := u) (no := n) (gen := g) (l := fIn l) (by omega)
      have HFI := Lib.hid hfin
      have HFL := Lib.hid hfl
      have HLT := Lib.hid hlt
      have HLL := Lib.hid hll
      clear hfin hfl hu0 hlt hll
      generalize layB u n g (fIn l) = y at *
      generalize headB u n g (fIn l) = h at *
      go_wp2_with fail
      with_reducible refine HC.out.mono ?_
      rintro e w3 ⟨rfl, h3, hb3⟩
      have HB3 := Lib.hid hb3
      have H3 := Lib.hid h3
      have HL3 : Hid (Bs w3 (some ⟨b, o, none⟩) l) := Lib.hid (HL2.out.below HB3.out)
      have HF3 : Hid (Bs w3 (some ⟨b, o + 15, none⟩) (fIn l)) := Lib.hid (HFI.out.below HB3.out)
      clear h3 hb3 HC
      have HQ : Hid (∀ n c d, Calls Tryz.prog 106 #[.slice (some ⟨w2.heap.size, 0, none⟩) 508 c, .slice (some ⟨b, o, none⟩) 508 d] (w3.drewN n) fun e w' => e = .returned (.bool (decide (h = l.take 508))) ∧ w' = w3.drewN n) := Lib.hid fun n c d => by
        have h1 := (H3.out.part 0 508).drewN n
        rw [List.drop_zero, HLT.out] at h1
        have hh : 508 = h.length := by rw [← HLT.out, List.length_take, HLL.out]; rfl
        exact bequal_any h1 ((HL3.out.take 508).drewN n) hh (by rw [List.length_take, HN.out]; rfl)
      by_cases hR : Right l (n : Int)
      · have HE1 := Lib.hid (HE0.out hR)
        rw [decide_eq_true (HA.out.2 hR)] at HQ
        clear hR HE HE0
        go_wp2_with fail
        go_quiet (first | (go_at_call 106; with_reducible exact Calls.quiet_of_same (HQ.out _ _ _)))
        obtain ⟨w4, hw4⟩ : ∃ w4, w4 = w3.drewN nq := ⟨_, rfl⟩
        have HB4 : Hid (Below w.heap.size w w4) := Lib.hid (by rw [hw4]; exact belowN (HB2.out.trans (HB3.out.mono HB2.out.size)) _)
        have hf4 : Bs w4 (some ⟨b, o + 15, none⟩) (fIn l) := by rw [hw4]; exact HF3.out.drewN _
        rw [← hw4]
        clear hw4
        have HC := Lib.hid (pclone_any (w := w4) hf4 HFL.out (c := c - 15) (by omega))
        go_wp2_with fail
        with_reducible refine HC.out.mono ?_
        rintro e w5 ⟨v5, rfl, h5, hb5⟩
        have H5 : Hid (Own w5 w.heap.size v5 (fIn l)) := Lib.hid (h5.le HB4.out.size)
        have HB5 : Hid (Below w.heap.size w w5) := Lib.hid (HB4.out.trans (hb5.mono HB4.out.size))
        clear h5 hb5
        go_wp2
        exact bodyPost_ret (v := .tuple #[.int .u8 (u.toNat : Int), .int .i64 (g : Int), v5, .int .i64 0]) (by simp [results, Tryz.results86, go_sem]) rfl (.inr ⟨HE1.out, u, v5, HU.out, by rw [HGN.out], H5.out, HB5.out⟩)
      · have HE1 := Lib.hid (HE.out hR)
        rw [decide_eq_false (fun h1 => hR (HA.out.1 h1))] at HQ
        clear hR HE HE0
        go_wp2_with fail
        go_quiet (first | (go_at_call 106; with_reducible exact Calls.quiet_of_same (HQ.out _ _ _)))
        go_wp2
        exact bodyPost_ret (v := .tuple #[.int .u8 0, .int .i64 0, .slice none 0 0, .int .i64 11]) (by simp [results, Tryz.results86, go_sem]) rfl (.inl ⟨by rw [HE1.out]; decide, by rw [HE1.out]; rfl, belowN (HB2.out.trans (HB3.out.mono HB2.out.size)) _⟩)
    · have hz2 : 2 = sealE no gi sz := by
        unfold sealE at hz ⊢
        split
        · rfl
        · rename_i h1
          rw [if_neg h1, if_neg (by omega)] at hz
          exact absurd rfl hz
      have HE1 : Hid (openE l no = 11) := Lib.hid (HE.out fun h => by
        obtain ⟨r1, r2, r3, r4, _⟩ := h
        rw [← HGN.out] at r4
        have := HI.out.1 r4
        exact hz (by unfold sealE; rw [if_neg (by omega), if_neg (by omega)]))
      have HC := Lib.hid (lay_bad (w := w2) (u.toNat : Int) (p := some ⟨b, o + 15, none⟩) (c := c - 15) hz2 (by decide) (by omega))
      clear hz hz2 HI HE HE0
      go_wp2_with fail
      with_reducible refine HC.out.mono ?_
      rintro e w3 ⟨rfl, rfl⟩
      go_wp2_with fail
      go_quiet (fail)
      go_wp2
      exact bodyPost_ret (v := .tuple #[.int .u8 0, .int .i64 0, .slice none 0 0, .int .i64 11]) (by simp [results, Tryz.results86, go_sem]) rfl (.inl ⟨by rw [HE1.out]; decide, by rw [HE1.out]; rfl, belowN HB2.out _⟩)
  · have HE1 : Hid (openE l no = 11) := Lib.hid (HE.out fun h => h493 (by rw [HSZ.out]; exact h.2.2.2.2.1))
    go_wp2
    exact bodyPost_ret (v := .tuple #[.int .u8 0, .int .i64 0, .slice none 0 0, .int .i64 11]) (by simp [results, Tryz.results86, go_sem]) rfl (.inl ⟨by rw [HE1.out]; decide, by rw [HE1.out]; rfl, HB1.out⟩)

end Go.Proofs.YtfpdcfomfikkiaaGreatDoor

set_option linter.unusedVariables false
set_option maxRecDepth 100000
namespace Go.Proofs.YtfpdcfomfikkiaaGreatDoor
open Go.RowKit

theorem pOpen_any {w : World} (hT : Tab w) {p : Option Addr} {l : List UInt8} (hl : Bs w p l) {n c : Nat} (hn : n = l.length) (hnc : n ≤ c) (hc : c ≤ 9223372036854775807) (no : Int) :
    Calls Tryz.prog 86 #[.slice p n c, .int .i64 no] w (OpenPost w l no) := by
  by_cases h : n = 512
  · subst h
    obtain ⟨b, o, rfl, _, _⟩ := hl.at (by omega)
    by_cases hf : Fits l
    · exact open_fits hT hl hn hnc hc no hf
    · exact open_torn hT hl hn hnc no hf
  · exact open_long hn no h (by omega)
end Go.Proofs.YtfpdcfomfikkiaaGreatDoor

set_option linter.unusedVariables false
set_option maxRecDepth 100000
namespace Go.Proofs.YtfpdcfomfikkiaaGreatDoor
open Go.RowKit

theorem isNext_any {w : World} (n : Int) (b : Bool) (hb : b = decide (MNext n)) :
    Calls Tryz.prog 133 #[.int .i64 n] w fun e w' => e = .returned (.bool b) ∧ w = w' := by
  by_cases h1 : 1 ≤ n
  · by_cases h2 : n ≤ 1152921504606846976
    · obtain rfl : b = true := by rw [hb]; exact decide_eq_true ⟨h1, h2⟩
      clear hb
      go_enter Tryz.func133, Tryz.ntmps133
      go_wp2
      go_ret
      exact ⟨rfl, rfl⟩
    · obtain rfl : b = false := by rw [hb]; exact decide_eq_false (fun h => h2 h.2)
      clear hb
      go_enter Tryz.func133, Tryz.ntmps133
      go_wp2
      go_ret
      exact ⟨rfl, rfl⟩
  · obtain rfl : b = false := by rw [hb]; exact decide_eq_false (fun h => h1 h.1)
    clear hb
    go_enter Tryz.func133, Tryz.ntmps133
    go_wp2
    go_ret
    exact ⟨rfl, rfl⟩

theorem isRoot_any {w : World} (n : Int) (b : Bool) (hb : b = decide (MRoot n)) :
    Calls Tryz.prog 134 #[.int .i64 n] w fun e w' => e = .returned (.bool b) ∧ w = w' := by
  by_cases h0 : n = 0
  · subst h0
    obtain rfl : b = true := by rw [hb]; decide
    clear hb
    go_enter Tryz.func134, Tryz.ntmps134
    go_wp2
    go_ret
    exact ⟨rfl, rfl⟩
  have hn0 : (n == 0) = false := by rw [beq_eq_false_iff_ne]; exact h0
  by_cases h1 : 2 ≤ n
  · by_cases h2 : n < 4096
    · obtain rfl : b = true := by rw [hb]; exact decide_eq_true (.inr ⟨h1, h2⟩)
      clear hb
      go_enter Tryz.func134, Tryz.ntmps134
      go_wp2
      go_ret
      exact ⟨rfl, rfl⟩
    · obtain rfl : b = false := by rw [hb]; exact decide_eq_false (fun h => by rcases h with h | h; exact h0 h; exact h2 h.2)
      clear hb
      go_enter Tryz.func134, Tryz.ntmps134
      go_wp2
      go_ret
      exact ⟨rfl, rfl⟩
  · obtain rfl : b = false := by rw [hb]; exact decide_eq_false (fun h => by rcases h with h | h; exact h0 h; exact h1 h.1)
    clear hb
    go_enter Tryz.func134, Tryz.ntmps134
    go_wp2
    go_ret
    exact ⟨rfl, rfl⟩

/-- Names: tests are Bools that are not opened. -/
def bNext (n : Int) : Bool := decide (MNext n)
def bRoot (n : Int) : Bool := decide (MRoot n)

set_option maxHeartbeats 800000 in
theorem right_any {w : World} (g r n d : Int) (b : Bool) (hb : b = decide (MRight g r n d)) :
    Calls Tryz.prog 103 #[.agg #[.int .i64 g, .int .i64 r, .int .i64 n, .int .i64 d]] w fun e w' => e = .returned (.bool b) ∧ Below w.heap.size w w' := by
  have HG := Lib.hid fun w : World => isNext_any (w := w) g (decide (MNext g)) rfl
  have HR := Lib.hid fun w : World => isRoot_any (w := w) r (decide (MRoot r)) rfl
  have HN := Lib.hid fun w : World => isNext_any (w := w) n (decide (MNext n)) rfl
  have HD := Lib.hid fun w : World => isNext_any (w := w) d (decide (MNext d)) rfl
  have e : decide (MRight g r n d) = (decide (MNext g) && (decide (MRoot r) && (decide (MNext n) && decide (MNext d)))) := by
    rw [Bool.eq_iff_iff]
    simp only [decide_eq_true_eq, Bool.and_eq_true]
    exact Iff.rfl
  rw [e] at hb
  clear e
  generalize decide (MNext g) = bg at *
  generalize decide (MRoot r) = br at *
  generalize decide (MNext n) = bn at *
  generalize decide (MNext d) = bd at *
  have hz : Hid (Below w.heap.size w (w.alloc (.cells #[.int .i64 g, .int .i64 r, .int .i64 n, .int .i64 d] 57))) := Lib.hid ((Below.refl _ _).alloc (Nat.le_refl _) _)
  cases bg
  · obtain rfl : b = false := hb
    go_enter Tryz.func103, Tryz.ntmps103
    go_wp2_with fail
    with_reducible refine (HG.out _).mono ?_
    rintro e w1 ⟨rfl, rfl⟩
    go_wp2
    go_ret
    exact ⟨rfl, hz.out⟩
  cases br
  · obtain rfl : b = false := hb
    go_enter Tryz.func103, Tryz.ntmps103
    go_wp2_with fail
    with_reducible refine (HG.out _).mono ?_
    rintro e w1 ⟨rfl, rfl⟩
    go_wp2_with fail
    with_reducible refine (HR.out _).mono ?_
    rintro e w1 ⟨rfl, rfl⟩
    go_wp2
    go_ret
    exact ⟨rfl, hz.out⟩
  cases bn
  · obtain rfl : b = false := hb
    go_enter Tryz.func103, Tryz.ntmps103
    go_wp2_with fail
    with_reducible refine (HG.out _).mono ?_
    rintro e w1 ⟨rfl, rfl⟩
    go_wp2_with fail
    with_reducible refine (HR.out _).mono ?_
    rintro e w1 ⟨rfl, rfl⟩
    go_wp2_with fail
    with_reducible refine (HN.out _).mono ?_
    rintro e w1 ⟨rfl, rfl⟩
    go_wp2
    go_ret
    exact ⟨rfl, hz.out⟩
  · obtain rfl : b = bd := hb
    go_enter Tryz.func103, Tryz.ntmps103
    go_wp2_with fail
    with_reducible refine (HG.out _).mono ?_
    rintro e w1 ⟨rfl, rfl⟩
    go_wp2_with fail
    with_reducible refine (HR.out _).mono ?_
    rintro e w1 ⟨rfl, rfl⟩
    go_wp2_with fail
    with_reducible refine (HN.out _).mono ?_
    rintro e w1 ⟨rfl, rfl⟩
    go_wp2_with fail
    with_reducible refine (HD.out _).mono ?_
    rintro e w1 ⟨rfl, rfl⟩
    go_wp2
    go_ret
    exact ⟨rfl, hz.out⟩

/-- make([]byte, 0, 32) -/
theorem make_cap32 {w : World} {ops : Array Oper} {rest : List Oper} {o : Oper} {a : Act} {Q : Exit → Act → World → Prop} (hg : o.guard = none) (l c : Operand) (hop : o.op = Op.makeSlice 22 l c)
    (hl : a.eval l = .int .i64 0) (hc : a.eval c = .int .i64 32)
    (hK : ∀ w', Own w' w.heap.size (.slice (some ⟨w.heap.size, 0, none⟩) 0 32) [] → Below w.heap.size w w' → wpList Tryz.prog ops Q rest (a.put o.dst (.slice (some ⟨w.heap.size, 0, none⟩) 0 32)) w') :
    wpList Tryz.prog ops Q (o :: rest) a w := by
  obtain ⟨i, hi, hz0, hz1, hz2⟩ := info_parts info_u8
  refine wpList_make_own w hg l c _ hop w.heap.size 5 i (.int .u8 0) 1 Tryz.underlying22 hi hz0 hz1 .i64 .i64 32 32 hl hc rfl (by rw [hz2]; decide) (by decide) (Nat.le_refl _) ?_
  intro w' h1 h2
  exact hK w' h1 ((Below.refl _ _).grown h2 (Nat.le_refl _) (fun k hk => by cases hk))

/-- Ints that lie at the head of a block. -/
def Is (w : World) (g : Nat) (xs : List Nat) : Prop := ∀ i (h : i < xs.length), w.cell? ⟨g, i, none⟩ = some (.int .i64 (xs[i] : Nat))
theorem Is.below {w w' : World} {g : Nat} {xs : List Nat} (h : Is w g xs) (hb : Below w.heap.size w w') : Is w' g xs := fun i hi => by
  have h1 := h i hi
  rw [hb.cell (World.block_lt_of_cell? _ _ h1)]
  exact h1

def flatB : List Nat → List UInt8
  | [] => []
  | x :: xs => leB 8 x ++ flatB xs
theorem flatB_append (xs ys : List Nat) : flatB (xs ++ ys) = flatB xs ++ flatB ys := by
  induction xs with
  | nil => rfl
  | cons x xs ih => rw [List.cons_append, flatB, ih, flatB, List.append_assoc]
theorem flatB_length (xs : List Nat) : (flatB xs).length = 8 * xs.length := by
  induction xs with
  | nil => rfl
  | cons x xs ih => rw [flatB, List.length_append, leB_length, ih, List.length_cons]; omega
theorem flatB_snoc {xs : List Nat} {j : Nat} (h : j < xs.length) : flatB (xs.take (j + 1)) = flatB (xs.take j) ++ leB 8 xs[j] := by
  rw [List.take_add_one, List.getElem?_eq_getElem h, flatB_append]
  simp [flatB]

def PutPostM (w : World) (l : List UInt8) (e : Ending) (w' : World) : Prop := ∃ v, e = .returned v ∧ Own w' w.heap.size v l ∧ Below w.heap.size w w'

set_option maxHeartbeats 1600000 in
theorem mput_any {w : World} {g : Nat} {xs : List Nat} (hx : Is w g xs) (h4 : xs.length = 4) (hb : ∀ x ∈ xs, x < 9223372036854775808) :
    Calls Tryz.prog 104 #[.slice (some ⟨g, 0, none⟩) 4 4] w (PutPostM w (flatB xs)) := by
  have HX := Lib.hid hx
  have HN := Lib.hid h4
  have HB := Lib.hid hb
  clear hx h4 hb
  go_enter Tryz.func104, Tryz.ntmps104
  go_wp2_with (refine make_cap32 rfl _ _ rfl rfl rfl ?_; intro w1 h1 hb1; have H1 := Lib.hid h1; have HB1 := Lib.hid hb1; clear h1 hb1)
  go_loopw [3, 5, 6, 13, 17] (fun v _ _ i _ wr => ∃ j : Nat, i = .int .i64 j ∧ j ≤ 4 ∧ Own wr w.heap.size v (flatB (xs.take j)) ∧ Below w.heap.size w wr) (fun _ _ _ i _ _ => 4 - (intOf i).toNat)
  case atStart => exact ⟨0, rfl, by omega, H1.out, HB1.out⟩
  case round =>
    obtain ⟨j, rfl, hj, hown, hb⟩ := hrel
    obtain ⟨w2, hw2⟩ : ∃ w2, w2 = wr := ⟨_, rfl⟩
    subst hw2
    have HO := Lib.hid hown
    have HW := Lib.hid hb
    clear hown hb
    by_cases hjk : j < 4
    · have hdj : decide ((j : Int) < 4) = true := decide_eq_true (by omega)
      have hjl : j < xs.length := by have := HN.out; omega
      have HS := Lib.hid (flatB_snoc hjl)
      have hcell := (HX.out.below HW.out) j hjl
      have HXB : Hid (xs[j] < 9223372036854775808) := Lib.hid (HB.out _ (List.getElem_mem hjl))
      have HL : Hid ((flatB (xs.take j)).length ≤ 32) := Lib.hid (by rw [flatB_length, List.length_take]; omega)
      generalize xs[j] = x at *
      generalize flatB (xs.take j) = l at *
      go_wp2
      go_loopw [3, 6, 17] (fun v _ i wr => ∃ k : Nat, i = .int .i64 k ∧ k ≤ 8 ∧ Own wr w.heap.size v (l ++ leB k x) ∧ Below w.heap.size w wr) (fun _ _ i _ => 8 - (intOf i).toNat)
      case atStart => exact ⟨0, rfl, by omega, by rw [leB, List.append_nil]; exact HO.out, HW.out⟩
      case round =>
        obtain ⟨k, rfl, hk, hown, hb⟩ := hrel
        have HO2 := Lib.hid hown
        have HW2 := Lib.hid hb
        clear hown hb
        by_cases hk8 : k < 8
        · have HS2 := Lib.hid (leB_snoc k x)
          have HBY : Hid ((x : Int) / 2 ^ (8 * k) % 256 = ((UInt8.ofNat (x / 256 ^ k)).toNat : Int)) := Lib.hid (by
            have h1 : (x : Int) / 2 ^ (8 * k) = ((x / 256 ^ k : Nat) : Int) := by rw [pow8, Int.natCast_ediv, Int.natCast_pow]; rfl
            rw [h1, u8_ofNat]
            omega)
          have HLE : Hid ((l ++ leB k x).length ≤ 100) := Lib.hid (by rw [List.length_append, leB_length]; have := HL.out; omega)
          go_wp2_with (at_builtin; refine app_own rfl (.tmp 20) (.tmp 26) rfl rfl (HO2.out.alloc _) (m := [UInt8.ofNat (x / 256 ^ k)]) rfl rfl (Bs.one _ _ _ rfl HBY.out) (fun h => by cases h) (by have := HLE.out; simp at this ⊢; omega) (by have := HW2.out.size; simp; omega) ?_; intro v3 w3 ho3 hb3; have HO3 := Lib.hid ho3; have HB3 := Lib.hid ((HW2.out.alloc HW2.out.size _).trans hb3); clear ho3 hb3)
          go_roundw
          case rel => exact ⟨k + 1, by go_num, by omega, by rw [HS2.out, ← List.append_assoc]; exact HO3.out, HB3.out⟩
          case measure => simp [intOf]; omega
        · have HJ : Hid (l ++ leB k x = flatB (xs.take (j + 1))) := Lib.hid (by rw [show k = 8 from by omega, HS.out])
          go_wp2
          go_roundw
          case rel => exact ⟨j + 1, by go_num, by omega, by rw [← HJ.out]; exact HO2.out, HW2.out⟩
          case measure => simp [intOf]; omega
    · have HJ : Hid (flatB (xs.take j) = flatB xs) := Lib.hid (by rw [List.take_of_length_le (by have := HN.out; omega)])
      go_wp2
      go_ret
      exact ⟨_, rfl, by rw [← HJ.out]; exact HO.out, HW.out⟩

end Go.Proofs.YtfpdcfomfikkiaaGreatDoor

set_option linter.unusedVariables false
set_option maxRecDepth 100000
namespace Go.Proofs.YtfpdcfomfikkiaaGreatDoor
open Go.RowKit

def MSealPost (w : World) (l : List UInt8) (no : Nat) (e : Ending) (w' : World) : Prop := ∃ v, e = .returned (.tuple #[v, .int .i64 (no : Int), .int .i64 0]) ∧ Own w' w.heap.size v l ∧ Below w.heap.size w w'
def MSealBad (w : World) (e : Ending) (w' : World) : Prop := e = .returned (.tuple #[.slice none 0 0, .int .i64 0, .int .i64 2]) ∧ Below w.heap.size w w'

set_option maxHeartbeats 800000 in
theorem mseal_bad {w : World} (g r n d : Int) (h : ¬ MRight g r n d) :
    Calls Tryz.prog 75 #[.agg #[.int .i64 g, .int .i64 r, .int .i64 n, .int .i64 d]] w (MSealBad w) := by
  have HC := Lib.hid fun w : World => right_any (w := w) g r n d false (decide_eq_false h).symm
  clear h
  have hz : Hid (Below w.heap.size w (w.alloc (.cells #[.int .i64 g, .int .i64 r, .int .i64 n, .int .i64 d] 57))) := Lib.hid ((Below.refl _ _).alloc (Nat.le_refl _) _)
  go_enter Tryz.func75, Tryz.ntmps75
  go_wp2_with fail
  with_reducible refine (HC.out _).mono ?_
  rintro e w1 ⟨rfl, hb⟩
  have HB := Lib.hid (hz.out.trans (hb.mono (by simp)))
  clear hb
  go_wp2
  exact bodyPost_ret (v := .tuple #[.slice none 0 0, .int .i64 0, .int .i64 2]) (by simp [results, Tryz.results75, go_sem]) rfl ⟨rfl, HB.out⟩

theorem Is.new (w : World) (t : TypeId) (a b c d : Nat) {g : Nat} (hg : g = w.heap.size) : Is (w.alloc (.cells #[.int .i64 a, .int .i64 b, .int .i64 c, .int .i64 d] t)) g [a, b, c, d] := by
  subst hg
  intro i hi
  rw [Joins.cell_of_block (heap_alloc_new w _)]
  rcases i with _ | _ | _ | _ | i
  · rfl
  · rfl
  · rfl
  · rfl
  · simp at hi; omega

set_option maxHeartbeats 3200000 in
theorem mseal_ok {w : World} (hT : Tab w) {g r n d : Nat} (h : MRight g r n d) :
    Calls Tryz.prog 75 #[.agg #[.int .i64 g, .int .i64 r, .int .i64 n, .int .i64 d]] w (MSealPost w (mPage g r n d) (g % 2)) := by
  have HC := Lib.hid fun w : World => right_any (w := w) g r n d true (decide_eq_true h).symm
  have hb := h.b
  have HF : Hid (flatB [r, n, d, g] = metaB g r n d) := Lib.hid (by simp [flatB, metaB])
  have HL : Hid (32 = (metaB g r n d).length) := Lib.hid (metaB_length g r n d).symm
  have HPG : Hid (pageB 1 (g % 2) g (metaB g r n d) = mPage g r n d) := Lib.hid rfl
  have HPL : Hid ((mPage g r n d).length = 512) := Lib.hid (mPage_length g r n d)
  obtain ⟨m, hm⟩ : ∃ m, m = g % 2 := ⟨_, rfl⟩
  have hmi : (g : Int) % 2 = (m : Int) := by omega
  have HM : Hid (m < 4096) := Lib.hid (by omega)
  have HG : Hid (g ≤ 1152921504606846976) := Lib.hid (by omega)
  have HXS : Hid (∀ x ∈ [r, n, d, g], x < 9223372036854775808) := Lib.hid (by
    intro x hx
    simp only [List.mem_cons, List.not_mem_nil, or_false] at hx
    omega)
  rw [← hm] at HPG ⊢
  clear h hm hb
  generalize mPage g r n d = z at *
  generalize metaB g r n d = y at *
  obtain ⟨W0, hW0⟩ : ∃ W0, W0 = w.alloc (.cells #[.int .i64 g, .int .i64 r, .int .i64 n, .int .i64 d] 57) := ⟨_, rfl⟩
  have HZ : Hid (Below w.heap.size w W0) := Lib.hid (by rw [hW0]; exact (Below.refl _ _).alloc (Nat.le_refl _) _)
  have HK : Hid (∀ w', Below W0.heap.size W0 w' → w'.cell? ⟨w.heap.size, 0, none⟩ = some (.int .i64 (g : Int)) ∧ w'.cell? ⟨w.heap.size, 1, none⟩ = some (.int .i64 (r : Int)) ∧ w'.cell? ⟨w.heap.size, 2, none⟩ = some (.int .i64 (n : Int)) ∧ w'.cell? ⟨w.heap.size, 3, none⟩ = some (.int .i64 (d : Int))) := Lib.hid fun w' hb => by
    have h1 : w'.heap[w.heap.size]? = some (.cells #[.int .i64 g, .int .i64 r, .int .i64 n, .int .i64 d] 57 (0, 0)) := by
      rw [hb.block w.heap.size (by rw [hW0]; simp), hW0]
      exact heap_alloc_new w _
    exact ⟨Joins.cell_of_block h1 0, Joins.cell_of_block h1 1, Joins.cell_of_block h1 2, Joins.cell_of_block h1 3⟩
  have HT : Hid (Tab W0) := Lib.hid (hT.below hT.lt HZ.out)
  clear hT
  go_enter Tryz.func75, Tryz.ntmps75
  go_wp2_with fail
  rw [← hW0]
  clear hW0
  with_reducible refine (HC.out _).mono ?_
  rintro e w1 ⟨rfl, hb1⟩
  have HB1 := Lib.hid hb1
  have HT1 : Hid (∀ w', Below w1.heap.size w1 w' → Tab w') := Lib.hid fun w' hb => by
    have h1 := HT.out.below HT.out.lt HB1.out
    exact h1.below h1.lt hb
  have HK1 : Hid (∀ w', Below w1.heap.size w1 w' → w'.cell? ⟨w.heap.size, 0, none⟩ = some (.int .i64 (g : Int)) ∧ w'.cell? ⟨w.heap.size, 1, none⟩ = some (.int .i64 (r : Int)) ∧ w'.cell? ⟨w.heap.size, 2, none⟩ = some (.int .i64 (n : Int)) ∧ w'.cell? ⟨w.heap.size, 3, none⟩ = some (.int .i64 (d : Int))) := Lib.hid fun w' hb => HK.out w' (HB1.out.trans (hb.mono HB1.out.size))
  have HZ1 : Hid (Below w.heap.size w w1) := Lib.hid (HZ.out.trans (HB1.out.mono HZ.out.size))
  obtain ⟨k0, k1, k2, k3⟩ := HK1.out w1 (Below.refl _ _)
  have HP : Hid (Calls Tryz.prog 104 #[.slice (some ⟨w1.heap.size, 0, none⟩) 4 4] (w1.alloc (.cells #[.int .i64 r, .int .i64 n, .int .i64 d, .int .i64 g] 3)).drew (PutPostM (w1.alloc (.cells #[.int .i64 r, .int .i64 n, .int .i64 d, .int .i64 g] 3)).drew y)) := Lib.hid (by
    have h1 := mput_any ((Is.new w1 3 r n d g rfl).below (Below.refl _ _).drew) rfl HXS.out
    rw [HF.out] at h1
    exact h1)
  have HS : Hid (∀ w' p c, Below w1.heap.size w1 w' → Bs w' p y → 32 ≤ c → c ≤ 9223372036854775807 → Calls Tryz.prog 51 #[.int .u8 1, .int .i64 (m : Int), .int .i64 (g : Int), .slice p 32 c] w' (LayPost w' z)) := Lib.hid fun w' p c hb hp h32 hc => by
    have h1 := seal_ok (HT1.out w' hb) 1 (no := m) (gen := g) HM.out HG.out hp HL.out h32 hc (by omega)
    rw [HPG.out] at h1
    exact h1
  clear hb1 HC HK HB1 HT HZ
  go_wp2_with fail
  clear k0 k1 k2 k3
  go_region_held3 (fun w' => w'.cell? ⟨w.heap.size, 0, none⟩ = some (.int .i64 (g : Int)) ∧ w'.cell? ⟨w.heap.size, 1, none⟩ = some (.int .i64 (r : Int)) ∧ w'.cell? ⟨w.heap.size, 2, none⟩ = some (.int .i64 (n : Int)) ∧ w'.cell? ⟨w.heap.size, 3, none⟩ = some (.int .i64 (d : Int)))
    (first | exact HK1.out _ (Below.refl _ _).drew | exact HK1.out _ (Below.refl _ _).drew | exact HK1.out _ ((Below.refl _ _).alloc (Nat.le_refl _) _).drew | exact HK1.out _ HB2.out | exact HK1.out _ HB3.out)
    (first
      | (go_at_call 104; (with_reducible refine HP.out.mono ?_); rintro e w2 ⟨v2, rfl, h2, hb2⟩; obtain ⟨p2, c2, rfl, j1, j2, j3, j4⟩ := h2.form HL.out; have HB2 : Hid (Below w1.heap.size w1 w2) := Lib.hid (((Below.refl w1.heap.size w1).alloc (Nat.le_refl _) _).drew.trans (hb2.mono (by simp))); have H2 := Lib.hid j3; have J1 := Lib.hid j1; have J2 := Lib.hid j2; clear h2 hb2 j1 j2 j3 j4)
      | (go_at_call 51; (with_reducible refine (HS.out _ _ _ HB2.out H2.out J1.out J2.out).mono ?_); rintro e w3 ⟨rfl, h3, hb3⟩; have HB3 : Hid (Below w1.heap.size w1 w3) := Lib.hid (HB2.out.trans (hb3.mono HB2.out.size)); have H3 := Lib.hid h3; clear h3 hb3))
  go_wp2
  refine bodyPost_ret (v := .tuple #[.slice (some ⟨w2.heap.size, 0, none⟩) 512 512, .int .i64 (m : Int), .int .i64 0]) (by simp [results, Tryz.results75, go_sem]) rfl ⟨_, rfl, ?_, HZ1.out.trans (HB3.out.mono HZ1.out.size)⟩
  exact H3.out.own (by have h1 := HB2.out.size; have h2 := HZ1.out.size; omega) HPL.out.symm (by rw [HPL.out]; omega)

end Go.Proofs.YtfpdcfomfikkiaaGreatDoor

