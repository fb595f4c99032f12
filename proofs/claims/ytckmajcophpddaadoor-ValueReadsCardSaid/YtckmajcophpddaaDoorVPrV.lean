/-
  Print, of both sides: contracts for the walks.
-/
import Derived.Test.YtckmajcophpddaaDoorVPrA
import Derived.Test.YtckmajcophpddaaDoorVValid
import Derived.Deep.OwnRows
set_option linter.unusedVariables false
set_option maxRecDepth 100000
namespace Go.Proofs.YtckmajcophpddaaDoor
open Go.RowKit

def prAt (a : At) : List UInt8 := prA a.k a.n a.f a.s
def prL (l : List At) : List UInt8 := Lib.join (l.map prAt) [44, 32]
def prV (a : At) (l : List At) : List UInt8 := if validV a l = true then (if a.k = 6 then [91] ++ prL l ++ [93] else prAt a) else []

theorem join_snoc (xs : List (List UInt8)) (y sep : List UInt8) : Lib.join (xs ++ [y]) sep = Lib.join xs sep ++ (if xs = [] then [] else sep) ++ y := by
  rcases xs with _ | ⟨x, r⟩
  · simp [Lib.join_one, Lib.join_nil]
  · rw [List.cons_append, Lib.join_cons, Lib.join_cons]
    simp [Lib.joinTail, List.append_assoc]
theorem join_len (sep : List UInt8) (M : Nat) : ∀ xs : List (List UInt8), (∀ x ∈ xs, x.length ≤ M) → (Lib.join xs sep).length ≤ xs.length * (M + sep.length)
  | [], _ => by simp [Lib.join_nil]
  | x :: r, h => by
    have hx := h x (by simp)
    have hr : ∀ r : List (List UInt8), (∀ x ∈ r, x.length ≤ M) → (Lib.joinTail sep r).length ≤ r.length * (M + sep.length) := by
      intro r
      induction r with
      | nil => intro _; simp [Lib.joinTail]
      | cons y r ih =>
        intro h
        have h1 := h y (by simp)
        have h2 := ih (fun x hx => h x (by simp [hx]))
        have e : Lib.joinTail sep (y :: r) = sep ++ y ++ Lib.joinTail sep r := by simp [Lib.joinTail]
        rw [e, List.length_append, List.length_append, List.length_cons, Nat.succ_mul]
        omega
    have h2 := hr r (fun x hx => h x (by simp [hx]))
    rw [Lib.join_cons, List.length_append, List.length_cons, Nat.succ_mul]
    omega
theorem itoa_len {n : Int} (h1 : -9223372036854775808 ≤ n) (h2 : n ≤ 9223372036854775807) : (Lib.itoa n).length ≤ 21 := by
  unfold Lib.itoa
  split
  · have := decD_len64 (u := n.natAbs) (by omega)
    simp
    omega
  · have := decD_len64 (u := n.toNat) (by omega)
    omega
theorem prAt_len {a : At} (h : a.Ok) (hv : a.valid = true) : (prAt a).length ≤ 1100 := by
  obtain ⟨k, n, f, s⟩ := a
  have hv' : validA k n f s = true := hv
  have hn := itoa_len h.n1 h.n2
  have hx : (hexS (canonB f)).data.toList.length = 16 := by show ((hexK 16 (canonB f)).toArray).toList.length = 16; rw [List.toList_toArray, hexK_length]
  have hx2 : (hexS (canonB f)).size = 16 := hx
  have he := escS_len s.data.toList
  have hs2 : s.data.toList.length = s.size := rfl
  have hs : k ≠ 0 → k ≠ 1 → k ≠ 2 → k ≠ 3 → s.size ≤ 256 := by
    intro h0 h1 h2 h3
    unfold validA at hv'
    rw [if_neg h0, if_neg h1, if_neg h2, if_neg h3] at hv'
    split at hv'
    · rw [Bool.and_eq_true] at hv'
      exact of_decide_eq_true hv'.2
    · cases hv'
  show (prA k n f s).length ≤ 1100
  unfold prA
  split
  · simp
  · split
    · split <;> simp
    · split
      · simp only at hn; omega
      · split
        · simp; omega
        · have := hs (by assumption) (by assumption) (by assumption) (by assumption)
          split <;> (simp; omega)

theorem valid_of_list {a : At} {l : List At} (h : validV a l = true) (h6 : a.k = 6) : (l.length : Int) ≤ 16 ∧ ∀ x ∈ l, x.valid = true := by
  unfold validV at h
  rw [if_pos h6] at h
  simp only [Bool.and_eq_true, decide_eq_true_eq, Bool.not_eq_true', List.any_eq_false] at h
  refine ⟨h.2.1, fun x hx => ?_⟩
  have := h.2.2 x hx
  simpa using this
theorem valid_of_one {a : At} {l : List At} (h : validV a l = true) (h6 : a.k ≠ 6) : a.valid = true := by
  unfold validV at h
  rw [if_neg h6, Bool.and_eq_true] at h
  exact h.2

set_option maxHeartbeats 1600000 in
theorem print_one {w : World} (hP : PW w) {k n : Int} {f : Nat} {s : ByteArray} {q : Option Addr} {m c : Nat} {l : List At} (h : VaOk w ⟨k, n, f, s⟩ q m c l) (hk : validV ⟨k, n, f, s⟩ l = true → k ≠ 6) :
    Calls Tryd.prog 8 #[.agg #[.int .i64 k, .int .i64 n, .float .f64 f, .string s, .slice q m c]] w (PrPost w (prV ⟨k, n, f, s⟩ l)) := by
  obtain ⟨W, hW⟩ : ∃ W, W = w.alloc (.cells #[.int .i64 k, .int .i64 n, .float .f64 f, .string s, .slice q m c] 27) := ⟨_, rfl⟩
  have HB0 : Hid (Below w.heap.size w W) := Lib.hid (by rw [hW]; exact (Below.refl _ _).alloc (Nat.le_refl _) _)
  have HX : Hid (∀ w', Below W.heap.size W w' → ∀ i, w'.cell? ⟨w.heap.size, i, none⟩ = (#[.int .i64 k, .int .i64 n, .float .f64 f, .string s, .slice q m c] : Array Value)[i]?) := Lib.hid fun w' hb i => by rw [hW] at hb; exact box_cell hb i
  have HV : Hid (Calls Tryd.prog 9 #[.agg #[.int .i64 k, .int .i64 n, .float .f64 f, .string s, .slice q m c]] W fun e w' => e = .returned (.bool (validV ⟨k, n, f, s⟩ l)) ∧ Below W.heap.size W w') := Lib.hid (valid_any (h.below HB0.out))
  by_cases hv : validV ⟨k, n, f, s⟩ l = true
  · have h6 := hk hv
    have HA : Hid (∀ w', Below w.heap.size w w' → Calls Tryd.prog 15 #[.agg #[.int .i64 k, .int .i64 n, .float .f64 f, .string s]] w' (PrPost w' (prA k n f s))) := Lib.hid fun w' hb => printAtom_any (hP.below hb) h.ok (valid_of_one hv h6)
    have HE : Hid (prV ⟨k, n, f, s⟩ l = prA k n f s) := Lib.hid (by unfold prV; rw [if_pos hv, if_neg h6]; rfl)
    have g6' : (k != 6) = true := by rw [bne_iff_ne]; exact h6
    have g6 : (k == 6) = false := by rw [beq_eq_false_iff_ne]; exact h6
    rw [hv] at HV
    clear h hk hv h6
    go_enter Tryd.func8, Tryd.ntmps8
    go_wp2_with fail
    rw [← hW]
    clear hW
    with_reducible refine HV.out.mono ?_
    rintro e w1 ⟨rfl, hb1⟩
    have HB1 := Lib.hid (HB0.out.trans (hb1.mono HB0.out.size))
    have x0 := HX.out _ hb1 0
    have x1 := HX.out _ hb1 1
    have x2 := HX.out _ hb1 2
    have x3 := HX.out _ hb1 3
    replace x0 : w1.cell? ⟨w.heap.size, 0, none⟩ = some (.int .i64 k) := x0
    replace x1 : w1.cell? ⟨w.heap.size, 1, none⟩ = some (.int .i64 n) := x1
    replace x2 : w1.cell? ⟨w.heap.size, 2, none⟩ = some (.float .f64 f) := x2
    replace x3 : w1.cell? ⟨w.heap.size, 3, none⟩ = some (.string s) := x3
    clear hb1 HX HV
    go_wp2_with fail
    with_reducible refine (HA.out _ HB1.out).mono ?_
    rintro e w2 ⟨⟨t, rfl, ht⟩, hb2⟩
    have HB2 := Lib.hid (HB1.out.trans (hb2.mono HB1.out.size))
    have HT := Lib.hid ht
    clear hb2 ht HA
    go_wp2
    go_ret
    exact ⟨⟨_, rfl, by rw [HE.out, HT.out]⟩, HB2.out⟩
  · have HE : Hid (prV ⟨k, n, f, s⟩ l = []) := Lib.hid (if_neg hv)
    rw [Bool.eq_false_iff.2 hv] at HV
    clear h hk hv HX
    go_enter Tryd.func8, Tryd.ntmps8
    go_wp2_with fail
    rw [← hW]
    clear hW
    with_reducible refine HV.out.mono ?_
    rintro e w1 ⟨rfl, hb1⟩
    have HB1 := Lib.hid (HB0.out.trans (hb1.mono HB0.out.size))
    clear hb1
    go_wp2
    go_ret
    exact ⟨⟨_, rfl, by rw [HE.out]⟩, HB1.out⟩

theorem take_map_snoc {l : List At} {j : Nat} {a : At} (h : l[j]? = some a) : ((l.take (j + 1)).map prAt) = (l.take j).map prAt ++ [prAt a] := by
  rw [List.take_add_one, h]
  simp

/-! The program's. -/
def strT (a : At) : ByteArray := ⟨(prAt a).toArray⟩
theorem str_is {t : ByteArray} {a : At} (h : t.data.toList = prAt a) : t = strT a := by
  apply ByteArray.ext
  apply Array.ext'
  rw [h]
  rfl
/-- The row of texts, the first j laid. -/
def rowT (l : List At) (j : Nat) : Array Value := (((l.take j).map fun a => Value.string (strT a)) ++ List.replicate (l.length - j) (Value.string ⟨#[]⟩)).toArray
theorem rowT_set {l : List At} {j : Nat} {a : At} (h : l[j]? = some a) : (rowT l j).setIfInBounds j (.string (strT a)) = rowT l (j + 1) := by
  obtain ⟨hj, rfl⟩ := List.getElem?_eq_some_iff.1 h
  unfold rowT
  apply Array.ext'
  rw [Array.toList_setIfInBounds, List.toList_toArray, List.toList_toArray]
  have e : l.length - j = (l.length - (j + 1)) + 1 := by omega
  rw [e, List.replicate_succ, List.set_append_right _ _ (by rw [List.length_map, List.length_take]; omega), List.length_map, List.length_take, Nat.min_eq_left (by omega), Nat.sub_self, List.set_cons_zero, List.take_add_one, List.getElem?_eq_getElem hj]
  simp only [Option.toList_some, List.map_append, List.map_cons, List.map_nil, List.append_assoc, List.cons_append, List.nil_append]
theorem rowT_zero (l : List At) : rowT l 0 = (List.replicate l.length (Value.string ⟨#[]⟩)).toArray := by simp [rowT]
theorem rowT_at {l : List At} {i : Nat} (hi : i < l.length) : (rowT l l.length)[i]? = some (.string (strT l[i])) := by
  unfold rowT
  rw [List.take_length, Nat.sub_self, List.replicate_zero, List.append_nil]
  simp [hi]
theorem rowT_here {l : List At} {j : Nat} (hj : j < l.length) : (rowT l j)[j]? = some (.string ⟨#[]⟩) := by
  unfold rowT
  rw [List.getElem?_toArray, List.getElem?_append_right (by rw [List.length_map, List.length_take]; omega), List.length_map, List.length_take, Nat.min_eq_left (by omega), Nat.sub_self, List.getElem?_replicate, if_pos (by omega)]
theorem madeCells_str (n : Nat) : madeCells #[Value.string ⟨#[]⟩] n = (List.replicate n (Value.string ⟨#[]⟩)).toArray := by
  apply Array.ext
  · simp [madeCells]
  · intro i h1 h2
    simp [madeCells, Nat.mod_one]
theorem info_str : (Tryd.prog.info? 9).map (fun i => (i.zero, i.size, i.bytes)) = some (some (.string ⟨#[]⟩), 1, 16) := by kernel_rfl

set_option maxHeartbeats 3200000 in
theorem print_list {w : World} (hP : PW w) {n : Int} {f : Nat} {s : ByteArray} {q : Option Addr} {m c : Nat} {l : List At} (h : VaOk w ⟨6, n, f, s⟩ q m c l) (hv : validV ⟨6, n, f, s⟩ l = true) :
    Calls Tryd.prog 8 #[.agg #[.int .i64 6, .int .i64 n, .float .f64 f, .string s, .slice q m c]] w (PrPost w (prV ⟨6, n, f, s⟩ l)) := by
  obtain ⟨h16, hall⟩ := valid_of_list hv rfl
  have HE : Hid (prV ⟨6, n, f, s⟩ l = [91] ++ prL l ++ [93]) := Lib.hid (by unfold prV; rw [if_pos hv, if_pos rfl])
  obtain ⟨W, hW⟩ : ∃ W, W = w.alloc (.cells #[.int .i64 6, .int .i64 n, .float .f64 f, .string s, .slice q m c] 27) := ⟨_, rfl⟩
  have HB0 : Hid (Below w.heap.size w W) := Lib.hid (by rw [hW]; exact (Below.refl _ _).alloc (Nat.le_refl _) _)
  have HX : Hid (∀ w', Below W.heap.size W w' → ∀ i, w'.cell? ⟨w.heap.size, i, none⟩ = (#[.int .i64 6, .int .i64 n, .float .f64 f, .string s, .slice q m c] : Array Value)[i]?) := Lib.hid fun w' hb i => by rw [hW] at hb; exact box_cell hb i
  have HV : Hid (Calls Tryd.prog 9 #[.agg #[.int .i64 6, .int .i64 n, .float .f64 f, .string s, .slice q m c]] W fun e w' => e = .returned (.bool true) ∧ Below W.heap.size W w') := Lib.hid (by have h1 := valid_any (h.below HB0.out); rw [hv] at h1; exact h1)
  have HA : Hid (∀ a ∈ l, ∀ w', Below w.heap.size w w' → Calls Tryd.prog 15 #[.agg #[.int .i64 a.k, .int .i64 a.n, .float .f64 a.f, .string a.s]] w' (PrPost w' (prAt a))) := Lib.hid fun a ha w' hb => printAtom_any (hP.below hb) (h.hok a ha) (hall a ha)
  have HLN : Hid ((prL l).length ≤ 20000) := Lib.hid (by
    have h1 := join_len [44, 32] 1100 (l.map prAt) (fun x hx => by
      obtain ⟨a, ha, rfl⟩ := List.mem_map.1 hx
      exact prAt_len (h.hok a ha) (hall a ha))
    have h2 : (l.map prAt).length ≤ 16 := by rw [List.length_map]; omega
    have h3 : ([44, 32] : List UInt8).length = 2 := rfl
    have h4 : (l.map prAt).length * (1100 + ([44, 32] : List UInt8).length) ≤ 16 * 1102 := Nat.mul_le_mul h2 (by omega)
    unfold prL
    omega)
  have HLS := Lib.hid h.hl
  have HN := Lib.hid h.hn
  have hm16 : m ≤ 16 := by have := h.hn; omega
  have h1 := h.h1
  have h2 := h.h2
  obtain ⟨ti, hti, hz0, hz1, hz2⟩ := info_parts info_str
  have HMK : Hid (madeCells #[Value.string ⟨#[]⟩] m = rowT l 0) := Lib.hid (by rw [madeCells_str, rowT_zero, h.hn])
  clear h hv hall h16
  go_enter Tryd.func8, Tryd.ntmps8
  go_wp2_with fail
  rw [← hW]
  clear hW
  with_reducible refine HV.out.mono ?_
  rintro e w1 ⟨rfl, hb1⟩
  have HB1 := Lib.hid hb1
  have x0 := HX.out _ hb1 0
  have x4 := HX.out _ hb1 4
  replace x0 : w1.cell? ⟨w.heap.size, 0, none⟩ = some (.int .i64 6) := x0
  replace x4 : w1.cell? ⟨w.heap.size, 4, none⟩ = some (.slice q m c) := x4
  have l0 : w.heap.size < w1.heap.size := World.block_lt_of_cell? _ _ x0
  clear hb1 HV
  go_wp2_with (at_make; go_loud (refine wpList_make_row _ rfl _ _ _ rfl 9 ti (.string ⟨#[]⟩) Tryd.underlying45 hti hz0 hz1 rfl .i64 .i64 m rfl rfl (by rw [hz2]; omega) (by omega) ?_))
  obtain ⟨W1, hW1⟩ : ∃ W1, W1 = w1.alloc (.cells (madeCells #[Value.string ⟨#[]⟩] m) 9) := ⟨_, rfl⟩
  rw [← hW1]
  have HG : Hid (W1.heap[w1.heap.size]? = some (.cells (rowT l 0) 9 (0, 0))) := Lib.hid (by rw [hW1, ← HMK.out]; exact heap_alloc_new w1 _)
  have HB2 : Hid (Below w1.heap.size w1 W1) := Lib.hid (by rw [hW1]; exact (Below.refl _ _).alloc (Nat.le_refl _) _)
  clear hW1 HMK hti hz0 hz1 hz2 x0 x4
  have HBW : Hid (Below w.heap.size w w1) := Lib.hid (HB0.out.trans (HB1.out.mono HB0.out.size))
  go_loopw [4, 5, 25] (fun _ _ i wr => ∃ (j : Nat), i = .int .i64 j ∧ j ≤ m ∧ wr.heap[w1.heap.size]? = some (.cells (rowT l j) 9 (0, 0)) ∧ Below w1.heap.size w1 wr) (fun _ _ i _ => m - (intOf i).toNat)
  case atStart => exact ⟨0, rfl, by omega, HG.out, HB2.out⟩
  case round =>
    obtain ⟨j, rfl, hj, hg, hb⟩ := hrel
    have HBR := Lib.hid hb
    have HGR := Lib.hid hg
    have HZR : Hid (Below w.heap.size w wr) := Lib.hid (HBW.out.trans (hb.mono HBW.out.size))
    have hlt : w1.heap.size < wr.heap.size := (Array.getElem?_eq_some_iff.1 hg).1
    clear hg hb
    by_cases hjm : j < m
    · have hjl : j < l.length := by have := HN.out; omega
      obtain ⟨a, ha⟩ : ∃ a, l[j]? = some a := ⟨l[j], List.getElem?_eq_getElem hjl⟩
      have hmem : a ∈ l := List.mem_of_getElem? ha
      obtain ⟨b, o, rfl, hcells⟩ := (HLS.out.below HZR.out).at ha
      obtain ⟨ck, cn, cf, cs⟩ := hcells
      have HSET := Lib.hid (rowT_set ha)
      have HHERE := Lib.hid (rowT_here hjl)
      obtain ⟨W2, hW2⟩ : ∃ W2, W2 = wr.alloc (.cells #[.int .i64 a.k, .int .i64 a.n, .float .f64 a.f, .string a.s] 24) := ⟨_, rfl⟩
      have HB3 : Hid (Below wr.heap.size wr W2) := Lib.hid (by rw [hW2]; exact (Below.refl _ _).alloc (Nat.le_refl _) _)
      have HC : Hid (Calls Tryd.prog 15 #[.agg #[.int .i64 a.k, .int .i64 a.n, .float .f64 a.f, .string a.s]] W2 (PrPost W2 (prAt a))) := Lib.hid (HA.out a hmem W2 (HZR.out.trans (HB3.out.mono HZR.out.size)))
      have hst := store_flt
      go_wp2_with fail
      rw [← hW2]
      clear hW2 ck cn cf cs hst
      with_reducible refine HC.out.mono ?_
      rintro e w2 ⟨⟨t, rfl, ht⟩, hb2⟩
      obtain rfl := str_is ht
      have HB4 : Hid (Below wr.heap.size wr w2) := Lib.hid (HB3.out.trans (hb2.mono HB3.out.size))
      have hg2 : w2.heap[w1.heap.size]? = some (.cells (rowT l j) 9 (0, 0)) := by rw [HB4.out.block w1.heap.size hlt]; exact HGR.out
      have HG2 := Lib.hid hg2
      have cG : w2.cell? ⟨w1.heap.size, j, none⟩ = some (.string ⟨#[]⟩) := by rw [Joins.cell_of_block hg2]; exact HHERE.out
      have zG : w2.frozen? ⟨w1.heap.size, j, none⟩ = false := Joins.unfrozen_of_block hg2 j
      clear hb2 HC ht hg2 HHERE
      go_wp2_with fail
      go_roundw
      case rel =>
        refine ⟨j + 1, by go_num, by omega, ?_, ?_⟩
        · rw [← HSET.out]
          exact heap_setCell_same w2 w1.heap.size j _ _ _ HG2.out
        · exact (HBR.out.trans (HB4.out.mono HBR.out.size)).setCell (Nat.le_refl _) _
      case measure => simp [intOf]; omega
    · have hjm2 : j = m := by omega
      have HF : Hid (wr.heap[w1.heap.size]? = some (.cells (rowT l l.length) 9 (0, 0))) := Lib.hid (by rw [← HN.out, ← hjm2]; exact HGR.out)
      have HML : Hid ((l.map strT).length = m) := Lib.hid (by rw [List.length_map]; exact HN.out.symm)
      have HJN : Hid (Lib.join ((l.map strT).map (·.data.toList)) (⟨#[44, 32]⟩ : ByteArray).data.toList = prL l) := Lib.hid (by
        unfold prL
        rw [List.map_map]
        rfl)
      have HC : Hid (Calls Tryd.prog 16 #[.slice (some ⟨w1.heap.size, 0, none⟩) m m, .string ⟨#[44, 32]⟩] wr fun e w' => e = .returned (.string ⟨(prL l).toArray⟩) ∧ Below wr.heap.size wr w') := Lib.hid (by
        have h3 := Tryd.strings_Join w1.heap.size 0 m (l.map strT) ⟨#[44, 32]⟩ wr (fun i x hx => by
          rw [Nat.zero_add, Joins.cell_of_block HF.out]
          rw [List.getElem?_map] at hx
          obtain ⟨a, ha, rfl⟩ := Option.map_eq_some_iff.1 hx
          obtain ⟨hi, rfl⟩ := List.getElem?_eq_some_iff.1 ha
          exact rowT_at hi) hlt (by rw [HML.out]; omega) (by rw [HML.out]; omega) (by rw [HJN.out]; have := HLN.out; omega)
        rw [HJN.out, HML.out] at h3
        exact h3)
      have hts : (⟨(prL l).toArray⟩ : ByteArray).size ≤ 20000 := HLN.out
      obtain ⟨t, htt⟩ : ∃ t : ByteArray, t = ⟨(prL l).toArray⟩ := ⟨_, rfl⟩
      have HTT : Hid (t.data.toList = prL l) := Lib.hid (by rw [htt])
      rw [← htt] at HC hts
      clear htt hjm2 HJN HML HF HGR
      go_wp2_with fail
      with_reducible refine HC.out.mono ?_
      rintro e w3 ⟨rfl, hb3⟩
      have HB5 := Lib.hid (HZR.out.trans (hb3.mono HZR.out.size))
      clear hb3 HC
      go_wp2
      go_ret
      exact ⟨⟨_, rfl, by rw [bytes_app, bytes_app, HTT.out, HE.out]⟩, HB5.out⟩

theorem print_any {w : World} (hP : PW w) {k n : Int} {f : Nat} {s : ByteArray} {q : Option Addr} {m c : Nat} {l : List At} (h : VaOk w ⟨k, n, f, s⟩ q m c l) :
    Calls Tryd.prog 8 #[.agg #[.int .i64 k, .int .i64 n, .float .f64 f, .string s, .slice q m c]] w (PrPost w (prV ⟨k, n, f, s⟩ l)) := by
  by_cases hc : validV ⟨k, n, f, s⟩ l = true ∧ k = 6
  · obtain ⟨hv, rfl⟩ := hc
    exact print_list hP h hv
  · exact print_one hP h (fun hv h6 => hc ⟨hv, h6⟩)

end Go.Proofs.YtckmajcophpddaaDoor
