/-
  A block of bytes that is known.
  page.get.
  page.lay and page.Seal.
  page.Seal.
  bytes.Equal.
  page.Open.
  page.Open and the reference's.
-/
import Derived.Test.YtbbgdbnjmonbgaaGreatDoorH00
import Derived.Test.YtbbgdbnjmonbgaaGreatDoorH06
import Derived.Laws.CopyOwn
import Derived.Deep.OwnRows
import Derived.Laws.Bits64b
import Derived.Laws.BitsAllLaws
import Derived.Below
import Derived.BigQuiet
import Derived.Deep.RegionHeld3
import Derived.Outline
set_option linter.unusedVariables false
set_option maxRecDepth 100000
namespace Go.Proofs.YtbbgdbnjmonbgaaGreatDoor
open Go.RowKit
def PSec (w : World) (g : Nat) (l : List UInt8) : Prop := w.heap[g]? = some (.cells (u8s l).toArray 5 (0, 0))
theorem PSec.lt {w : World} {g : Nat} {l : List UInt8} (h : PSec w g l) : g < w.heap.size := (aL h)
theorem PSec.below {w w' : World} {g : Nat} {l : List UInt8} (h : PSec w g l) {B : Nat} (hB : g < B) (hb : Below B w w') : PSec w' g l := by
 unfold PSec
 rw [hb.block g hB]
 exact h
theorem PSec.bs {w : World} {g : Nat} {l : List UInt8} (h : PSec w g l) : Bs w (some ⟨g, 0, none⟩) l := Bs.of_block h rfl
theorem PSec.part {w : World} {g : Nat} {l : List UInt8} (h : PSec w g l) (a n : Nat) : Bs w (some ⟨g, a, none⟩) ((l.drop a).take n) := by
 refine Bs.take ?_ n
 have h1 : ∀ i u, l[i]? = some u → w.cell? ⟨g, 0 + i, none⟩ = some (.int .u8 (u.toNat : Int)) := by
  intro i u hi
  rw [jC h, Nat.zero_add]
  simp [u8s, hi]
 have := Bs.drop h1 a
 rwa [Nat.zero_add] at this
theorem PSec.own {w : World} {B g : Nat} {l : List UInt8} (h : PSec w g l) (hB : B ≤ g) {n : Nat} (hn : n = l.length) (hm : l.length ≤ 140737488355328) : Own w B (.slice (some ⟨g, 0, none⟩) n n) l := by
 subst hn
 refine ⟨by simp [u8s], .inr ⟨g, l.length, (u8s l).toArray, rfl, hB, h, Nat.le_refl _, by simp only [maxLen]; omega, by simp [u8s], by rw [List.take_of_length_le (by simp [u8s])]⟩⟩
theorem pmadeCells_u8 (n : Nat) : madeCells #[Value.int .u8 0] n = (u8s (List.replicate n 0)).toArray := by
 apply Array.ext
 ·
  simp [madeCells, u8s]
 ·
  intro i h1 h2
  simp [madeCells, u8s, Nat.mod_one]
theorem pmake_u8 {w : World} {ops : Array Oper} {rest : List Oper} {o : Oper} {a : Act} {Q : Exit → Act → World → Prop} (hg : o.guard = none) (l c : Operand) (hop : o.op = Op.makeSlice 33 l c)
  (hl : a.eval l = .int .i64 512) (hc : a.eval c = .int .i64 512)
  (hK : ∀ w', PSec w' w.heap.size (List.replicate 512 0) → Below w.heap.size w w' → w'.heap.size = w.heap.size + 1 → wpList Tryz.prog ops Q rest (a.put o.dst (.slice (some ⟨w.heap.size, 0, none⟩) 512 512)) w') :
  wpList Tryz.prog ops Q (o :: rest) a w := by
 obtain ⟨i, hi, hz0, hz1, hz2⟩ := info_parts info_u8
 refine wpList_make_row w hg l c _ hop 5 i (.int .u8 0) Tryz.underlying33 hi hz0 hz1 rfl .i64 .i64 512 hl hc (by rw [hz2]; decide) (by decide) ?_
 refine hK _ ?_ ((Below.refl _ _).alloc (Nat.le_refl _) _) (by simp)
 rw [pmadeCells_u8]
 exact heap_alloc_new w _
def splL (l : List UInt8) (o : Nat) (m : List UInt8) : List UInt8 := l.take o ++ m ++ l.drop (o + m.length)
theorem splL_length {l m : List UInt8} {o : Nat} (h : o + m.length ≤ l.length) : (splL l o m).length = l.length := by
 simp only [splL, List.length_append, List.length_take, List.length_drop]
 omega
theorem psplice_u8 (l m : List UInt8) (o : Nat) : splice (u8s l) o (u8s m) = u8s (splL l o m) := by
 simp [splice, u8s, splL]
theorem pcopy_u8 {w w0 : World} {ops : Array Oper} {rest : List Oper} {o : Oper} {a : Act} {Q : Exit → Act → World → Prop} (hgd : o.guard = none) (d s : Operand)
  (ho : o.op = .call { callee := .builtin .copy, args := #[d, s], argTypes := #[33, 33] })
  {g off n c : Nat} {l : List UInt8} (hd : a.eval d = .slice (some ⟨g, off, none⟩) n c) (hg : PSec w g l) (hn : off + n ≤ l.length)
  {p : Option Addr} {k k' : Nat} {m : List UInt8} (hs : a.eval s = .slice p k k') (hm : Bs w p m) (hml : m.length = min k n) {B : Nat} (hb : Below B w0 w) (hB : B ≤ g)
  (h : ∀ w', PSec w' g (splL l off m) → Below B w0 w' → wpList Tryz.prog ops Q rest (a.put o.dst (goInt m.length)) w') : wpList Tryz.prog ops Q (o :: rest) a w := by
 obtain ⟨i, hi, hz0, hz1, hz2⟩ := info_parts info_u8
 refine wpList_copy_splice hgd d s _ _ ho 5 Tryz.underlying33 (by rw [hi]; simp [hz1]) _ _ _ _ _ _ hd hs g off (u8s l) 5 hg (u8s m) (by rw [u8s_length]; exact hml) ?_ (by rw [u8s_length, u8s_length]; omega) (u8s_oneCell m) B w0 hb hB ?_
 ·
  intro h0
  rw [u8s_length] at h0
  obtain ⟨b, o, rfl, _, hc⟩ := hm.at h0
  refine ⟨rfl, _, rfl, fun j v hj => ?_⟩
  obtain ⟨u, hu, rfl⟩ := u8s_get hj
  rw [Addr.add_lit]
  obtain ⟨hj', rfl⟩ := List.getElem?_eq_some_iff.1 hu
  exact hc j hj'
 ·
  intro w' h1 h2
  rw [u8s_length]
  refine h w' ?_ h2
  have h3 := h1.out
  rw [psplice_u8] at h3
  exact h3
end Go.Proofs.YtbbgdbnjmonbgaaGreatDoor

set_option linter.unusedVariables false
set_option maxRecDepth 100000
namespace Go.Proofs.YtbbgdbnjmonbgaaGreatDoor
open Go.RowKit
theorem leV_snoc {l : List UInt8} {j : Nat} (hj : j < l.length) : leV (l.take (j + 1)) = leV (l.take j) + 256 ^ j * l[j].toNat := by
 rw [List.take_add_one, List.getElem?_eq_getElem hj, leV_append, List.length_take, Nat.min_eq_left (by omega)]
 simp [leV]
theorem pow8 (j : Nat) : (256 : Nat) ^ j = 2 ^ (8 * j) := by rw [Nat.pow_mul]
theorem or_low {s d j : Nat} (hs : s < 256 ^ j) (hd : d < 256) (hj : j < 8) : bits .or .u64 (s : Int) (IntKind.u64.wrap ((d : Int) * 2 ^ (8 * j))) = ((s + 256 ^ j * d : Nat) : Int) := by
 have h0 : (256 : Nat) ^ j ≤ 256 ^ 7 := Nat.pow_le_pow_right (by decide) (by omega)
 have h1 : (256 : Nat) ^ 7 = 72057594037927936 := by decide
 have h2 : 256 ^ j * d ≤ 256 ^ 7 * 255 := Nat.mul_le_mul h0 (by omega)
 have h3 : ((d : Int) * 2 ^ (8 * j)) = ((256 ^ j * d : Nat) : Int) := by
  rw [pow8, Int.natCast_mul, Int.natCast_pow, Int.mul_comm]
  rfl
 have h4 := Nat.two_pow_add_eq_or_of_lt (i := 8 * j) (b := s) (by rw [← pow8]; exact hs) d
 rw [h3, IntKind.wrap_u64, Int.emod_eq_of_lt (by omega) (by omega), bits_or_u64_nat s (256 ^ j * d) (by omega) (by omega), Nat.or_comm, pow8, ← h4, Nat.add_comm]
set_option maxHeartbeats 800000 in
theorem get_any {w : World} {p : Option Addr} {l : List UInt8} (hl : Bs w p l) {n c : Nat} (hn : n = l.length) (h8 : n ≤ 8) :
  Calls Tryz.prog 129 #[.slice p n c] w fun e w' => e = .returned (.int .u64 (leV l : Nat)) ∧ w = w' := by
 have HN := Hq hn
 have HL := Hq hl
 clear hl hn
 go_enter Tryz.func129, Tryz.ntmps129
 go_wp2
 go_loop [3, 8] (fun s i => ∃ j : Nat, i = .int .i64 j ∧ j ≤ n ∧ s = .int .u64 (leV (l.take j) : Nat)) (fun _ i => n - (intOf i).toNat)
 case atStart => exact ⟨0, rfl, by omega, rfl⟩
 case round =>
  obtain ⟨j, rfl, hj, rfl⟩ := hrel
  by_cases hjn : j < n
  ·
   have hjl : j < l.length := by have := HN.out; omega
   obtain ⟨b, o, rfl, _, hcells⟩ := HL.out.at (by omega)
   have hx := hcells j hjl
   have HR := Hq (leV_snoc hjl)
   have hcl : l[j].toNat < 256 := l[j].toNat_lt
   have hlt := leV_lt (l.take j)
   rw [List.length_take, Nat.min_eq_left (by omega)] at hlt
   have HQ := Hq (or_low hlt hcl (by omega))
   clear hcells hlt
   generalize leV (l.take j) = s at *
   generalize l[j].toNat = d at *
   go_wp2
   go_round
   case rel => exact ⟨j + 1, by go_num, by omega, by rw [HR.out, HQ.out]⟩
   case measure => simp [intOf]; omega
  ·
   have HJ : Hid (j = l.length) := Hq (by have := HN.out; omega)
   have HR : Hid (leV (l.take j) = leV l) := Hq (by rw [HJ.out, List.take_length])
   generalize leV (l.take j) = s at *
   go_wp2
   go_ret
   refine ⟨ret_int ?_, rfl⟩
   rw [HR.out]
theorem leB_snoc (j x : Nat) : leB (j + 1) x = leB j x ++ [UInt8.ofNat (x / 256 ^ j)] := by
 induction j generalizing x with
 | zero => simp [leB]
 | succ j ih => rw [leB, ih, leB, List.cons_append, Nat.div_div_eq_div_mul, Nat.pow_succ, Nat.mul_comm 256]
theorem put_cells {x : Nat} (hx : x < 18446744073709551616) : #[Value.int .u8 ((x : Int) % 256), .int .u8 ((x : Int) / 256 % 256), .int .u8 ((x : Int) / 65536 % 256), .int .u8 ((x : Int) / 16777216 % 256), .int .u8 ((x : Int) / 4294967296 % 256), .int .u8 ((x : Int) / 1099511627776 % 256), .int .u8 ((x : Int) / 281474976710656 % 256), .int .u8 ((x : Int) / 72057594037927936)] = (u8s (leB 8 x)).toArray := by
 simp only [leB, u8s, List.map_cons, List.map_nil, u8_ofNat, Nat.div_div_eq_div_mul]
 congr 9
 all_goals congr 1
 all_goals first | omega | (congr 1; omega)
def PutPost (w : World) (g B : Nat) (l : List UInt8) (e : Ending) (w' : World) : Prop := e = .returned (.tuple #[]) ∧ PSec w' g l ∧ Below B w w'
set_option maxHeartbeats 800000 in
theorem put_any {w : World} {g o n c B : Nat} {l : List UInt8} (hS : PSec w g l) (hB : B ≤ g) (hn : o + n ≤ l.length) (hn8 : n ≤ 8) (hnc : n ≤ c) (hc : c ≤ 9223372036854775807) {x : Nat} (hx : x < 18446744073709551616) :
  Calls Tryz.prog 127 #[.slice (some ⟨g, o, none⟩) n c, .int .u64 (x : Int)] w (PutPost w g B (splL l o (leB n x))) := by
 have HS := Hq hS
 have HN := Hq hn
 clear hS hn
 have HC : Hid (#[Value.int .u8 ((x : Int) % 256), .int .u8 ((x : Int) / 256 % 256), .int .u8 ((x : Int) / 65536 % 256), .int .u8 ((x : Int) / 16777216 % 256), .int .u8 ((x : Int) / 4294967296 % 256), .int .u8 ((x : Int) / 1099511627776 % 256), .int .u8 ((x : Int) / 281474976710656 % 256), .int .u8 ((x : Int) / 72057594037927936)] = (u8s (leB 8 x)).toArray) := Hq (put_cells hx)
 have HT : Hid ((leB 8 x).take n = leB n x) := Hq (leB_take hn8)
 have HM : Hid ((leB n x).length = min 8 n) := Hq (by rw [leB_length]; omega)
 go_enter Tryz.func127, Tryz.ntmps127
 go_wp2_with (refine pcopy_u8 rfl (.tmp 29) (.tmp 30) rfl rfl (HS.out.below HS.out.lt ((Below.refl _ _).alloc (Nat.le_refl _) _)) HN.out rfl (by rw [← HT.out]; exact (Bs.new _ _ _ _ rfl HC.out).take n) HM.out ((Below.refl _ _).alloc (Nat.le_trans hB (Nat.le_of_lt HS.out.lt)) _) hB ?_; intro w2 h2 hb2; have H2 := Hq h2; have HB2 := Hq hb2; clear h2 hb2)
 exact bodyPost_ret (v := .tuple #[]) (by simp [results, Tryz.results127, go_sem]) rfl ⟨rfl, H2.out, HB2.out⟩
end Go.Proofs.YtbbgdbnjmonbgaaGreatDoor

set_option linter.unusedVariables false
set_option maxRecDepth 100000
namespace Go.Proofs.YtbbgdbnjmonbgaaGreatDoor
open Go.RowKit
theorem PSec.set {w : World} {g : Nat} {l : List UInt8} (h : PSec w g l) (i : Nat) (u : UInt8) {x : Int} (hx : x = (u.toNat : Int)) : PSec (w.setCell ⟨g, i, none⟩ (.int .u8 x)) g (l.set i u) := by
 subst hx
 unfold PSec
 rw [heap_setCell_same w g i _ _ _ h]
 simp [u8s, List.map_set]
theorem PSec.cell {w : World} {g : Nat} {l : List UInt8} (h : PSec w g l) {i : Nat} (hi : i < l.length) : w.cell? ⟨g, i, none⟩ = some (.int .u8 (l[i].toNat : Int)) := by
 have := h.bs.cell hi
 rwa [Nat.zero_add] at this
theorem PSec.soft {w : World} {g : Nat} {l : List UInt8} (h : PSec w g l) (i : Nat) : w.frozen? ⟨g, i, none⟩ = false := jU h i
theorem splL_zeros {a m : List UInt8} {o k r : Nat} (ha : a.length = o) (hm : m.length = k) : splL (a ++ List.replicate (k + r) 0) o m = (a ++ m) ++ List.replicate r 0 := by
 subst ha hm
 unfold splL
 rw [List.take_left' rfl, List.drop_append, List.drop_eq_nil_of_le (by omega), List.drop_replicate]
 simp
def layB (kind : UInt8) (no gen : Nat) (l : List UInt8) : List UInt8 := headB kind no gen l ++ List.replicate 4 0
theorem lay_steps {kind : UInt8} {no gen : Nat} {l : List UInt8} (h : l.length ≤ 493) :
  splL (splL (splL (splL ((List.replicate 512 0).set 0 kind) 1 (leB 4 no)) 5 (leB 8 gen)) 13 (leB 2 l.length)) 15 l = layB kind no gen l := by
 have e0 : (List.replicate 512 (0 : UInt8)).set 0 kind = [kind] ++ List.replicate (4 + 507) 0 := rfl
 have e1 : (507 : Nat) = 8 + 499 := rfl
 have e2 : (499 : Nat) = 2 + 497 := rfl
 have e3 : (497 : Nat) = l.length + (497 - l.length) := by omega
 rw [e0, splL_zeros (o := 1) rfl (leB_length 4 no), e1, splL_zeros (by simp [leB_length]) (leB_length 8 gen), e2, splL_zeros (by simp [leB_length]) (leB_length 2 _), e3, splL_zeros (by simp [leB_length]) rfl]
 unfold layB headB
 have e4 : 497 - l.length = (493 - l.length) + 4 := by omega
 rw [e4, ← List.replicate_append_replicate]
 simp only [List.append_assoc, List.cons_append, List.nil_append]
theorem layB_length {kind : UInt8} {no gen : Nat} {l : List UInt8} (h : l.length ≤ 493) : (layB kind no gen l).length = 512 := by
 rw [layB, List.length_append, headB_length h, List.length_replicate]
def BadPost (w : World) (x : Nat) (e : Ending) (w' : World) : Prop := e = .returned (.tuple #[.slice none 0 0, .int .i64 (x : Int)]) ∧ w = w'
def LayPost (w : World) (l : List UInt8) (e : Ending) (w' : World) : Prop := e = .returned (.tuple #[.slice (some ⟨w.heap.size, 0, none⟩) 512 512, .int .i64 0]) ∧ PSec w' w.heap.size l ∧ Below w.heap.size w w'
set_option maxHeartbeats 800000 in
theorem lay_bad {w : World} (k : Int) {no gen : Int} {p : Option Addr} {n c : Nat} {z : Nat} (hz : z = sealE no gen n) (hb : z ≠ 0) (hn : n ≤ 9223372036854775807) :
  Calls Tryz.prog 126 #[.int .u8 k, .int .i64 no, .int .i64 gen, .slice p n c] w (BadPost w z) := by
 by_cases h1 : no < 0
 ·
  replace hz : z = 2 := by rw [hz]; unfold sealE; rw [if_pos (by omega)]
  subst hz
  clear hb
  go_enter Tryz.func126, Tryz.ntmps126
  go_wp2
  exact bodyPost_ret (v := .tuple #[.slice none 0 0, .int .i64 2]) (by simp [results, Tryz.results126, go_sem]) rfl ⟨rfl, rfl⟩
 by_cases h2 : 4096 ≤ no
 ·
  replace hz : z = 2 := by rw [hz]; unfold sealE; rw [if_pos (by omega)]
  subst hz
  clear hb
  go_enter Tryz.func126, Tryz.ntmps126
  go_wp2
  exact bodyPost_ret (v := .tuple #[.slice none 0 0, .int .i64 2]) (by simp [results, Tryz.results126, go_sem]) rfl ⟨rfl, rfl⟩
 by_cases h3 : gen < 0
 ·
  replace hz : z = 2 := by rw [hz]; unfold sealE; rw [if_pos (by omega)]
  subst hz
  clear hb
  go_enter Tryz.func126, Tryz.ntmps126
  go_wp2
  exact bodyPost_ret (v := .tuple #[.slice none 0 0, .int .i64 2]) (by simp [results, Tryz.results126, go_sem]) rfl ⟨rfl, rfl⟩
 by_cases h4 : 1152921504606846976 < gen
 ·
  replace hz : z = 2 := by rw [hz]; unfold sealE; rw [if_pos (by omega)]
  subst hz
  clear hb
  go_enter Tryz.func126, Tryz.ntmps126
  go_wp2
  exact bodyPost_ret (v := .tuple #[.slice none 0 0, .int .i64 2]) (by simp [results, Tryz.results126, go_sem]) rfl ⟨rfl, rfl⟩
 by_cases h5 : 493 < n
 ·
  replace hz : z = 3 := by rw [hz]; unfold sealE; rw [if_neg (by omega), if_pos h5]
  subst hz
  clear hb
  go_enter Tryz.func126, Tryz.ntmps126
  go_wp2
  exact bodyPost_ret (v := .tuple #[.slice none 0 0, .int .i64 3]) (by simp [results, Tryz.results126, go_sem]) rfl ⟨rfl, rfl⟩
 ·
  exact absurd (by rw [hz]; unfold sealE; rw [if_neg (by omega), if_neg h5]) hb
set_option maxHeartbeats 1600000 in
theorem lay_ok {w : World} (kind : UInt8) {no gen : Nat} (hno : no < 4096) (hg : gen ≤ 1152921504606846976) {p : Option Addr} {l : List UInt8} (hl : Bs w p l) {n c : Nat} (hn : n = l.length) (hnc : n ≤ c) (hc : c ≤ 9223372036854775807) (h493 : n ≤ 493) :
  Calls Tryz.prog 126 #[.int .u8 (kind.toNat : Int), .int .i64 (no : Int), .int .i64 (gen : Int), .slice p n c] w (LayPost w (layB kind no gen l)) := by
 have HL := Hq hl
 have HN := Hq hn
 have HS := Hq (lay_steps (kind := kind) (no := no) (gen := gen) (l := l) (by omega))
 rw [← hn] at HS
 have g2 : ¬ (4096 : Int) ≤ (no : Int) := by omega
 have g3 : ¬ (1152921504606846976 : Int) < (gen : Int) := by omega
 have HM : Hid (l.length = min n 493) := Hq (by omega)
 have n1 : ((List.replicate 512 (0 : UInt8)).set 0 kind).length = 512 := by simp
 have n2 : (splL ((List.replicate 512 (0 : UInt8)).set 0 kind) 1 (leB 4 no)).length = 512 := by rw [splL_length (by rw [n1, leB_length]; omega), n1]
 have n3 : (splL (splL ((List.replicate 512 (0 : UInt8)).set 0 kind) 1 (leB 4 no)) 5 (leB 8 gen)).length = 512 := by rw [splL_length (by rw [n2, leB_length]; omega), n2]
 have n4 : (splL (splL (splL ((List.replicate 512 (0 : UInt8)).set 0 kind) 1 (leB 4 no)) 5 (leB 8 gen)) 13 (leB 2 n)).length = 512 := by rw [splL_length (by rw [n3, leB_length]; omega), n3]
 have N1 := Hq n1
 have N2 := Hq n2
 have N3 := Hq n3
 have N4 := Hq n4
 have HG : Hid (gen < 18446744073709551616) := Hq (by omega)
 clear hl hn n1 n2 n3 n4 hg
 go_enter Tryz.func126, Tryz.ntmps126
 go_wp2_with (at_make; go_loud (refine pmake_u8 rfl _ _ rfl rfl rfl ?_; intro w1 h1 hb1 hs1; have H1 := Hq h1; have HB1 := Hq hb1; have hg1 : w.heap.size < w1.heap.size := (by omega); have c1 := h1.cell (i := 0) (by simp); have f1 := h1.soft 0; clear h1 hb1 hs1))
 have HB2 := Hq (HB1.out.setCell (p := ⟨w.heap.size, 0, none⟩) (Nat.le_refl _) (.int .u8 (kind.toNat : Int)))
 have HC := Hq (put_any (n := 4) (c := 511) (o := 1) (B := w.heap.size) (H1.out.set 0 kind rfl) (Nat.le_refl _) (by rw [N1.out]; omega) (by omega) (by omega) (by omega) (x := no) (by omega))
 generalize w1.setCell ⟨w.heap.size, 0, none⟩ (.int .u8 (kind.toNat : Int)) = w2 at *
 clear H1 HB1 c1 f1
 with_reducible refine HC.out.mono ?_
 rintro e w3 ⟨rfl, h3, hb3⟩
 have H3 := Hq h3
 have HB3 := Hq (HB2.out.trans hb3)
 clear h3 hb3 HC
 go_wp2_with fail
 have HC := Hq (put_any (n := 8) (c := 507) (o := 5) (B := w.heap.size) H3.out (Nat.le_refl _) (by rw [N2.out]; omega) (by omega) (by omega) (by omega) (x := gen) HG.out)
 with_reducible refine HC.out.mono ?_
 rintro e w4 ⟨rfl, h4, hb4⟩
 have H4 := Hq h4
 have HB4 := Hq (HB3.out.trans hb4)
 clear h4 hb4 HC H3 HB3 HB2
 go_wp2_with fail
 have HC := Hq (put_any (n := 2) (c := 499) (o := 13) (B := w.heap.size) H4.out (Nat.le_refl _) (by rw [N3.out]; omega) (by omega) (by omega) (by omega) (x := n) (by omega))
 with_reducible refine HC.out.mono ?_
 rintro e w5 ⟨rfl, h5, hb5⟩
 have H5 := Hq h5
 have HB5 := Hq (HB4.out.trans hb5)
 clear h5 hb5 HC H4 HB4
 have hl5 : Bs w5 p l := HL.out.below HB5.out
 have HL5 := Hq hl5
 clear hl5
 go_wp2_with (refine pcopy_u8 rfl (.tmp 49) (.tmp 50) rfl rfl H5.out (by rw [N4.out]; omega) rfl HL5.out HM.out HB5.out (Nat.le_refl _) ?_; intro w6 h6 hb6; have H6 := Hq h6; have HB6 := Hq hb6; clear h6 hb6)
 exact bodyPost_ret (v := .tuple #[.slice (some ⟨w.heap.size, 0, none⟩) 512 512, .int .i64 0]) (by simp [results, Tryz.results126, go_sem]) rfl ⟨rfl, by rw [← HS.out]; exact H6.out, HB6.out⟩
end Go.Proofs.YtbbgdbnjmonbgaaGreatDoor

set_option linter.unusedVariables false
set_option maxRecDepth 100000
namespace Go.Proofs.YtbbgdbnjmonbgaaGreatDoor
open Go.RowKit
theorem layB_take {kind : UInt8} {no gen : Nat} {l : List UInt8} (h : l.length ≤ 493) : (layB kind no gen l).take 508 = headB kind no gen l := by
 rw [layB, List.take_append_of_le_length (by rw [headB_length h]; omega), List.take_of_length_le (by rw [headB_length h]; omega)]
theorem layB_sum {kind : UInt8} {no gen : Nat} {l : List UInt8} (h : l.length ≤ 493) : splL (layB kind no gen l) 508 (leB 4 (sumV (headB kind no gen l))) = pageB kind no gen l := by
 have h1 := splL_zeros (a := headB kind no gen l) (m := leB 4 (sumV (headB kind no gen l))) (k := 4) (r := 0) (headB_length h) (leB_length _ _)
 rw [List.replicate_zero, List.append_nil] at h1
 exact h1
set_option maxHeartbeats 1600000 in
theorem seal_ok {w : World} (hT : Tab w) (kind : UInt8) {no gen : Nat} (hno : no < 4096) (hg : gen ≤ 1152921504606846976) {p : Option Addr} {l : List UInt8} (hl : Bs w p l) {n c : Nat} (hn : n = l.length) (hnc : n ≤ c) (hc : c ≤ 9223372036854775807) (h493 : n ≤ 493) :
  Calls Tryz.prog 107 #[.int .u8 (kind.toNat : Int), .int .i64 (no : Int), .int .i64 (gen : Int), .slice p n c] w (LayPost w (pageB kind no gen l)) := by
 have HC := Hq (lay_ok (w := w) kind hno hg hl (c := c) hn hnc hc h493)
 have hl493 : l.length ≤ 493 := by omega
 have HN := Hq (layB_length (kind := kind) (no := no) (gen := gen) hl493)
 have HK := Hq (layB_take (kind := kind) (no := no) (gen := gen) hl493)
 have HS := Hq (layB_sum (kind := kind) (no := no) (gen := gen) hl493)
 have HX := Hq (sumV_lt (headB kind no gen l))
 have HT := Hq hT
 clear hl hn hnc hc h493 hl493 hno hg hT
 generalize layB kind no gen l = y at *
 generalize pageB kind no gen l = z at *
 generalize headB kind no gen l = x at *
 go_enter Tryz.func107, Tryz.ntmps107
 go_wp2_with fail
 with_reducible refine HC.out.mono ?_
 rintro e w1 ⟨rfl, h1, hb1⟩
 have HB1 := Hq hb1
 have HP : Hid (∀ w', Below w1.heap.size w1 w' → Calls Tryz.prog 128 #[.slice (some ⟨w.heap.size, 0, none⟩) 508 512] w' fun e w'' => e = .returned (.int .u32 (sumV x : Nat)) ∧ w' = w'') := Hq fun w' hb => by
  have h2 := h1.below h1.lt hb
  have h3 := h2.part 0 508
  rw [List.drop_zero, HK.out] at h3
  refine sum_any ((HT.out.below HT.out.lt hb1).below (Nat.lt_of_lt_of_le HT.out.lt hb1.size) hb) h3 (by rw [← HK.out, List.length_take, HN.out]; rfl) (by omega)
 have HQ : Hid (∀ w', Below w1.heap.size w1 w' → Calls Tryz.prog 127 #[.slice (some ⟨w.heap.size, 508, none⟩) 4 4, .int .u64 (IntKind.u64.wrap (sumV x : Nat))] w' fun e w'' => e = .returned (.tuple #[]) ∧ PSec w'' w.heap.size z ∧ Below w.heap.size w' w'') := Hq fun w' hb => by
  have h2 := h1.below h1.lt hb
  have h3 := put_any (n := 4) (c := 4) (o := 508) (B := w.heap.size) h2 (Nat.le_refl _) (by rw [HN.out]; omega) (by omega) (by omega) (by omega) (x := sumV x) (by have := HX.out; omega)
  rw [HS.out] at h3
  rw [IntKind.wrap_u64, Int.emod_eq_of_lt (by omega) (by have := HX.out; omega)]
  exact h3
 have hx32 := HX.out
 clear h1 hb1 HC
 generalize sumV x = sx at *
 go_wp2_with fail
 go_region_held3 (fun _ => True) (exact trivial)
  (first
   | (go_at_call 128; with_reducible refine (HP.out _ (Below.refl _ _).drew).mono ?_; rintro e w2 ⟨rfl, rfl⟩)
   | (go_at_call 127; with_reducible refine (HQ.out _ (Below.refl _ _).drew).mono ?_; rintro e w3 ⟨rfl, h3, hb3⟩; have H3 := Hq h3; have HB3 := Hq hb3; clear h3 hb3))
 go_wp2
 exact bodyPost_ret (v := .tuple #[.slice (some ⟨w.heap.size, 0, none⟩) 512 512, .int .i64 0]) (by simp [results, Tryz.results107, go_sem]) rfl ⟨rfl, H3.out, HB1.out.trans ((Below.refl _ _).drew.trans HB3.out)⟩
end Go.Proofs.YtbbgdbnjmonbgaaGreatDoor

set_option linter.unusedVariables false
set_option maxRecDepth 100000
namespace Go.Proofs.YtbbgdbnjmonbgaaGreatDoor
open Go.RowKit
set_option maxHeartbeats 400000 in
theorem bequal_any {w : World} {p q : Option Addr} {l m : List UInt8} (hl : Bs w p l) (hm : Bs w q m) {n k c d : Nat} (hn : n = l.length) (hk : k = m.length) :
  Calls Tryz.prog 112 #[.slice p n c, .slice q k d] w fun e w' => e = .returned (.bool (decide (l = m))) ∧ w' = w := by
 have h1 := str_of hl (c := c) hn
 have h2 := str_of hm (c := d) hk
 clear hl hm hn hk
 go_enter Tryz.func112, Tryz.ntmps112
 go_wp2
 go_ret
 refine ⟨ret_bool ?_, rfl⟩
 by_cases h : l = m <;> simp [h]
def PClonePost (w : World) (l : List UInt8) (e : Ending) (w' : World) : Prop := ∃ v, e = .returned v ∧ Own w' w.heap.size v l ∧ Below w.heap.size w w'
set_option maxHeartbeats 400000 in
theorem pclone_any {w : World} {a : Addr} {l : List UInt8} (hl : Bs w (some a) l) {n c : Nat} (hn : n = l.length) (hb : n ≤ 1000000) :
  Calls Tryz.prog 130 #[.slice (some a) n c] w (PClonePost w l) := by
 have HL := Hq hl
 have HN := Hq hn
 have HO : Hid (Own (w.alloc (.cells #[] 5)) w.heap.size (.slice (.some ⟨w.heap.size, 0, none⟩) 0 0) []) := Hq (Own.empty w _ (Nat.le_refl _))
 clear hl hn
 have hnil : ∀ w : World, (binOp .eql 33 (.slice (some a) n c) (.slice none 0 0)).run Tryz.prog w = .ok (.bool false) w := fun w => by kernel_rfl
 go_enter Tryz.func130, Tryz.ntmps130
 go_wp2_with (at_builtin; refine app_own rfl (.tmp 5) (.tmp 6) rfl rfl HO.out HN.out rfl (HL.out.alloc _) (fun h => by cases h) (by have := HN.out; simp; omega) (by simp) ?_; intro v2 w2 ho2 hb2; have HO2 := Hq ho2; have HB2 := Hq (((Below.refl w.heap.size w).alloc (Nat.le_refl _) _).trans hb2); clear ho2 hb2)
 go_ret
 exact ⟨_, rfl, HO2.out, HB2.out⟩
end Go.Proofs.YtbbgdbnjmonbgaaGreatDoor

set_option linter.unusedVariables false
set_option maxRecDepth 100000
namespace Go.Proofs.YtbbgdbnjmonbgaaGreatDoor
open Go.RowKit
theorem Bs.part {w : World} {b o : Nat} {l : List UInt8} (h : Bs w (some ⟨b, o, none⟩) l) (a n : Nat) : Bs w (some ⟨b, o + a, none⟩) ((l.drop a).take n) := by
 refine Bs.take ?_ n
 intro hne
 obtain ⟨b', o', hp, hc⟩ := h (by intro e; subst e; simp at hne)
 simp only [Option.some.injEq, Addr.mk.injEq, and_true] at hp
 obtain ⟨rfl, rfl⟩ := hp
 exact Bs.drop hc a hne
def OpenPost (w : World) (l : List UInt8) (no : Int) (e : Ending) (w' : World) : Prop :=
 (openE l no ≠ 0 ∧ e = .returned (.tuple #[.int .u8 0, .int .i64 0, .slice none 0 0, .int .i64 (openE l no : Nat)]) ∧ Below w.heap.size w w') ∨
 (openE l no = 0 ∧ ∃ u v, l[0]? = some u ∧ e = .returned (.tuple #[.int .u8 (u.toNat : Int), .int .i64 (fGen l : Nat), v, .int .i64 0]) ∧ Own w' w.heap.size v (fIn l) ∧ Below w.heap.size w w')
theorem get_is {w : World} {b o : Nat} {l : List UInt8} (h : Bs w (some ⟨b, o, none⟩) l) (a k : Nat) (hk : k ≤ 8) (hl : a + k ≤ l.length) : ∀ n c, Calls Tryz.prog 129 #[.slice (some ⟨b, o + a, none⟩) k c] (w.drewN n) fun e w' => e = .returned (.int .u64 (leV ((l.drop a).take k) : Nat)) ∧ w' = w.drewN n := fun n c =>
 (get_any ((h.part a k).drewN n) (sub_length hl).symm hk).mono fun e w' ⟨h1, h2⟩ => ⟨h1, h2.symm⟩
theorem sum_is {w : World} (hT : Tab w) {b o : Nat} {l : List UInt8} (h : Bs w (some ⟨b, o, none⟩) l) (k : Nat) (hk : k ≤ 1000000) (hl : k ≤ l.length) : ∀ n c, Calls Tryz.prog 128 #[.slice (some ⟨b, o, none⟩) k c] (w.drewN n) fun e w' => e = .returned (.int .u32 (sumV (l.take k) : Nat)) ∧ w' = w.drewN n := fun n c =>
 (sum_any (hT.below hT.lt (belowN (Below.refl w.heap.size w) n)) ((h.take k).drewN n) (by rw [List.length_take]; omega) (by omega)).mono fun e w' ⟨h1, h2⟩ => ⟨h1, h2.symm⟩
set_option maxHeartbeats 800000 in
theorem open_long {w : World} {p : Option Addr} {l : List UInt8} {n c : Nat} (hn : n = l.length) (no : Int) (h512 : n ≠ 512) (hn63 : n ≤ 9223372036854775807) :
  Calls Tryz.prog 110 #[.slice p n c, .int .i64 no] w (OpenPost w l no) := by
 have HE : Hid (openE l no = 11) := Hq (by unfold openE; rw [if_pos (by omega)])
 have hb : ((n : Int) == 512) = false := by rw [beq_eq_false_iff_ne]; omega
 clear hn
 go_enter Tryz.func110, Tryz.ntmps110
 go_wp2
 exact bodyPost_ret (v := .tuple #[.int .u8 0, .int .i64 0, .slice none 0 0, .int .i64 11]) (by simp [results, Tryz.results110, go_sem]) rfl (.inl ⟨by rw [HE.out]; decide, by rw [HE.out]; rfl, Below.refl _ _⟩)
set_option maxHeartbeats 1600000 in
theorem open_torn {w : World} (hT : Tab w) {b o : Nat} {l : List UInt8} (hl : Bs w (some ⟨b, o, none⟩) l) {c : Nat} (hn : 512 = l.length) (hc : 512 ≤ c) (no : Int) (hf : ¬ Fits l) :
  Calls Tryz.prog 110 #[.slice (some ⟨b, o, none⟩) 512 c, .int .i64 no] w (OpenPost w l no) := by
 have hne : ¬ c = 508 := by omega
 have HE : Hid (openE l no = 12) := Hq (by unfold openE; rw [if_neg (by omega), if_pos hf])
 have HG := Hq (get_is hl 508 4 (by omega) (by omega))
 have HS := Hq (sum_is hT hl 508 (by omega) (by omega))
 have hd : (l.drop 508).take 4 = l.drop 508 := List.take_of_length_le (by rw [List.length_drop]; omega)
 have hx := sumV_lt (l.take 508)
 have hb : (((leV ((l.drop 508).take 4) : Nat) : Int) == ((sumV (l.take 508) : Nat) : Int)) = false := by
  rw [beq_eq_false_iff_ne, hd]
  intro h
  exact hf (by unfold Fits; omega)
 clear hl hd hf hn
 generalize leV ((l.drop 508).take 4) = x at *
 generalize sumV (l.take 508) = y at *
 go_enter Tryz.func110, Tryz.ntmps110
 go_wp2_with fail
 go_quiet (first | (go_at_call 129; with_reducible exact Calls.quiet_of_same (HG.out _ _)) | (go_at_call 128; with_reducible exact Calls.quiet_of_same (HS.out _ _)))
 go_wp2
 exact bodyPost_ret (v := .tuple #[.int .u8 0, .int .i64 0, .slice none 0 0, .int .i64 12]) (by simp [results, Tryz.results110, go_sem]) rfl (.inl ⟨by rw [HE.out]; decide, by rw [HE.out]; rfl, belowN (Below.refl _ _) _⟩)
theorem wrap_g {g : Nat} (h : g < 18446744073709551616) : (g ≤ 1152921504606846976 → wrap64 (g : Int) = (g : Int)) ∧ (1152921504606846976 < g → wrap64 (g : Int) < 0 ∨ 1152921504606846976 < wrap64 (g : Int)) := by
 unfold wrap64
 constructor <;> intro h1 <;> omega
set_option maxHeartbeats 3200000 in
theorem open_fits {w : World} (hT : Tab w) {b o : Nat} {l : List UInt8} (hl : Bs w (some ⟨b, o, none⟩) l) {c : Nat} (hn : 512 = l.length) (hc : 512 ≤ c) (hc63 : c ≤ 9223372036854775807) (no : Int) (hf : Fits l) :
  Calls Tryz.prog 110 #[.slice (some ⟨b, o, none⟩) 512 c, .int .i64 no] w (OpenPost w l no) := by
 have hne : ¬ c = 508 := by omega
 have hne13 : ¬ c = 13 := by omega
 have hne5 : ¬ c = 5 := by omega
 have hne15 : ¬ c = 15 := by omega
 have hn' : l.length = 512 := hn.symm
 have HE : Hid (¬ Right l no → openE l no = 11) := Hq fun h => by unfold openE; rw [if_neg (by omega), if_neg (by simpa using hf), if_neg h]
 have HE0 : Hid (Right l no → openE l no = 0) := Hq fun h => openE_zero.2 ⟨hn', hf, h⟩
 have HG : Hid (∀ n c, Calls Tryz.prog 129 #[.slice (some ⟨b, o + 508, none⟩) 4 c] (w.drewN n) fun e w' => e = .returned (.int .u64 (sumV (l.take 508) : Nat)) ∧ w' = w.drewN n) := Hq (by
  have h1 := get_is hl 508 4 (by omega) (by omega)
  have hd : (l.drop 508).take 4 = l.drop 508 := List.take_of_length_le (by rw [List.length_drop]; omega)
  rw [hd, show leV (l.drop 508) = sumV (l.take 508) from hf] at h1
  exact h1)
 have HS := Hq (sum_is hT hl 508 (by omega) (by omega))
 have hx := sumV_lt (l.take 508)
 obtain ⟨u, hu⟩ : ∃ u, l[0]? = some u := ⟨l[0], List.getElem?_eq_getElem (by omega)⟩
 have HL := Hq hl
 have HT := Hq hT
 have HN := Hq hn'
 have hsz := fLen_lt hn'
 have hgn := fGen_lt hn'
 clear hl hT hf hn
 generalize sumV (l.take 508) = x at *
 obtain ⟨sz, hsz0⟩ : ∃ sz, sz = fLen l := ⟨_, rfl⟩
 obtain ⟨g, hg0⟩ : ∃ g, g = fGen l := ⟨_, rfl⟩
 rw [← hsz0] at hsz
 rw [← hg0] at hgn
 have HSZ := Hq hsz0
 have HGN := Hq hg0
 have HU := Hq hu
 clear hsz0 hg0 hu hn'
 go_enter Tryz.func110, Tryz.ntmps110
 go_wp2_with fail
 go_quiet (first | (go_at_call 129; with_reducible exact Calls.quiet_of_same (HG.out _ _)) | (go_at_call 128; with_reducible exact Calls.quiet_of_same (HS.out _ _)))
 obtain ⟨w1, hw1⟩ : ∃ w1, w1 = w.drewN nq := ⟨_, rfl⟩
 have HB1 : Hid (Below w.heap.size w w1) := Hq (by rw [hw1]; exact belowN (Below.refl _ _) _)
 rw [← hw1]
 clear hw1
 have HL1 : Hid (Bs w1 (some ⟨b, o, none⟩) l) := Hq (HL.out.below HB1.out)
 have HG2 : Hid (∀ c, Calls Tryz.prog 129 #[.slice (some ⟨b, o + 13, none⟩) 2 c] w1 fun e w' => e = .returned (.int .u64 (sz : Nat)) ∧ w1 = w') := Hq (fun c => by rw [HSZ.out]; exact get_any (HL1.out.part 13 2) (sub_length (by rw [HN.out]; omega)).symm (by omega))
 have HG3 : Hid (∀ n c, Calls Tryz.prog 129 #[.slice (some ⟨b, o + 5, none⟩) 8 c] (w1.drewN n) fun e w' => e = .returned (.int .u64 (g : Nat)) ∧ w' = w1.drewN n) := Hq (by rw [HGN.out]; exact get_is HL1.out 5 8 (by omega) (by rw [HN.out]; omega))
 have hcell : ∀ n, (w1.drewN n).cell? ⟨b, o, none⟩ = some (.int .u8 (u.toNat : Int)) := fun n => by
  have h1 := (HL1.out.drewN n).cell (i := 0) (by rw [HN.out]; omega)
  obtain ⟨h2, h3⟩ := List.getElem?_eq_some_iff.1 HU.out
  rw [h3] at h1
  exact h1
 clear HG HS
 go_wp2_with fail
 with_reducible refine (HG2.out _).mono ?_
 rintro e w2 ⟨rfl, rfl⟩
 by_cases h493 : sz ≤ 493
 ·
  have k1 : (13 : Int) ≤ (c : Int) := by omega
  have k2 : 13 ≤ c := by omega
  have k3 : (15 : Int) + (sz : Int) ≤ (c : Int) := by omega
  have k4 : 15 + sz ≤ c := by omega
  have k5 : IntKind.u64.wrap (15 + (sz : Int)) = ((15 + sz : Nat) : Int) := by rw [IntKind.wrap_u64]; omega
  have k6 : ((15 + sz : Nat) : Int) ≤ (c : Int) := by omega
  go_wp2_with fail
  go_quiet (first | (go_at_call 129; with_reducible exact Calls.quiet_of_same (HG3.out _ _)))
  obtain ⟨w2, hw2⟩ : ∃ w2, w2 = w1.drewN nq := ⟨_, rfl⟩
  have HB2 : Hid (Below w.heap.size w w2) := Hq (by rw [hw2]; exact belowN HB1.out _)
  rw [← hw2]
  have HL2 : Hid (Bs w2 (some ⟨b, o, none⟩) l) := Hq (HL.out.below HB2.out)
  clear hw2 hcell HG2 HG3 HL1 HB1 hx
  rw [show 15 + sz - 15 = sz from by omega]
  obtain ⟨gi, hgi⟩ : ∃ gi, gi = wrap64 (g : Int) := ⟨_, rfl⟩
  rw [← hgi]
  have HI : Hid ((g ≤ 1152921504606846976 → gi = (g : Int)) ∧ (1152921504606846976 < g → gi < 0 ∨ 1152921504606846976 < gi)) := Hq (by rw [hgi]; exact wrap_g hgn)
  clear hgi k1 k2 k3 k4 k5 k6
  by_cases hz : sealE no gi sz = 0
  ·
   have h3 : 0 ≤ no ∧ no < 4096 ∧ 0 ≤ gi ∧ gi ≤ 1152921504606846976 := by
    unfold sealE at hz
    split at hz
    ·
     cases hz
    ·
     omega
   have hgg : g ≤ 1152921504606846976 := by have := HI.out; omega
   obtain rfl : gi = (g : Int) := HI.out.1 hgg
   obtain ⟨n, rfl⟩ := Int.eq_ofNat_of_zero_le h3.1
   have hn96 : n < 4096 := by omega
   have hfin : Bs w2 (some ⟨b, o + 15, none⟩) (fIn l) := by
    have := HL2.out.part 15 sz
    rw [HSZ.out] at this
    exact this
   have hfl : sz = (fIn l).length := by rw [HSZ.out]; exact (fIn_length HN.out (by rw [← HSZ.out]; exact h493)).symm
   have HC := Hq (lay_ok (w := w2) u (no := n) (gen := g) hn96 hgg hfin (c := c - 15) hfl (by omega) (by omega) h493)
   clear h3 hz HI
   have hu0 : u = l[0]'(by rw [HN.out]; omega) := by
    obtain ⟨h2, h3⟩ := List.getElem?_eq_some_iff.1 HU.out
    exact h3.symm
   have HA : Hid (headB u n g (fIn l) = l.take 508 ↔ Right l (n : Int)) := Hq (by
    rw [hu0, HGN.out, again_iff HN.out (by omega) (by rw [← HSZ.out]; exact h493)]
    unfold Right
    rw [← HGN.out, ← HSZ.out]
    constructor
    ·
     rintro ⟨h1, h2⟩
     exact ⟨by omega, by omega, by omega, by omega, h493, h2⟩
    ·
     rintro ⟨_, _, h1, _, _, h2⟩
     exact ⟨by omega, h2⟩)
   have hlt := layB_take (kind := u) (no := n) (gen := g) (l := fIn l) (by omega)
   have hll := layB_length (kind := u) (no := n) (gen := g) (l := fIn l) (by omega)
   have HFI := Hq hfin
   have HFL := Hq hfl
   have HLT := Hq hlt
   have HLL := Hq hll
   clear hfin hfl hu0 hlt hll
   generalize layB u n g (fIn l) = y at *
   generalize headB u n g (fIn l) = h at *
   go_wp2_with fail
   with_reducible refine HC.out.mono ?_
   rintro e w3 ⟨rfl, h3, hb3⟩
   have HB3 := Hq hb3
   have H3 := Hq h3
   have HL3 : Hid (Bs w3 (some ⟨b, o, none⟩) l) := Hq (HL2.out.below HB3.out)
   have HF3 : Hid (Bs w3 (some ⟨b, o + 15, none⟩) (fIn l)) := Hq (HFI.out.below HB3.out)
   clear h3 hb3 HC
   have HQ : Hid (∀ n c d, Calls Tryz.prog 112 #[.slice (some ⟨w2.heap.size, 0, none⟩) 508 c, .slice (some ⟨b, o, none⟩) 508 d] (w3.drewN n) fun e w' => e = .returned (.bool (decide (h = l.take 508))) ∧ w' = w3.drewN n) := Hq fun n c d => by
    have h1 := (H3.out.part 0 508).drewN n
    rw [List.drop_zero, HLT.out] at h1
    have hh : 508 = h.length := by rw [← HLT.out, List.length_take, HLL.out]; rfl
    exact bequal_any h1 ((HL3.out.take 508).drewN n) hh (by rw [List.length_take, HN.out]; rfl)
   by_cases hR : Right l (n : Int)
   ·
    have HE1 := Hq (HE0.out hR)
    rw [decide_eq_true (HA.out.2 hR)] at HQ
    clear hR HE HE0
    go_wp2_with fail
    go_quiet (first | (go_at_call 112; with_reducible exact Calls.quiet_of_same (HQ.out _ _ _)))
    obtain ⟨w4, hw4⟩ : ∃ w4, w4 = w3.drewN nq := ⟨_, rfl⟩
    have HB4 : Hid (Below w.heap.size w w4) := Hq (by rw [hw4]; exact belowN (HB2.out.trans (HB3.out.mono HB2.out.size)) _)
    have hf4 : Bs w4 (some ⟨b, o + 15, none⟩) (fIn l) := by rw [hw4]; exact HF3.out.drewN _
    rw [← hw4]
    clear hw4
    have HC := Hq (pclone_any (w := w4) hf4 HFL.out (c := c - 15) (by omega))
    go_wp2_with fail
    with_reducible refine HC.out.mono ?_
    rintro e w5 ⟨v5, rfl, h5, hb5⟩
    have H5 : Hid (Own w5 w.heap.size v5 (fIn l)) := Hq (h5.le HB4.out.size)
    have HB5 : Hid (Below w.heap.size w w5) := Hq (HB4.out.trans (hb5.mono HB4.out.size))
    clear h5 hb5
    go_wp2
    exact bodyPost_ret (v := .tuple #[.int .u8 (u.toNat : Int), .int .i64 (g : Int), v5, .int .i64 0]) (by simp [results, Tryz.results110, go_sem]) rfl (.inr ⟨HE1.out, u, v5, HU.out, by rw [HGN.out], H5.out, HB5.out⟩)
   ·
    have HE1 := Hq (HE.out hR)
    rw [decide_eq_false (fun h1 => hR (HA.out.1 h1))] at HQ
    clear hR HE HE0
    go_wp2_with fail
    go_quiet (first | (go_at_call 112; with_reducible exact Calls.quiet_of_same (HQ.out _ _ _)))
    go_wp2
    exact bodyPost_ret (v := .tuple #[.int .u8 0, .int .i64 0, .slice none 0 0, .int .i64 11]) (by simp [results, Tryz.results110, go_sem]) rfl (.inl ⟨by rw [HE1.out]; decide, by rw [HE1.out]; rfl, belowN (HB2.out.trans (HB3.out.mono HB2.out.size)) _⟩)
  ·
   have hz2 : 2 = sealE no gi sz := by
    unfold sealE at hz ⊢
    split
    ·
     rfl
    ·
     rename_i h1
     rw [if_neg h1, if_neg (by omega)] at hz
     exact absurd rfl hz
   have HE1 : Hid (openE l no = 11) := Hq (HE.out fun h => by
    obtain ⟨r1, r2, r3, r4, _⟩ := h
    rw [← HGN.out] at r4
    have := HI.out.1 r4
    exact hz (by unfold sealE; rw [if_neg (by omega), if_neg (by omega)]))
   have HC := Hq (lay_bad (w := w2) (u.toNat : Int) (p := some ⟨b, o + 15, none⟩) (c := c - 15) hz2 (by decide) (by omega))
   clear hz hz2 HI HE HE0
   go_wp2_with fail
   with_reducible refine HC.out.mono ?_
   rintro e w3 ⟨rfl, rfl⟩
   go_wp2_with fail
   go_quiet (fail)
   go_wp2
   exact bodyPost_ret (v := .tuple #[.int .u8 0, .int .i64 0, .slice none 0 0, .int .i64 11]) (by simp [results, Tryz.results110, go_sem]) rfl (.inl ⟨by rw [HE1.out]; decide, by rw [HE1.out]; rfl, belowN HB2.out _⟩)
 ·
  have HE1 : Hid (openE l no = 11) := Hq (HE.out fun h => h493 (by rw [HSZ.out]; exact h.2.2.2.2.1))
  go_wp2
  exact bodyPost_ret (v := .tuple #[.int .u8 0, .int .i64 0, .slice none 0 0, .int .i64 11]) (by simp [results, Tryz.results110, go_sem]) rfl (.inl ⟨by rw [HE1.out]; decide, by rw [HE1.out]; rfl, HB1.out⟩)
end Go.Proofs.YtbbgdbnjmonbgaaGreatDoor

set_option linter.unusedVariables false
set_option maxRecDepth 100000
namespace Go.Proofs.YtbbgdbnjmonbgaaGreatDoor
open Go.RowKit
theorem pOpen_any {w : World} (hT : Tab w) {p : Option Addr} {l : List UInt8} (hl : Bs w p l) {n c : Nat} (hn : n = l.length) (hnc : n ≤ c) (hc : c ≤ 9223372036854775807) (no : Int) :
  Calls Tryz.prog 110 #[.slice p n c, .int .i64 no] w (OpenPost w l no) := by
 by_cases h : n = 512
 ·
  subst h
  obtain ⟨b, o, rfl, _, _⟩ := hl.at (by omega)
  by_cases hf : Fits l
  ·
   exact open_fits hT hl hn hnc hc no hf
  ·
   exact open_torn hT hl hn hnc no hf
 ·
  exact open_long hn no h (by omega)
end Go.Proofs.YtbbgdbnjmonbgaaGreatDoor

