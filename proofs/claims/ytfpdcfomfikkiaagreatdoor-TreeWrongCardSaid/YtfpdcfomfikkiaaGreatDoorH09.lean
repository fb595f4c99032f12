/-
  A block of bytes that is known whole: make, copy into a part of it, a byte that is stored.
  page.get, page.put, and the reference's number and little: contracts for the walks.
  page.lay and page.Seal: contracts for the walks.
  page.Seal: contracts for the walks.
  bytes.Equal, bytes.Clone; page.Sum, page.get and the reference's at slices of any capacity, as calls that change nothing: contracts for the walks.
-/
import Derived.Test.YtfpdcfomfikkiaaGreatDoorH00
import Derived.Test.YtfpdcfomfikkiaaGreatDoorH08
import Derived.Test.YtfpdcfomfikkiaaGreatDoorH01
import Derived.Laws.CopyOwn
import Derived.Deep.OwnRows
import Derived.Laws.Bits64b
import Derived.Laws.BitsAllLaws
import Derived.Below
import Derived.BigQuiet
import Derived.Deep.RegionHeld3
import Derived.Outline
set_option linter.unusedVariables false
set_option maxRecDepth 100000
namespace Go.Proofs.YtfpdcfomfikkiaaGreatDoor
open Go.RowKit

/-- Block g is known whole: the bytes l. -/
def PSec (w : World) (g : Nat) (l : List UInt8) : Prop := w.heap[g]? = some (.cells (u8s l).toArray 5 (0, 0))

theorem PSec.lt {w : World} {g : Nat} {l : List UInt8} (h : PSec w g l) : g < w.heap.size := (Array.getElem?_eq_some_iff.1 h).1
theorem PSec.below {w w' : World} {g : Nat} {l : List UInt8} (h : PSec w g l) {B : Nat} (hB : g < B) (hb : Below B w w') : PSec w' g l := by
  unfold PSec
  rw [hb.block g hB]
  exact h
theorem PSec.bs {w : World} {g : Nat} {l : List UInt8} (h : PSec w g l) : Bs w (some ⟨g, 0, none⟩) l := Bs.of_block h rfl
/-- A part of it. -/
theorem PSec.part {w : World} {g : Nat} {l : List UInt8} (h : PSec w g l) (a n : Nat) : Bs w (some ⟨g, a, none⟩) ((l.drop a).take n) := by
  refine Bs.take ?_ n
  have h1 : ∀ i u, l[i]? = some u → w.cell? ⟨g, 0 + i, none⟩ = some (.int .u8 (u.toNat : Int)) := by
    intro i u hi
    rw [Joins.cell_of_block h, Nat.zero_add]
    simp [u8s, hi]
  have := Bs.drop h1 a
  rwa [Nat.zero_add] at this
theorem PSec.own {w : World} {B g : Nat} {l : List UInt8} (h : PSec w g l) (hB : B ≤ g) {n : Nat} (hn : n = l.length) (hm : l.length ≤ 140737488355328) : Own w B (.slice (some ⟨g, 0, none⟩) n n) l := by
  subst hn
  refine ⟨by simp [u8s], .inr ⟨g, l.length, (u8s l).toArray, rfl, hB, h, Nat.le_refl _, by simp only [maxLen]; omega, by simp [u8s], by rw [List.take_of_length_le (by simp [u8s])]⟩⟩

theorem pmadeCells_u8 (n : Nat) : madeCells #[Value.int .u8 0] n = (u8s (List.replicate n 0)).toArray := by
  apply Array.ext
  · simp [madeCells, u8s]
  · intro i h1 h2
    simp [madeCells, u8s, Nat.mod_one]

/-- make([]byte, 512) -/
theorem pmake_u8 {w : World} {ops : Array Oper} {rest : List Oper} {o : Oper} {a : Act} {Q : Exit → Act → World → Prop} (hg : o.guard = none) (l c : Operand) (hop : o.op = Op.makeSlice 22 l c)
    (hl : a.eval l = .int .i64 512) (hc : a.eval c = .int .i64 512)
    (hK : ∀ w', PSec w' w.heap.size (List.replicate 512 0) → Below w.heap.size w w' → w'.heap.size = w.heap.size + 1 → wpList Tryz.prog ops Q rest (a.put o.dst (.slice (some ⟨w.heap.size, 0, none⟩) 512 512)) w') :
    wpList Tryz.prog ops Q (o :: rest) a w := by
  obtain ⟨i, hi, hz0, hz1, hz2⟩ := info_parts info_u8
  refine wpList_make_row w hg l c _ hop 5 i (.int .u8 0) Tryz.underlying22 hi hz0 hz1 rfl .i64 .i64 512 hl hc (by rw [hz2]; decide) (by decide) ?_
  refine hK _ ?_ ((Below.refl _ _).alloc (Nat.le_refl _) _) (by simp)
  rw [pmadeCells_u8]
  exact heap_alloc_new w _

/-- Bytes laid over a part. -/
def splL (l : List UInt8) (o : Nat) (m : List UInt8) : List UInt8 := l.take o ++ m ++ l.drop (o + m.length)
theorem splL_length {l m : List UInt8} {o : Nat} (h : o + m.length ≤ l.length) : (splL l o m).length = l.length := by
  simp only [splL, List.length_append, List.length_take, List.length_drop]
  omega
theorem psplice_u8 (l m : List UInt8) (o : Nat) : splice (u8s l) o (u8s m) = u8s (splL l o m) := by
  simp [splice, u8s, splL]

/-- copy(own[o:o+n], bytes): the bytes lie elsewhere. -/
theorem pcopy_u8 {w w0 : World} {ops : Array Oper} {rest : List Oper} {o : Oper} {a : Act} {Q : Exit → Act → World → Prop} (hgd : o.guard = none) (d s : Operand)
    (ho : o.op = .call { callee := .builtin .copy, args := #[d, s], argTypes := #[22, 22] })
    {g off n c : Nat} {l : List UInt8} (hd : a.eval d = .slice (some ⟨g, off, none⟩) n c) (hg : PSec w g l) (hn : off + n ≤ l.length)
    {p : Option Addr} {k k' : Nat} {m : List UInt8} (hs : a.eval s = .slice p k k') (hm : Bs w p m) (hml : m.length = min k n) {B : Nat} (hb : Below B w0 w) (hB : B ≤ g)
    (h : ∀ w', PSec w' g (splL l off m) → Below B w0 w' → wpList Tryz.prog ops Q rest (a.put o.dst (goInt m.length)) w') : wpList Tryz.prog ops Q (o :: rest) a w := by
  obtain ⟨i, hi, hz0, hz1, hz2⟩ := info_parts info_u8
  refine wpList_copy_splice hgd d s _ _ ho 5 Tryz.underlying22 (by rw [hi]; simp [hz1]) _ _ _ _ _ _ hd hs g off (u8s l) 5 hg (u8s m) (by rw [u8s_length]; exact hml) ?_ (by rw [u8s_length, u8s_length]; omega) (u8s_oneCell m) B w0 hb hB ?_
  · intro h0
    rw [u8s_length] at h0
    obtain ⟨b, o, rfl, _, hc⟩ := hm.at h0
    refine ⟨rfl, _, rfl, fun j v hj => ?_⟩
    obtain ⟨u, hu, rfl⟩ := u8s_get hj
    rw [Addr.add_lit]
    obtain ⟨hj', rfl⟩ := List.getElem?_eq_some_iff.1 hu
    exact hc j hj'
  · intro w' h1 h2
    rw [u8s_length]
    refine h w' ?_ h2
    have h3 := h1.out
    rw [psplice_u8] at h3
    exact h3

end Go.Proofs.YtfpdcfomfikkiaaGreatDoor

set_option linter.unusedVariables false
set_option maxRecDepth 100000
namespace Go.Proofs.YtfpdcfomfikkiaaGreatDoor
open Go.RowKit

theorem leV_snoc {l : List UInt8} {j : Nat} (hj : j < l.length) : leV (l.take (j + 1)) = leV (l.take j) + 256 ^ j * l[j].toNat := by
  rw [List.take_add_one, List.getElem?_eq_getElem hj, leV_append, List.length_take, Nat.min_eq_left (by omega)]
  simp [leV]
theorem pow8 (j : Nat) : (256 : Nat) ^ j = 2 ^ (8 * j) := by rw [Nat.pow_mul]
theorem or_low {s d j : Nat} (hs : s < 256 ^ j) (hd : d < 256) (hj : j < 8) : bits .or .u64 (s : Int) (IntKind.u64.wrap ((d : Int) * 2 ^ (8 * j))) = ((s + 256 ^ j * d : Nat) : Int) := by
  have h0 : (256 : Nat) ^ j ≤ 256 ^ 7 := Nat.pow_le_pow_right (by decide) (by omega)
  have h1 : (256 : Nat) ^ 7 = 72057594037927936 := by decide
  have h2 : 256 ^ j * d ≤ 256 ^ 7 * 255 := Nat.mul_le_mul h0 (by omega)
  have h3 : ((d : Int) * 2 ^ (8 * j)) = ((256 ^ j * d : Nat) : Int) := by
    rw [pow8, Int.natCast_mul, Int.natCast_pow, Int.mul_comm]
    rfl
  have h4 := Nat.two_pow_add_eq_or_of_lt (i := 8 * j) (b := s) (by rw [← pow8]; exact hs) d
  rw [h3, IntKind.wrap_u64, Int.emod_eq_of_lt (by omega) (by omega), bits_or_u64_nat s (256 ^ j * d) (by omega) (by omega), Nat.or_comm, pow8, ← h4, Nat.add_comm]

set_option maxHeartbeats 800000 in
theorem get_any {w : World} {p : Option Addr} {l : List UInt8} (hl : Bs w p l) {n c : Nat} (hn : n = l.length) (h8 : n ≤ 8) :
    Calls Tryz.prog 107 #[.slice p n c] w fun e w' => e = .returned (.int .u64 (leV l : Nat)) ∧ w = w' := by
  have HN := Lib.hid hn
  have HL := Lib.hid hl
  clear hl hn
  go_enter Tryz.func107, Tryz.ntmps107
  go_wp2
  go_loop [3, 8] (fun s i => ∃ j : Nat, i = .int .i64 j ∧ j ≤ n ∧ s = .int .u64 (leV (l.take j) : Nat)) (fun _ i => n - (intOf i).toNat)
  case atStart => exact ⟨0, rfl, by omega, rfl⟩
  case round =>
    obtain ⟨j, rfl, hj, rfl⟩ := hrel
    by_cases hjn : j < n
    · have hjl : j < l.length := by have := HN.out; omega
      obtain ⟨b, o, rfl, _, hcells⟩ := HL.out.at (by omega)
      have hx := hcells j hjl
      have HR := Lib.hid (leV_snoc hjl)
      have hcl : l[j].toNat < 256 := l[j].toNat_lt
      have hlt := leV_lt (l.take j)
      rw [List.length_take, Nat.min_eq_left (by omega)] at hlt
      have HQ := Lib.hid (or_low hlt hcl (by omega))
      clear hcells hlt
      generalize leV (l.take j) = s at *
      generalize l[j].toNat = d at *
      go_wp2
      go_round
      case rel => exact ⟨j + 1, by go_num, by omega, by rw [HR.out, HQ.out]⟩
      case measure => simp [intOf]; omega
    · have HJ : Hid (j = l.length) := Lib.hid (by have := HN.out; omega)
      have HR : Hid (leV (l.take j) = leV l) := Lib.hid (by rw [HJ.out, List.take_length])
      generalize leV (l.take j) = s at *
      go_wp2
      go_ret
      refine ⟨ret_int ?_, rfl⟩
      rw [HR.out]

theorem leB_snoc (j x : Nat) : leB (j + 1) x = leB j x ++ [UInt8.ofNat (x / 256 ^ j)] := by
  induction j generalizing x with
  | zero => simp [leB]
  | succ j ih => rw [leB, ih, leB, List.cons_append, Nat.div_div_eq_div_mul, Nat.pow_succ, Nat.mul_comm 256]

theorem put_cells {x : Nat} (hx : x < 18446744073709551616) : #[Value.int .u8 ((x : Int) % 256), .int .u8 ((x : Int) / 256 % 256), .int .u8 ((x : Int) / 65536 % 256), .int .u8 ((x : Int) / 16777216 % 256), .int .u8 ((x : Int) / 4294967296 % 256), .int .u8 ((x : Int) / 1099511627776 % 256), .int .u8 ((x : Int) / 281474976710656 % 256), .int .u8 ((x : Int) / 72057594037927936)] = (u8s (leB 8 x)).toArray := by
  simp only [leB, u8s, List.map_cons, List.map_nil, u8_ofNat, Nat.div_div_eq_div_mul]
  congr 9
  all_goals congr 1
  all_goals first | omega | (congr 1; omega)

def PutPost (w : World) (g B : Nat) (l : List UInt8) (e : Ending) (w' : World) : Prop := e = .returned (.tuple #[]) ∧ PSec w' g l ∧ Below B w w'

set_option maxHeartbeats 800000 in
theorem put_any {w : World} {g o n c B : Nat} {l : List UInt8} (hS : PSec w g l) (hB : B ≤ g) (hn : o + n ≤ l.length) (hn8 : n ≤ 8) (hnc : n ≤ c) (hc : c ≤ 9223372036854775807) {x : Nat} (hx : x < 18446744073709551616) :
    Calls Tryz.prog 83 #[.slice (some ⟨g, o, none⟩) n c, .int .u64 (x : Int)] w (PutPost w g B (splL l o (leB n x))) := by
  have HS := Lib.hid hS
  have HN := Lib.hid hn
  clear hS hn
  have HC : Hid (#[Value.int .u8 ((x : Int) % 256), .int .u8 ((x : Int) / 256 % 256), .int .u8 ((x : Int) / 65536 % 256), .int .u8 ((x : Int) / 16777216 % 256), .int .u8 ((x : Int) / 4294967296 % 256), .int .u8 ((x : Int) / 1099511627776 % 256), .int .u8 ((x : Int) / 281474976710656 % 256), .int .u8 ((x : Int) / 72057594037927936)] = (u8s (leB 8 x)).toArray) := Lib.hid (put_cells hx)
  have HT : Hid ((leB 8 x).take n = leB n x) := Lib.hid (leB_take hn8)
  have HM : Hid ((leB n x).length = min 8 n) := Lib.hid (by rw [leB_length]; omega)
  go_enter Tryz.func83, Tryz.ntmps83
  go_wp2_with (refine pcopy_u8 rfl (.tmp 29) (.tmp 30) rfl rfl (HS.out.below HS.out.lt ((Below.refl _ _).alloc (Nat.le_refl _) _)) HN.out rfl (by rw [← HT.out]; exact (Bs.new _ _ _ _ rfl HC.out).take n) HM.out ((Below.refl _ _).alloc (Nat.le_trans hB (Nat.le_of_lt HS.out.lt)) _) hB ?_; intro w2 h2 hb2; have H2 := Lib.hid h2; have HB2 := Lib.hid hb2; clear h2 hb2)
  exact bodyPost_ret (v := .tuple #[]) (by simp [results, Tryz.results83, go_sem]) rfl ⟨rfl, H2.out, HB2.out⟩

end Go.Proofs.YtfpdcfomfikkiaaGreatDoor

set_option linter.unusedVariables false
set_option maxRecDepth 100000
namespace Go.Proofs.YtfpdcfomfikkiaaGreatDoor
open Go.RowKit

theorem PSec.set {w : World} {g : Nat} {l : List UInt8} (h : PSec w g l) (i : Nat) (u : UInt8) {x : Int} (hx : x = (u.toNat : Int)) : PSec (w.setCell ⟨g, i, none⟩ (.int .u8 x)) g (l.set i u) := by
  subst hx
  unfold PSec
  rw [heap_setCell_same w g i _ _ _ h]
  simp [u8s, List.map_set]
theorem PSec.cell {w : World} {g : Nat} {l : List UInt8} (h : PSec w g l) {i : Nat} (hi : i < l.length) : w.cell? ⟨g, i, none⟩ = some (.int .u8 (l[i].toNat : Int)) := by
  have := h.bs.cell hi
  rwa [Nat.zero_add] at this
theorem PSec.soft {w : World} {g : Nat} {l : List UInt8} (h : PSec w g l) (i : Nat) : w.frozen? ⟨g, i, none⟩ = false := Joins.unfrozen_of_block h i

theorem splL_zeros {a m : List UInt8} {o k r : Nat} (ha : a.length = o) (hm : m.length = k) : splL (a ++ List.replicate (k + r) 0) o m = (a ++ m) ++ List.replicate r 0 := by
  subst ha hm
  unfold splL
  rw [List.take_left' rfl, List.drop_append, List.drop_eq_nil_of_le (by omega), List.drop_replicate]
  simp

/-- A page that has no sum yet. -/
def layB (kind : UInt8) (no gen : Nat) (l : List UInt8) : List UInt8 := headB kind no gen l ++ List.replicate 4 0
theorem lay_steps {kind : UInt8} {no gen : Nat} {l : List UInt8} (h : l.length ≤ 493) :
    splL (splL (splL (splL ((List.replicate 512 0).set 0 kind) 1 (leB 4 no)) 5 (leB 8 gen)) 13 (leB 2 l.length)) 15 l = layB kind no gen l := by
  have e0 : (List.replicate 512 (0 : UInt8)).set 0 kind = [kind] ++ List.replicate (4 + 507) 0 := rfl
  have e1 : (507 : Nat) = 8 + 499 := rfl
  have e2 : (499 : Nat) = 2 + 497 := rfl
  have e3 : (497 : Nat) = l.length + (497 - l.length) := by omega
  rw [e0, splL_zeros (o := 1) rfl (leB_length 4 no), e1, splL_zeros (by simp [leB_length]) (leB_length 8 gen), e2, splL_zeros (by simp [leB_length]) (leB_length 2 _), e3, splL_zeros (by simp [leB_length]) rfl]
  unfold layB headB
  have e4 : 497 - l.length = (493 - l.length) + 4 := by omega
  rw [e4, ← List.replicate_append_replicate]
  simp only [List.append_assoc, List.cons_append, List.nil_append]
theorem layB_length {kind : UInt8} {no gen : Nat} {l : List UInt8} (h : l.length ≤ 493) : (layB kind no gen l).length = 512 := by
  rw [layB, List.length_append, headB_length h, List.length_replicate]

def BadPost (w : World) (x : Nat) (e : Ending) (w' : World) : Prop := e = .returned (.tuple #[.slice none 0 0, .int .i64 (x : Int)]) ∧ w = w'
def LayPost (w : World) (l : List UInt8) (e : Ending) (w' : World) : Prop := e = .returned (.tuple #[.slice (some ⟨w.heap.size, 0, none⟩) 512 512, .int .i64 0]) ∧ PSec w' w.heap.size l ∧ Below w.heap.size w w'

set_option maxHeartbeats 800000 in
theorem lay_bad {w : World} (k : Int) {no gen : Int} {p : Option Addr} {n c : Nat} {z : Nat} (hz : z = sealE no gen n) (hb : z ≠ 0) (hn : n ≤ 9223372036854775807) :
    Calls Tryz.prog 82 #[.int .u8 k, .int .i64 no, .int .i64 gen, .slice p n c] w (BadPost w z) := by
  by_cases h1 : no < 0
  · replace hz : z = 2 := by rw [hz]; unfold sealE; rw [if_pos (by omega)]
    subst hz
    clear hb
    go_enter Tryz.func82, Tryz.ntmps82
    go_wp2
    exact bodyPost_ret (v := .tuple #[.slice none 0 0, .int .i64 2]) (by simp [results, Tryz.results82, go_sem]) rfl ⟨rfl, rfl⟩
  by_cases h2 : 4096 ≤ no
  · replace hz : z = 2 := by rw [hz]; unfold sealE; rw [if_pos (by omega)]
    subst hz
    clear hb
    go_enter Tryz.func82, Tryz.ntmps82
    go_wp2
    exact bodyPost_ret (v := .tuple #[.slice none 0 0, .int .i64 2]) (by simp [results, Tryz.results82, go_sem]) rfl ⟨rfl, rfl⟩
  by_cases h3 : gen < 0
  · replace hz : z = 2 := by rw [hz]; unfold sealE; rw [if_pos (by omega)]
    subst hz
    clear hb
    go_enter Tryz.func82, Tryz.ntmps82
    go_wp2
    exact bodyPost_ret (v := .tuple #[.slice none 0 0, .int .i64 2]) (by simp [results, Tryz.results82, go_sem]) rfl ⟨rfl, rfl⟩
  by_cases h4 : 1152921504606846976 < gen
  · replace hz : z = 2 := by rw [hz]; unfold sealE; rw [if_pos (by omega)]
    subst hz
    clear hb
    go_enter Tryz.func82, Tryz.ntmps82
    go_wp2
    exact bodyPost_ret (v := .tuple #[.slice none 0 0, .int .i64 2]) (by simp [results, Tryz.results82, go_sem]) rfl ⟨rfl, rfl⟩
  by_cases h5 : 493 < n
  · replace hz : z = 3 := by rw [hz]; unfold sealE; rw [if_neg (by omega), if_pos h5]
    subst hz
    clear hb
    go_enter Tryz.func82, Tryz.ntmps82
    go_wp2
    exact bodyPost_ret (v := .tuple #[.slice none 0 0, .int .i64 3]) (by simp [results, Tryz.results82, go_sem]) rfl ⟨rfl, rfl⟩
  · exact absurd (by rw [hz]; unfold sealE; rw [if_neg (by omega), if_neg h5]) hb

set_option maxHeartbeats 1600000 in
theorem lay_ok {w : World} (kind : UInt8) {no gen : Nat} (hno : no < 4096) (hg : gen ≤ 1152921504606846976) {p : Option Addr} {l : List UInt8} (hl : Bs w p l) {n c : Nat} (hn : n = l.length) (hnc : n ≤ c) (hc : c ≤ 9223372036854775807) (h493 : n ≤ 493) :
    Calls Tryz.prog 82 #[.int .u8 (kind.toNat : Int), .int .i64 (no : Int), .int .i64 (gen : Int), .slice p n c] w (LayPost w (layB kind no gen l)) := by
  have HL := Lib.hid hl
  have HN := Lib.hid hn
  have HS := Lib.hid (lay_steps (kind := kind) (no := no) (gen := gen) (l := l) (by omega))
  rw [← hn] at HS
  have g2 : ¬ (4096 : Int) ≤ (no : Int) := by omega
  have g3 : ¬ (1152921504606846976 : Int) < (gen : Int) := by omega
  have HM : Hid (l.length = min n 493) := Lib.hid (by omega)
  have n1 : ((List.replicate 512 (0 : UInt8)).set 0 kind).length = 512 := by simp
  have n2 : (splL ((List.replicate 512 (0 : UInt8)).set 0 kind) 1 (leB 4 no)).length = 512 := by rw [splL_length (by rw [n1, leB_length]; omega), n1]
  have n3 : (splL (splL ((List.replicate 512 (0 : UInt8)).set 0 kind) 1 (leB 4 no)) 5 (leB 8 gen)).length = 512 := by rw [splL_length (by rw [n2, leB_length]; omega), n2]
  have n4 : (splL (splL (splL ((List.replicate 512 (0 : UInt8)).set 0 kind) 1 (leB 4 no)) 5 (leB 8 gen)) 13 (leB 2 n)).length = 512 := by rw [splL_length (by rw [n3, leB_length]; omega), n3]
  have N1 := Lib.hid n1
  have N2 := Lib.hid n2
  have N3 := Lib.hid n3
  have N4 := Lib.hid n4
  have HG : Hid (gen < 18446744073709551616) := Lib.hid (by omega)
  clear hl hn n1 n2 n3 n4 hg
  go_enter Tryz.func82, Tryz.ntmps82
  go_wp2_with (at_make; go_loud (refine pmake_u8 rfl _ _ rfl rfl rfl ?_; intro w1 h1 hb1 hs1; have H1 := Lib.hid h1; have HB1 := Lib.hid hb1; have hg1 : w.heap.size < w1.heap.size := (by omega); have c1 := h1.cell (i := 0) (by simp); have f1 := h1.soft 0; clear h1 hb1 hs1))
  have HB2 := Lib.hid (HB1.out.setCell (p := ⟨w.heap.size, 0, none⟩) (Nat.le_refl _) (.int .u8 (kind.toNat : Int)))
  have HC := Lib.hid (put_any (n := 4) (c := 511) (o := 1) (B := w.heap.size) (H1.out.set 0 kind rfl) (Nat.le_refl _) (by rw [N1.out]; omega) (by omega) (by omega) (by omega) (x := no) (by omega))
  generalize w1.setCell ⟨w.heap.size, 0, none⟩ (.int .u8 (kind.toNat : Int)) = w2 at *
  clear H1 HB1 c1 f1
  with_reducible refine HC.out.mono ?_
  rintro e w3 ⟨rfl, h3, hb3⟩
  have H3 := Lib.hid h3
  have HB3 := Lib.hid (HB2.out.trans hb3)
  clear h3 hb3 HC
  go_wp2_with fail
  have HC := Lib.hid (put_any (n := 8) (c := 507) (o := 5) (B := w.heap.size) H3.out (Nat.le_refl _) (by rw [N2.out]; omega) (by omega) (by omega) (by omega) (x := gen) HG.out)
  with_reducible refine HC.out.mono ?_
  rintro e w4 ⟨rfl, h4, hb4⟩
  have H4 := Lib.hid h4
  have HB4 := Lib.hid (HB3.out.trans hb4)
  clear h4 hb4 HC H3 HB3 HB2
  go_wp2_with fail
  have HC := Lib.hid (put_any (n := 2) (c := 499) (o := 13) (B := w.heap.size) H4.out (Nat.le_refl _) (by rw [N3.out]; omega) (by omega) (by omega) (by omega) (x := n) (by omega))
  with_reducible refine HC.out.mono ?_
  rintro e w5 ⟨rfl, h5, hb5⟩
  have H5 := Lib.hid h5
  have HB5 := Lib.hid (HB4.out.trans hb5)
  clear h5 hb5 HC H4 HB4
  have hl5 : Bs w5 p l := HL.out.below HB5.out
  have HL5 := Lib.hid hl5
  clear hl5
  go_wp2_with (refine pcopy_u8 rfl (.tmp 49) (.tmp 50) rfl rfl H5.out (by rw [N4.out]; omega) rfl HL5.out HM.out HB5.out (Nat.le_refl _) ?_; intro w6 h6 hb6; have H6 := Lib.hid h6; have HB6 := Lib.hid hb6; clear h6 hb6)
  exact bodyPost_ret (v := .tuple #[.slice (some ⟨w.heap.size, 0, none⟩) 512 512, .int .i64 0]) (by simp [results, Tryz.results82, go_sem]) rfl ⟨rfl, by rw [← HS.out]; exact H6.out, HB6.out⟩

end Go.Proofs.YtfpdcfomfikkiaaGreatDoor

set_option linter.unusedVariables false
set_option maxRecDepth 100000
namespace Go.Proofs.YtfpdcfomfikkiaaGreatDoor
open Go.RowKit

theorem layB_take {kind : UInt8} {no gen : Nat} {l : List UInt8} (h : l.length ≤ 493) : (layB kind no gen l).take 508 = headB kind no gen l := by
  rw [layB, List.take_append_of_le_length (by rw [headB_length h]; omega), List.take_of_length_le (by rw [headB_length h]; omega)]
theorem layB_sum {kind : UInt8} {no gen : Nat} {l : List UInt8} (h : l.length ≤ 493) : splL (layB kind no gen l) 508 (leB 4 (sumV (headB kind no gen l))) = pageB kind no gen l := by
  have h1 := splL_zeros (a := headB kind no gen l) (m := leB 4 (sumV (headB kind no gen l))) (k := 4) (r := 0) (headB_length h) (leB_length _ _)
  rw [List.replicate_zero, List.append_nil] at h1
  exact h1

set_option maxHeartbeats 800000 in
theorem seal_bad {w : World} (k : Int) {no gen : Int} {p : Option Addr} {n c : Nat} {z : Nat} (hz : z = sealE no gen n) (hb : z ≠ 0) (hn : n ≤ 9223372036854775807) :
    Calls Tryz.prog 51 #[.int .u8 k, .int .i64 no, .int .i64 gen, .slice p n c] w (BadPost w z) := by
  have HC := Lib.hid (lay_bad (w := w) k (p := p) (c := c) hz hb hn)
  have h3 : z = 2 ∨ z = 3 := by
    unfold sealE at hz
    split at hz
    · exact .inl hz
    · split at hz
      · exact .inr hz
      · exact absurd hz hb
  clear hz hb
  rcases h3 with rfl | rfl
  · go_enter Tryz.func51, Tryz.ntmps51
    go_wp2_with fail
    with_reducible refine HC.out.mono ?_
    rintro e w1 ⟨rfl, rfl⟩
    go_wp2
    exact bodyPost_ret (v := .tuple #[.slice none 0 0, .int .i64 2]) (by simp [results, Tryz.results51, go_sem]) rfl ⟨rfl, rfl⟩
  · go_enter Tryz.func51, Tryz.ntmps51
    go_wp2_with fail
    with_reducible refine HC.out.mono ?_
    rintro e w1 ⟨rfl, rfl⟩
    go_wp2
    exact bodyPost_ret (v := .tuple #[.slice none 0 0, .int .i64 3]) (by simp [results, Tryz.results51, go_sem]) rfl ⟨rfl, rfl⟩

set_option maxHeartbeats 1600000 in
theorem seal_ok {w : World} (hT : Tab w) (kind : UInt8) {no gen : Nat} (hno : no < 4096) (hg : gen ≤ 1152921504606846976) {p : Option Addr} {l : List UInt8} (hl : Bs w p l) {n c : Nat} (hn : n = l.length) (hnc : n ≤ c) (hc : c ≤ 9223372036854775807) (h493 : n ≤ 493) :
    Calls Tryz.prog 51 #[.int .u8 (kind.toNat : Int), .int .i64 (no : Int), .int .i64 (gen : Int), .slice p n c] w (LayPost w (pageB kind no gen l)) := by
  have HC := Lib.hid (lay_ok (w := w) kind hno hg hl (c := c) hn hnc hc h493)
  have hl493 : l.length ≤ 493 := by omega
  have HN := Lib.hid (layB_length (kind := kind) (no := no) (gen := gen) hl493)
  have HK := Lib.hid (layB_take (kind := kind) (no := no) (gen := gen) hl493)
  have HS := Lib.hid (layB_sum (kind := kind) (no := no) (gen := gen) hl493)
  have HX := Lib.hid (sumV_lt (headB kind no gen l))
  have HT := Lib.hid hT
  clear hl hn hnc hc h493 hl493 hno hg hT
  generalize layB kind no gen l = y at *
  generalize pageB kind no gen l = z at *
  generalize headB kind no gen l = x at *
  go_enter Tryz.func51, Tryz.ntmps51
  go_wp2_with fail
  with_reducible refine HC.out.mono ?_
  rintro e w1 ⟨rfl, h1, hb1⟩
  have HB1 := Lib.hid hb1
  have HP : Hid (∀ w', Below w1.heap.size w1 w' → Calls Tryz.prog 84 #[.slice (some ⟨w.heap.size, 0, none⟩) 508 512] w' fun e w'' => e = .returned (.int .u32 (sumV x : Nat)) ∧ w' = w'') := Lib.hid fun w' hb => by
    have h2 := h1.below h1.lt hb
    have h3 := h2.part 0 508
    rw [List.drop_zero, HK.out] at h3
    refine sum_any ((HT.out.below HT.out.lt hb1).below (Nat.lt_of_lt_of_le HT.out.lt hb1.size) hb) h3 (by rw [← HK.out, List.length_take, HN.out]; rfl) (by omega)
  have HQ : Hid (∀ w', Below w1.heap.size w1 w' → Calls Tryz.prog 83 #[.slice (some ⟨w.heap.size, 508, none⟩) 4 4, .int .u64 (IntKind.u64.wrap (sumV x : Nat))] w' fun e w'' => e = .returned (.tuple #[]) ∧ PSec w'' w.heap.size z ∧ Below w.heap.size w' w'') := Lib.hid fun w' hb => by
    have h2 := h1.below h1.lt hb
    have h3 := put_any (n := 4) (c := 4) (o := 508) (B := w.heap.size) h2 (Nat.le_refl _) (by rw [HN.out]; omega) (by omega) (by omega) (by omega) (x := sumV x) (by have := HX.out; omega)
    rw [HS.out] at h3
    rw [IntKind.wrap_u64, Int.emod_eq_of_lt (by omega) (by have := HX.out; omega)]
    exact h3
  have hx32 := HX.out
  clear h1 hb1 HC
  generalize sumV x = sx at *
  go_wp2_with fail
  go_region_held3 (fun _ => True) (exact trivial)
    (first
      | (go_at_call 84; with_reducible refine (HP.out _ (Below.refl _ _).drew).mono ?_; rintro e w2 ⟨rfl, rfl⟩)
      | (go_at_call 83; with_reducible refine (HQ.out _ (Below.refl _ _).drew).mono ?_; rintro e w3 ⟨rfl, h3, hb3⟩; have H3 := Lib.hid h3; have HB3 := Lib.hid hb3; clear h3 hb3))
  go_wp2
  exact bodyPost_ret (v := .tuple #[.slice (some ⟨w.heap.size, 0, none⟩) 512 512, .int .i64 0]) (by simp [results, Tryz.results51, go_sem]) rfl ⟨rfl, H3.out, HB1.out.trans ((Below.refl _ _).drew.trans HB3.out)⟩

end Go.Proofs.YtfpdcfomfikkiaaGreatDoor

set_option linter.unusedVariables false
set_option maxRecDepth 100000
namespace Go.Proofs.YtfpdcfomfikkiaaGreatDoor
open Go.RowKit

set_option maxHeartbeats 400000 in
theorem bequal_any {w : World} {p q : Option Addr} {l m : List UInt8} (hl : Bs w p l) (hm : Bs w q m) {n k c d : Nat} (hn : n = l.length) (hk : k = m.length) :
    Calls Tryz.prog 106 #[.slice p n c, .slice q k d] w fun e w' => e = .returned (.bool (decide (l = m))) ∧ w' = w := by
  have h1 := str_of hl (c := c) hn
  have h2 := str_of hm (c := d) hk
  clear hl hm hn hk
  go_enter Tryz.func106, Tryz.ntmps106
  go_wp2
  go_ret
  refine ⟨ret_bool ?_, rfl⟩
  by_cases h : l = m <;> simp [h]

def PClonePost (w : World) (l : List UInt8) (e : Ending) (w' : World) : Prop := ∃ v, e = .returned v ∧ Own w' w.heap.size v l ∧ Below w.heap.size w w'

set_option maxHeartbeats 400000 in
theorem pclone_any {w : World} {a : Addr} {l : List UInt8} (hl : Bs w (some a) l) {n c : Nat} (hn : n = l.length) (hb : n ≤ 1000000) :
    Calls Tryz.prog 108 #[.slice (some a) n c] w (PClonePost w l) := by
  have HL := Lib.hid hl
  have HN := Lib.hid hn
  have HO : Hid (Own (w.alloc (.cells #[] 5)) w.heap.size (.slice (.some ⟨w.heap.size, 0, none⟩) 0 0) []) := Lib.hid (Own.empty w _ (Nat.le_refl _))
  clear hl hn
  have hnil : ∀ w : World, (binOp .eql 22 (.slice (some a) n c) (.slice none 0 0)).run Tryz.prog w = .ok (.bool false) w := fun w => by kernel_rfl
  go_enter Tryz.func108, Tryz.ntmps108
  go_wp2_with (at_builtin; refine app_own rfl (.tmp 5) (.tmp 6) rfl rfl HO.out HN.out rfl (HL.out.alloc _) (fun h => by cases h) (by have := HN.out; simp; omega) (by simp) ?_; intro v2 w2 ho2 hb2; have HO2 := Lib.hid ho2; have HB2 := Lib.hid (((Below.refl w.heap.size w).alloc (Nat.le_refl _) _).trans hb2); clear ho2 hb2)
  go_ret
  exact ⟨_, rfl, HO2.out, HB2.out⟩

end Go.Proofs.YtfpdcfomfikkiaaGreatDoor

