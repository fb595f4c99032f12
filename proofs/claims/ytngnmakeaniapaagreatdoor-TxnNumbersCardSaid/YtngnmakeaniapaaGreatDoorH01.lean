/-
  page.Sum, over the table of what four bits do, and the reference's Sum: contracts for the walks.
  How the arguments of layer 8's laws open; the rows' condition on page.turns: what it gives a walk; a world that meets it.
  A map keyed by whole numbers, of whatever elements, that a call has made: what each key has (MapIs); look-up, store, delete, clone.
  A disk, as plain data: its sectors that last, the writes that wait, how many operations are left and were done; and what its calls make of it.
  sector.laid: a sector of its own. make and copy of bytes whose block is known whole.
-/
import Derived.Test.YtngnmakeaniapaaGreatDoorH00
import Derived.Test.YtngnmakeaniapaaGreatDoorTie
import Derived.Laws.Rows
import Derived.Laws.BitsAllLaws
import Derived.Below
import Derived.ChangeSame
import Derived.ChangeVars
import Derived.MapKept
import Derived.ChangeMaps5
import Derived.Maps.Own
import Derived.Maps.OwnOps
import Derived.Maps.OwnSet
import Derived.Laws.CopyOwn
import Derived.Deep.OwnRows
set_option linter.unusedVariables false
set_option maxRecDepth 100000
namespace Go.Proofs.YtngnmakeaniapaaGreatDoor
open Go.RowKit

/-- The table's cells. -/
def turnC : Array Value := #[.int .u32 0, .int .u32 498536548, .int .u32 997073096, .int .u32 651767980, .int .u32 1994146192, .int .u32 1802195444, .int .u32 1303535960, .int .u32 1342533948, .int .u32 3988292384, .int .u32 4027552580, .int .u32 3604390888, .int .u32 3412177804, .int .u32 2607071920, .int .u32 2262029012, .int .u32 2685067896, .int .u32 3183342108]
/-- The table lies in its variable. -/
def Tab (w : World) : Prop := ∃ t fr, w.heap[1]? = some (.cells turnC t fr)
theorem Tab.lt {w : World} (h : Tab w) : 1 < w.heap.size := by
  obtain ⟨t, fr, h⟩ := h
  rcases Nat.lt_or_ge 1 w.heap.size with h1 | h1
  · exact h1
  · rw [Array.getElem?_eq_none h1] at h
    cases h
theorem Tab.below {w w' : World} (h : Tab w) {B : Nat} (hB : 1 < B) (hb : Below B w w') : Tab w' := by
  obtain ⟨t, fr, h⟩ := h
  exact ⟨t, fr, (hb.block 1 hB).trans h⟩
theorem turnC_at {j : Nat} (h : j < 16) : turnC[j]? = some (.int .u32 (crcI 4 j : Nat)) := by
  have h16 : ∀ j : Fin 16, (match turnC[j.val]? with | some (.int .u32 x) => decide (x = (crcI 4 j.val : Nat)) | _ => false) = true := by decide +kernel
  have := h16 ⟨j, h⟩
  simp only at this
  split at this
  · rename_i x hx
    rw [hx, of_decide_eq_true this]
  · cases this
theorem Tab.cell {w : World} (h : Tab w) {j : Nat} (hj : j < 16) : w.cell? ⟨1, j, none⟩ = some (.int .u32 (crcI 4 j : Nat)) := by
  obtain ⟨t, fr, h⟩ := h
  rw [cell_of_row w 1 j turnC t fr h]
  exact turnC_at hj

theorem xor32 {a b c : Nat} (ha : a < 4294967296) (hb : b < 4294967296) (h : a ^^^ b = c) : bits .xor .u32 (a : Int) (b : Int) = (c : Int) := by rw [u32_xor_nat a b ha hb, h]
theorem quo32 {a b c : Nat} (ha : a < 4294967296) (hb : b < 4294967296) (h : a / 16 ^^^ b = c) : bits .xor .u32 ((a : Int) / 16) (b : Int) = (c : Int) := by
  have h1 : (a : Int) / 16 = ((a / 16 : Nat) : Int) := by omega
  rw [h1, u32_xor_nat (a / 16) b (by omega) hb, h]
theorem pand15 {a : Nat} (ha : a < 4294967296) : bits .and .u32 (a : Int) 15 = ((a % 16 : Nat) : Int) := by
  have h := u32_and_nat a 15 ha (by omega)
  have h2 := Nat.and_two_pow_sub_one_eq_mod a 4
  have h3 : (2 : Nat) ^ 4 - 1 = 15 := by decide
  rw [h3] at h2
  rw [h2] at h
  exact h
theorem not32 {a : Nat} (ha : a < 4294967296) : bits .xor .u32 IntKind.u32.max (a : Int) = ((a ^^^ allOn : Nat) : Int) := by
  have h0 : IntKind.u32.max = ((allOn : Nat) : Int) := rfl
  rw [h0, u32_xor_nat allOn a (by decide) ha, Nat.xor_comm]
theorem crcI_eight (x : Nat) : crcI 8 x = crcI 4 (crcI 4 x) := crcI_add 4 4 x
theorem crcS_snoc (s : Nat) {l : List UInt8} {j : Nat} (hj : j < l.length) : crcS s (l.take (j + 1)) = crcI 8 (crcS s (l.take j) ^^^ l[j].toNat) := by
  rw [List.take_add_one, List.getElem?_eq_getElem hj, crcS_append]
  rfl

set_option maxHeartbeats 800000 in
theorem sum_any {w : World} (hT : Tab w) {p : Option Addr} {l : List UInt8} (hl : Bs w p l) {n c : Nat} (hn : n = l.length) (hc : n ≤ 9223372036854775807) :
    Calls Tryz.prog 170 #[.slice p n c] w fun e w' => e = .returned (.int .u32 (sumV l : Nat)) ∧ w = w' := by
  have HN := Lib.hid hn
  have HL := Lib.hid hl
  have HT := Lib.hid hT
  clear hl hn hT
  go_enter Tryz.func170, Tryz.ntmps170
  go_wp2
  go_loop [3, 8] (fun s i => ∃ j : Nat, i = .int .i64 j ∧ j ≤ n ∧ s = .int .u32 (crcS allOn (l.take j) : Nat)) (fun _ i => n - (intOf i).toNat)
  case atStart => exact ⟨0, rfl, by omega, rfl⟩
  case round =>
    obtain ⟨j, rfl, hj, rfl⟩ := hrel
    have hs := crcS_lt (s := allOn) (by decide) (l.take j)
    by_cases hjn : j < n
    · have hjl : j < l.length := by have := HN.out; omega
      obtain ⟨b, o, rfl, _, hcells⟩ := HL.out.at (by omega)
      have hx := hcells j hjl
      have HR := Lib.hid (crcS_snoc allOn hjl)
      have hcl : l[j].toNat < 256 := l[j].toNat_lt
      clear hcells
      generalize crcS allOn (l.take j) = s at *
      generalize l[j].toNat = d at *
      have h1 : s ^^^ d < 4294967296 := Nat.xor_lt_two_pow (n := 32) hs (by omega)
      have e1 := xor32 (b := d) hs (by omega) rfl
      generalize s ^^^ d = s1 at *
      have a1 := pand15 h1
      have t1 := HT.out.cell (j := s1 % 16) (by omega)
      have q1 := quo32 (b := crcI 4 (s1 % 16)) h1 (crcI_lt 4 (by omega)) (crcI_four s1).symm
      have h2 := crcI_lt 4 h1
      rw [crcI_eight] at HR
      generalize crcI 4 (s1 % 16) = x1 at *
      have hm1 : s1 % 16 < 16 := by omega
      generalize crcI 4 s1 = s2 at *
      have a2 := pand15 h2
      have t2 := HT.out.cell (j := s2 % 16) (by omega)
      have q2 := quo32 (b := crcI 4 (s2 % 16)) h2 (crcI_lt 4 (by omega)) (crcI_four s2).symm
      generalize crcI 4 (s2 % 16) = x2 at *
      have hm2 : s2 % 16 < 16 := by omega
      generalize crcI 4 s2 = s3 at *
      generalize s1 % 16 = j1 at *
      generalize s2 % 16 = j2 at *
      go_wp2
      go_round
      case rel => exact ⟨j + 1, by go_num, by omega, by rw [HR.out]⟩
      case measure => simp [intOf]; omega
    · have HJ : Hid (j = l.length) := Lib.hid (by have := HN.out; omega)
      have HR : Hid (crcS allOn (l.take j) = crcS allOn l) := Lib.hid (by rw [HJ.out, List.take_length])
      have e1 := not32 hs
      have HS : Hid (crcS allOn (l.take j) ^^^ allOn = sumV l) := Lib.hid (by rw [HR.out]; rfl)
      clear HR
      generalize crcS allOn (l.take j) = s at *
      generalize s ^^^ allOn = x at *
      go_wp2
      go_ret
      refine ⟨ret_int ?_, rfl⟩
      rw [HS.out]

end Go.Proofs.YtngnmakeaniapaaGreatDoor

set_option linter.unusedVariables false
set_option maxRecDepth 100000
namespace Go.Proofs.YtngnmakeaniapaaGreatDoor
open Go.ChangeShapes Go.WideShapes Go.ChangeAt Go.RowKit

theorem gTurns : Tryz.prog.globalNamed "cobweb/page.turns" = some 1 := by kernel_rfl
theorem gType : (Tryz.prog.globals[1]?).map (·.type) = some 263 := by kernel_rfl
theorem cellsU32 : Tryz.prog.cellsOf 239 = 1 := by kernel_rfl
theorem cells16 : Tryz.prog.cellsOf 263 = 16 := by kernel_rfl
theorem cells_meta : Tryz.prog.cellsOf 92 = 4 := by kernel_rfl
theorem open_meta {H : Type} {enc : TypeId × Value → H} {W : World} {r : Reach} {b0 : Nat} {v : Value} {d : DataW H} {p : List MemPlace}
    (hv : Value.okWide Tryz.prog W r b0 92 v) (h : DataW.Trod enc Tryz.prog W 0 (fun _ => true) true 92 v d p) :
    ∃ g k n m : Int, v = .agg #[.int .i64 g, .int .i64 k, .int .i64 n, .int .i64 m] := by
  obtain ⟨cs, rfl, hsz⟩ := okWide_struct Tryz.underlying92 hv
  obtain ⟨l⟩ := cs
  rw [cells_meta] at hsz
  match l, hsz with
  | [c0, c1, c2, c3], _ =>
    obtain ⟨fuel, hf⟩ := h
    obtain ⟨xs, n, _, _, _, hxl, hg⟩ := DataW.trod_struct Tryz.underlying92 hf
    match xs, hxl with
    | [y0, y1, y2, y3], _ =>
      have h0 : DataW.trod enc Tryz.prog W 0 (fun _ => true) true n 3 ((([c0, c1, c2, c3]).drop 0).take (Tryz.prog.cellsOf 3)) = some y0 := hg 0 _ rfl
      have h1 : DataW.trod enc Tryz.prog W 0 (fun _ => true) true n 3 ((([c0, c1, c2, c3]).drop 1).take (Tryz.prog.cellsOf 3)) = some y1 := hg 1 _ rfl
      have h2 : DataW.trod enc Tryz.prog W 0 (fun _ => true) true n 3 ((([c0, c1, c2, c3]).drop 2).take (Tryz.prog.cellsOf 3)) = some y2 := hg 2 _ rfl
      have h3 : DataW.trod enc Tryz.prog W 0 (fun _ => true) true n 3 ((([c0, c1, c2, c3]).drop 3).take (Tryz.prog.cellsOf 3)) = some y3 := hg 3 _ rfl
      rw [cells_int] at h0 h1 h2 h3
      obtain ⟨k0, e0, _, _⟩ := DataW.trod_int Tryz.underlying3 h0
      obtain ⟨k1, e1, _, _⟩ := DataW.trod_int Tryz.underlying3 h1
      obtain ⟨k2, e2, _, _⟩ := DataW.trod_int Tryz.underlying3 h2
      obtain ⟨k3, e3, _, _⟩ := DataW.trod_int Tryz.underlying3 h3
      simp only [List.drop, List.take, List.cons.injEq, and_true] at e0 e1 e2 e3
      subst e0 e1 e2 e3
      exact ⟨_, _, _, _, rfl⟩

theorem u32_of_wf {x : Int} (h : (Lit.int .u32 x).wf = true) : 0 ≤ x ∧ x < 4294967296 := by
  have h1 : IntKind.u32.min = 0 := rfl
  have h2 : IntKind.u32.max = 4294967295 := rfl
  simp only [Lit.wf, Bool.and_eq_true, decide_eq_true_eq] at h
  omega
theorem int_of_read {H : Type} {enc : TypeId × Value → H} {P : Program} {w : World} {base : Nat} {sp : Nat → Bool} {held : Bool} {fuel : Nat} {t : TypeId} {k : IntKind} {c : Value} {y : DataW H × List MemPlace}
    (ht : P.underlying t = some (.int k)) (h : DataW.trod enc P w base sp held fuel t [c] = some y) : ∃ n, c = .int k n ∧ y.1 = .lit (.int k n) := by
  cases fuel with
  | zero => simp [DataW.trod] at h
  | succ fuel =>
    cases c <;> simp [DataW.trod, ht] at h
    rename_i k' n
    obtain ⟨⟨rfl, _⟩, rfl⟩ := h
    exact ⟨n, rfl, rfl⟩

theorem lit_u32 {a b : Int} (h : (DataW.lit (.int .u32 a) : DataW Unit) = .lit (.int .u32 b)) : a = b := by
  injection h with h
  injection h

theorem tab_of_laid {W : World} (h : laidMetH Tryz.prog [("cobweb/page.turns", Rows.laid_cobweb_page_turns)] W) : Tab W := by
  have h' : laidMet Tryz.prog [("cobweb/page.turns", Rows.laid_cobweb_page_turns)] W := h
  obtain ⟨ps, ⟨g, t, cs, fuel, p, q, hg, ht, hvar, hd, _, _⟩, _⟩ := h'
  obtain rfl := Option.some.inj (gTurns.symm.trans hg)
  obtain rfl := Option.some.inj (gType.symm.trans ht)
  obtain ⟨xs, m, _, hx, hlen, hxl, hget⟩ := DataW.trod_array Tryz.underlying263 hd
  rw [cells16] at hlen
  simp only [Prod.mk.injEq] at hx
  have hxs := hx.1
  rw [cellsU32] at hget
  simp only [Nat.mul_one] at hget
  have hmap : xs.map (·.1) = (List.range 16).map fun j => .lit (.int .u32 (crcI 4 j : Nat)) := by
    unfold Rows.laid_cobweb_page_turns at hxs
    injection hxs with hxs
    exact hxs.symm
  have hcell : ∀ i, i < 16 → ∀ n : Int, (xs.map (·.1))[i]? = some (.lit (.int .u32 n)) → cs.toList[i]? = some (.int .u32 n) := by
    intro i hi n hn
    have hil : i < cs.toList.length := by omega
    have h1 := hget i hi
    rw [List.drop_eq_getElem_cons hil, List.take_succ_cons, List.take_zero] at h1
    have hix : i < xs.length := by omega
    rw [List.getElem?_eq_getElem hix] at h1
    obtain ⟨k, hk, hy⟩ := int_of_read Tryz.underlying239 h1
    rw [List.getElem?_map, List.getElem?_eq_getElem hix, Option.map_some, Option.some.injEq, hy] at hn
    rw [List.getElem?_eq_getElem hil, hk, lit_u32 hn]
  have hcs : cs = turnC := by
    apply Array.ext'
    apply List.ext_getElem?
    intro i
    rcases Nat.lt_or_ge i 16 with hi | hi
    · have h1 := turnC_at hi
      have h2 : turnC.toList[i]? = some (.int .u32 (crcI 4 i : Nat)) := by rw [← h1]; simp
      rw [h2]
      refine hcell i hi _ ?_
      rw [hmap, List.getElem?_map, List.getElem?_range hi]
      rfl
    · rw [List.getElem?_eq_none (by omega), List.getElem?_eq_none (by show 16 ≤ i; exact hi)]
  subst hcs
  unfold World.var? at hvar
  rw [gTurns, Option.bind_some] at hvar
  split at hvar
  · rename_i cs' t' fr' hh
    obtain rfl := Option.some.inj hvar
    exact ⟨_, _, hh⟩
  · cases hvar

/-- A world that meets the condition: the settled one, the variable's cells laid. -/
noncomputable def laidWorld (os : Os) : World :=
  { World.holding Tryz.prog os ⟨#[], #[], []⟩ with heap := (World.holding Tryz.prog os ⟨#[], #[], []⟩).heap.modify 1 fun
      | .cells _ t frozen => .cells turnC t frozen
      | o => o }
theorem laidWorld_row (os : Os) (args : Array Value) : ((laidWorld os).forCall (fun _ _ => 0) ⟨#[], args, []⟩).memory.heap[1]? = some (.cells turnC 263 (0, 0)) := by kernel_rfl
theorem laidWorld_met (os : Os) (args : Array Value) : laidMetH Tryz.prog [("cobweb/page.turns", Rows.laid_cobweb_page_turns)] ((laidWorld os).forCall (fun _ _ => 0) ⟨#[], args, []⟩).memory := by
  show laidMet _ _ _
  refine ⟨_, ⟨1, 263, turnC, 8, [], [], gTurns, gType, by kernel_rfl, by kernel_rfl, rfl, rfl⟩, by decide, fun b off h => ?_⟩
  have h' : MemPlace.cell b off ∈ (List.range 16).map (MemPlace.cell 1) := h
  obtain ⟨i, hi, he⟩ := List.mem_map.1 h'
  have hi := List.mem_range.1 hi
  injection he with hb ho
  subst hb ho
  refine ⟨⟨_, _, laidWorld_row os args⟩, fun u v hc => ?_⟩
  simp only [World.cell?, laidWorld_row os args] at hc
  rw [turnC_at hi] at hc
  injection hc with hc
  cases hc

end Go.Proofs.YtngnmakeaniapaaGreatDoor

set_option linter.unusedVariables false
set_option maxRecDepth 100000
namespace Go.Proofs.YtngnmakeaniapaaGreatDoor
open Go.RowKit Go.MapKept
open Go.ChangeMaps (setBlock heap_setBlock_same heap_setBlock_other)

/-- Block b is a map; f tells what each key has. -/
def MapIs (w : World) (b : Nat) (f : Int → Option Value) : Prop :=
  ∃ es clock, w.heap[b]? = some (.map es clock) ∧ (∀ x ∈ es.toList, IsKey (.int .i64) x.key) ∧ (es.toList.map (·.key)).Nodup ∧
    ∀ k v, f k = some v ↔ ∃ e ∈ es.toList, e.key = .int .i64 k ∧ e.val = v

theorem MapIs.lt {w : World} {b : Nat} {f : Int → Option Value} (h : MapIs w b f) : b < w.heap.size := by
  obtain ⟨es, c, hb, _⟩ := h
  exact (Array.getElem?_eq_some_iff.1 hb).1

theorem MapIs.block {w w' : World} {b b' : Nat} {f : Int → Option Value} (h : MapIs w b f) (hb : w'.heap[b']? = w.heap[b]?) : MapIs w' b' f := by
  obtain ⟨es, c, h1, h2⟩ := h
  exact ⟨es, c, by rw [hb]; exact h1, h2⟩

theorem MapIs.new {w : World} {b : Nat} (hb : w.heap[b]? = some (.map #[] 0)) : MapIs w b fun _ => none :=
  ⟨#[], 0, hb, by simp, by simp, by simp⟩

theorem key_ne {a b : Int} : (Value.int .i64 a = Value.int .i64 b) ↔ a = b := by simp

theorem MapIs.find {w : World} {b : Nat} {f : Int → Option Value} {es : Array MapEntry} {c : Nat} (hb : w.heap[b]? = some (.map es c)) (hk : ∀ x ∈ es.toList, IsKey (.int .i64) x.key)
    (hf : ∀ k v, f k = some v ↔ ∃ e ∈ es.toList, e.key = .int .i64 k ∧ e.val = v) (k : Int) :
    (Instr.findNow (.int .i64) (.int .i64 k) es.toList 0 = some none ∧ f k = none ∧ ∀ x ∈ es.toList, x.key ≠ .int .i64 k) ∨
    ∃ j e, Instr.findNow (.int .i64) (.int .i64 k) es.toList 0 = some (some (j, e.val)) ∧ es.toList[j]? = some e ∧ e.key = .int .i64 k ∧ f k = some e.val := by
  rcases findNow_spec (d := .int .i64) (k := .int .i64 k) (show IsKey (.int .i64) (.int .i64 k) from rfl) es.toList 0 hk with ⟨h1, h2⟩ | ⟨j, e, h1, h2, h3⟩
  · refine .inl ⟨h1, ?_, h2⟩
    cases hv : f k with
    | none => rfl
    | some v =>
      obtain ⟨e, he, hek, _⟩ := (hf k v).1 hv
      exact absurd hek (h2 e he)
  · exact .inr ⟨j, e, by simpa using h1, h2, h3, (hf k e.val).2 ⟨e, List.mem_of_getElem? h2, h3, rfl⟩⟩

theorem MapIs.one {l : List MapEntry} {i j : Nat} {e a : MapEntry} {k : Value} (hn : (l.map (·.key)).Nodup) (hj : l[j]? = some e) (hjk : e.key = k) (hi : l[i]? = some a) (hik : a.key = k) : i = j := by
  have e1 : (l.map (·.key))[i]? = some k := by simp only [List.getElem?_map, hi, Option.map_some, hik]
  have e2 : (l.map (·.key))[j]? = some k := by simp only [List.getElem?_map, hj, Option.map_some, hjk]
  have hil : i < (l.map (·.key)).length := (List.getElem?_eq_some_iff.1 e1).1
  exact (List.getElem?_inj hil hn).1 (e1.trans e2.symm)

section
variable {P : Program} {w : World} {b : Nat} {f : Int → Option Value} {t kt et : TypeId}

theorem MapIs.look (h : MapIs w b f) (ht : P.underlying t = some (.map kt et)) (hk : P.underlying kt = some (.int .i64)) (k : Int) (ok : Bool) {z : Value} (hz : (zeroValue et).run P w = .ok z w) :
    (Instr.lookup t (.map (some b)) (.int .i64 k) ok).run P w = .ok (if ok then .tuple #[(f k).getD z, .bool (f k).isSome] else (f k).getD z) w := by
  obtain ⟨es, c, hb, hks, _, hf⟩ := h
  have hck : ∀ e, (Instr.checkKey e 10000 kt (.int .i64 k)).run P w = .ok () w := fun e => run_checkKey (d := .int .i64) (k := .int .i64 k) hk (show IsKey (.int .i64) (.int .i64 k) from rfl) e 9999
  rcases MapIs.find hb hks hf k with ⟨h1, h2, _⟩ | ⟨j, e, h1, _, _, h2⟩
  · simp [Instr.lookup, run_underlying ht, MapKept.run_getObj_map hb, hck, run_findKey hk h1, hz, h2, Result.andThen]
  · simp [Instr.lookup, run_underlying ht, MapKept.run_getObj_map hb, hck, run_findKey hk h1, h2, Result.andThen]

theorem MapIs.store (h : MapIs w b f) (ht : P.underlying t = some (.map kt et)) (hk : P.underlying kt = some (.int .i64)) (k : Int) (v : Value) :
    ∃ es c, (Instr.mapUpdate t (.map (some b)) (.int .i64 k) v).run P w = .ok () (setBlock w b (.map es c)) ∧ MapIs (setBlock w b (.map es c)) b fun x => if x = k then some v else f x := by
  obtain ⟨es, c, hb, hks, hn, hf⟩ := h
  have hck : ∀ e, (Instr.checkKey e 10000 kt (.int .i64 k)).run P w = .ok () w := fun e => run_checkKey (d := .int .i64) (k := .int .i64 k) hk (show IsKey (.int .i64) (.int .i64 k) from rfl) e 9999
  rcases MapIs.find hb hks hf k with ⟨h1, h2, h3⟩ | ⟨j, e, h1, h2, h3, h4⟩
  · refine ⟨es.push ⟨.int .i64 k, v, c⟩, c + 1, by simp [Instr.mapUpdate, run_underlying ht, MapKept.run_getObj_map hb, hck, run_findKey hk h1, MapKept.run_setObj_map _ hb, Result.andThen, setBlock], ?_⟩
    refine ⟨_, _, heap_setBlock_same hb _, ?_, ?_, ?_⟩
    · intro x hx
      simp only [Array.toList_push, List.mem_append, List.mem_singleton] at hx
      rcases hx with hx | rfl
      · exact hks x hx
      · exact rfl
    · simp only [Array.toList_push, List.map_append, List.map_singleton]
      refine List.nodup_append.2 ⟨hn, by simp, ?_⟩
      intro a ha b' hb'
      simp only [List.mem_singleton] at hb'
      subst hb'
      obtain ⟨x, hx, rfl⟩ := List.mem_map.1 ha
      exact h3 x hx
    · intro x u
      simp only [Array.toList_push, List.mem_append, List.mem_singleton]
      by_cases hx : x = k
      · subst hx
        simp only [if_true, Option.some.injEq]
        constructor
        · rintro rfl
          exact ⟨_, .inr rfl, rfl, rfl⟩
        · rintro ⟨e, he | rfl, hek, hev⟩
          · exact absurd hek (h3 e he)
          · exact hev
      · simp only [hx, if_false]
        rw [hf]
        constructor
        · rintro ⟨e, he, h⟩
          exact ⟨e, .inl he, h⟩
        · rintro ⟨e, he | rfl, hek, hev⟩
          · exact ⟨e, he, hek, hev⟩
          · exact absurd (key_ne.1 hek).symm hx
  · have hj : es[j]? = some e := by simpa using h2
    have hjl : j < es.toList.length := (List.getElem?_eq_some_iff.1 h2).1
    refine ⟨es.modify j fun e => { e with key := .int .i64 k, val := v }, c, by simp [Instr.mapUpdate, run_underlying ht, MapKept.run_getObj_map hb, hck, run_findKey hk h1, hj, h3, run_keyThatStays (d := .int .i64) (k := .int .i64 k) (show IsKey (.int .i64) (.int .i64 k) from rfl), MapKept.run_setObj_map _ hb, Result.andThen, setBlock], ?_⟩
    have hlist : (es.modify j (fun e' => { e' with key := .int .i64 k, val := v })).toList = es.toList.set j { e with key := .int .i64 k, val := v } := by rw [Array.toList_modify, ChangeMaps.modify_eq_set _ _ _ _ h2]
    have hkeys : (es.toList.set j { e with key := .int .i64 k, val := v }).map (·.key) = es.toList.map (·.key) := by
      rw [List.map_set]
      show (es.toList.map (·.key)).set j (.int .i64 k) = _
      rw [← h3]
      apply List.ext_getElem?
      intro i
      rw [List.getElem?_set]
      split
      · rename_i hij
        subst hij
        simp [hj]
        exact (Array.getElem?_eq_some_iff.1 hj).1
      · rfl
    refine ⟨_, _, heap_setBlock_same hb _, ?_, ?_, ?_⟩
    · rw [hlist]
      intro x hx
      have : x.key ∈ (es.toList.set j { e with key := .int .i64 k, val := v }).map (·.key) := List.mem_map.2 ⟨x, hx, rfl⟩
      rw [hkeys] at this
      obtain ⟨y, hy, he⟩ := List.mem_map.1 this
      rw [← he]
      exact hks y hy
    · rw [hlist, hkeys]
      exact hn
    · intro x u
      rw [hlist]
      have who : ∀ a, a ∈ es.toList.set j { e with key := .int .i64 k, val := v } ↔ a = { e with key := .int .i64 k, val := v } ∨ (a ∈ es.toList ∧ a.key ≠ .int .i64 k) := by
        intro a
        constructor
        · intro ha
          obtain ⟨i, hi⟩ := List.mem_iff_getElem?.1 ha
          rw [List.getElem?_set] at hi
          split at hi
          · first | exact .inl (Option.some.inj hi).symm | (rw [if_pos (by assumption)] at hi; exact .inl (Option.some.inj hi).symm)
          · rename_i hij
            refine .inr ⟨List.mem_of_getElem? hi, fun hak => hij ?_⟩
            have hai := MapIs.one hn h2 h3 hi hak
            exact hai.symm
        · rintro (rfl | ⟨ha, hak⟩)
          · exact List.mem_set hjl _
          · obtain ⟨i, hi⟩ := List.mem_iff_getElem?.1 ha
            refine List.mem_iff_getElem?.2 ⟨i, ?_⟩
            rw [List.getElem?_set, if_neg]
            · exact hi
            · rintro rfl
              rw [h2] at hi
              cases hi
              exact hak h3
      by_cases hx : x = k
      · subst hx
        simp only [if_true, Option.some.injEq]
        constructor
        · rintro rfl
          exact ⟨_, (who _).2 (.inl rfl), rfl, rfl⟩
        · rintro ⟨a, ha, hak, hav⟩
          rcases (who a).1 ha with rfl | ⟨_, h⟩
          · exact hav
          · exact absurd hak h
      · simp only [hx, if_false]
        rw [hf]
        constructor
        · rintro ⟨a, ha, hak, hav⟩
          exact ⟨a, (who a).2 (.inr ⟨ha, fun h => hx (key_ne.1 (hak.symm.trans h))⟩), hak, hav⟩
        · rintro ⟨a, ha, hak, hav⟩
          rcases (who a).1 ha with rfl | ⟨h, _⟩
          · exact absurd (key_ne.1 hak).symm hx
          · exact ⟨a, h, hak, hav⟩

theorem MapIs.drop (h : MapIs w b f) (ht : P.underlying t = some (.map kt et)) (hk : P.underlying kt = some (.int .i64)) (k : Int) (t' ty : TypeId) :
    ∃ es c, (Builtin.delete_ #[t, t'] ty #[.map (some b), .int .i64 k]).run P w = .ok (.tuple #[]) (setBlock w b (.map es c)) ∧ MapIs (setBlock w b (.map es c)) b fun x => if x = k then none else f x := by
  obtain ⟨es, c, hb, hks, hn, hf⟩ := h
  have hck : ∀ e, (Instr.checkKey e 10000 kt (.int .i64 k)).run P w = .ok () w := fun e => run_checkKey (d := .int .i64) (k := .int .i64 k) hk (show IsKey (.int .i64) (.int .i64 k) from rfl) e 9999
  rcases MapIs.find hb hks hf k with ⟨h1, h2, h3⟩ | ⟨j, e, h1, h2, h3, h4⟩
  · refine ⟨es, c, by simp [Builtin.delete_, run_underlying ht, MapKept.run_getObj_map hb, hck, run_findKey hk h1, MapKept.run_setObj_map _ hb, Result.andThen, setBlock], es, c, heap_setBlock_same hb _, hks, hn, fun x u => ?_⟩
    by_cases hx : x = k
    · subst hx
      simp only [if_true, reduceCtorEq, false_iff]
      rintro ⟨a, ha, hak, _⟩
      exact h3 a ha hak
    · simp only [hx, if_false]
      exact hf x u
  · have hjl : j < es.toList.length := (List.getElem?_eq_some_iff.1 h2).1
    refine ⟨es.eraseIdxIfInBounds j, c, by simp [Builtin.delete_, run_underlying ht, MapKept.run_getObj_map hb, hck, run_findKey hk h1, MapKept.run_setObj_map _ hb, Result.andThen, setBlock], ?_⟩
    have hl : (es.eraseIdxIfInBounds j).toList = es.toList.eraseIdx j := by
      unfold Array.eraseIdxIfInBounds
      rw [dif_pos (by simpa using hjl), Array.toList_eraseIdx]
    have hsub : (es.toList.eraseIdx j).Sublist es.toList := List.eraseIdx_sublist _ _
    refine ⟨_, _, heap_setBlock_same hb _, ?_, ?_, ?_⟩
    · rw [hl]
      exact fun x hx => hks x (hsub.subset hx)
    · rw [hl]
      exact (hsub.map _).nodup hn
    · intro x u
      rw [hl]
      have who : ∀ a, a ∈ es.toList.eraseIdx j ↔ a ∈ es.toList ∧ a.key ≠ .int .i64 k := by
        intro a
        rw [List.mem_eraseIdx_iff_getElem?]
        constructor
        · rintro ⟨i, hij, hi⟩
          exact ⟨List.mem_of_getElem? hi, fun hak => hij (MapIs.one hn h2 h3 hi hak)⟩
        · rintro ⟨ha, hak⟩
          obtain ⟨i, hi⟩ := List.mem_iff_getElem?.1 ha
          refine ⟨i, ?_, hi⟩
          rintro rfl
          rw [h2] at hi
          cases hi
          exact hak h3
      by_cases hx : x = k
      · subst hx
        simp only [if_true, reduceCtorEq, false_iff]
        rintro ⟨a, ha, hak, _⟩
        exact ((who a).1 ha).2 hak
      · simp only [hx, if_false]
        rw [hf]
        constructor
        · rintro ⟨a, ha, hak, hav⟩
          exact ⟨a, (who a).2 ⟨ha, fun h => hx (key_ne.1 (hak.symm.trans h))⟩, hak, hav⟩
        · rintro ⟨a, ha, hak, hav⟩
          exact ⟨a, ((who a).1 ha).1, hak, hav⟩

end

/-- A block was set: what else stands. -/
theorem setBlock_grown {w : World} {b : Nat} {o o' : Obj} (hb : w.heap[b]? = some o') : w.grownBy (setBlock w b o) (some b) :=
  ⟨rfl, rfl, rfl, by simp [setBlock], fun i _ hi => (heap_set (w := w) (o' := o) hb).2 i fun e => hi (by rw [e])⟩

section
variable {P : Program} {w : World} {ops : Array Oper} {rest : List Oper} {o : Oper} {a : Act} {Q : Exit → Act → World → Prop} {b : Nat} {f : Int → Option Value}

/-- v, ok := m[k] -/
theorem map_look (hg : o.guard = none) (m x : Operand) (t kt et : TypeId) (ok : Bool) (hop : o.op = Op.lookup t m x ok) (ht : P.underlying t = some (.map kt et)) (hk : P.underlying kt = some (.int .i64))
    {z : Value} (hz : (zeroValue et).run P w = .ok z w) (hm : a.eval m = .map (some b)) (h : MapIs w b f) {k : Int} (hx : a.eval x = .int .i64 k)
    (hK : wpList P ops Q rest (a.put o.dst (if ok then .tuple #[(f k).getD z, .bool (f k).isSome] else (f k).getD z)) w) : wpList P ops Q (o :: rest) a w := by
  refine wpList_plain hg fun K' hK' => ?_
  have hrun := h.look ht hk k ok hz
  unfold Oper.wp
  simp [execOp, hop, hm, hx, hrun, Result.andThen]
  exact hK' _ _ hK

/-- m[k] = v -/
theorem map_store (hg : o.guard = none) (m x v : Operand) (t kt et : TypeId) (hop : o.op = Op.mapUpdate t m x v) (ht : P.underlying t = some (.map kt et)) (hk : P.underlying kt = some (.int .i64))
    (hm : a.eval m = .map (some b)) (h : MapIs w b f) {k : Int} (hx : a.eval x = .int .i64 k) {u : Value} (hv : a.eval v = u)
    (hK : ∀ w', MapIs w' b (fun x => if x = k then some u else f x) → w.grownBy w' (some b) → wpList P ops Q rest (a.put o.dst undef) w') : wpList P ops Q (o :: rest) a w := by
  refine wpList_plain hg fun K' hK' => ?_
  obtain ⟨es, c, hrun, h1⟩ := h.store ht hk k u
  obtain ⟨_, _, hb, _⟩ := h
  unfold Oper.wp
  simp [execOp, hop, hm, hx, hv, hrun, Result.andThen]
  exact hK' _ _ (hK _ h1 (setBlock_grown hb))

/-- delete(m, k) -/
theorem map_drop (hg : o.guard = none) (m x : Operand) (t kt et t' : TypeId) (hop : o.op = Op.call { callee := Callee.builtin Builtin.delete, args := #[m, x], argTypes := #[t, t'] }) (ht : P.underlying t = some (.map kt et)) (hk : P.underlying kt = some (.int .i64))
    (hm : a.eval m = .map (some b)) (h : MapIs w b f) {k : Int} (hx : a.eval x = .int .i64 k)
    (hK : ∀ w', MapIs w' b (fun x => if x = k then none else f x) → w.grownBy w' (some b) → wpList P ops Q rest (a.put o.dst (.tuple #[])) w') : wpList P ops Q (o :: rest) a w := by
  refine wpList_plain hg fun K' hK' => ?_
  obtain ⟨es, c, hrun, h1⟩ := h.drop ht hk k t' o.type
  obtain ⟨_, _, hb, _⟩ := h
  unfold Oper.wp
  simp [execOp, hop, resolve, invoke, builtin, hm, hx, hrun, Result.andThen]
  exact hK' _ _ (hK _ h1 (setBlock_grown hb))

end
end Go.Proofs.YtngnmakeaniapaaGreatDoor

set_option linter.unusedVariables false
set_option maxRecDepth 100000
namespace Go.Proofs.YtngnmakeaniapaaGreatDoor

/-- A write that waits: which sector, and all its bytes. -/
structure Wr where
  k : Int
  l : List UInt8

/-- A disk. -/
structure SD where
  size : Int
  lasts : Int → List UInt8
  waits : List Wr
  left : Int
  ops : Int

def zeros (n : Nat) : List UInt8 := List.replicate n 0
/-- Bytes, and zeros behind them. -/
def pad (l : List UInt8) : List UInt8 := l ++ zeros (512 - l.length)
/-- Bytes with others over the first of them. -/
def over (l m : List UInt8) : List UInt8 := m ++ l.drop m.length

/-- At k there is v. -/
def putAt {α : Type} (f : Int → α) (k : Int) (v : α) : Int → α := fun x => if x = k then v else f x

/-- What is found of the writes that wait. -/
def found (ws : List Wr) : Int → Option (List UInt8) := ws.foldl (fun f x => putAt f x.k (some x.l)) fun _ => none
/-- What lasts behind a flush. -/
def flushed (f : Int → List UInt8) (ws : List Wr) : Int → List UInt8 := ws.foldl (fun f x => putAt f x.k x.l) f
/-- A write of which n bytes are kept. -/
def keepOne (f : Int → List UInt8) (x : Wr) (n : Int) : Int → List UInt8 := if n < 1 then f else putAt f x.k (over (f x.k) (x.l.take (min n 512).toNat))
def kept (f : Int → List UInt8) (l : List (Wr × Int)) : Int → List UInt8 := l.foldl (fun f p => keepOne f p.1 p.2) f

theorem zeros_length (n : Nat) : (zeros n).length = n := by simp [zeros]
theorem pad_length {l : List UInt8} (h : l.length ≤ 512) : (pad l).length = 512 := by simp [pad, zeros]; omega
theorem over_length {l m : List UInt8} (h : m.length ≤ l.length) : (over l m).length = l.length := by simp [over]; omega
theorem zeros_drop (n k : Nat) : (zeros n).drop k = zeros (n - k) := by unfold zeros; rw [List.drop_replicate]
theorem pad_over (l : List UInt8) : pad l = over (zeros 512) l := by unfold pad over; rw [zeros_drop]

theorem found_snoc (ws : List Wr) (x : Wr) : found (ws ++ [x]) = putAt (found ws) x.k (some x.l) := by simp [found, List.foldl_append]
theorem flushed_snoc (f : Int → List UInt8) (ws : List Wr) (x : Wr) : flushed f (ws ++ [x]) = putAt (flushed f ws) x.k x.l := by simp [flushed, List.foldl_append]
theorem kept_snoc (f : Int → List UInt8) (l : List (Wr × Int)) (p : Wr × Int) : kept f (l ++ [p]) = keepOne (kept f l) p.1 p.2 := by simp [kept, List.foldl_append]

/-- What Read tells. -/
def SD.read (S : SD) (k : Int) : List UInt8 := (found S.waits k).getD (S.lasts k)

theorem read_flush (f : Int → List UInt8) (ws : List Wr) (k : Int) : flushed f ws k = (found ws k).getD (f k) := by
  have : ∀ ws : List Wr, ∀ k, flushed f ws.reverse k = (found ws.reverse k).getD (f k) := by
    intro ws
    induction ws with
    | nil => intro k; rfl
    | cons x ws ih =>
      intro k
      rw [List.reverse_cons, found_snoc, flushed_snoc]
      unfold putAt
      split
      · rfl
      · exact ih k
  have h := this ws.reverse k
  rwa [List.reverse_reverse] at h

/-- A sector has 512 bytes. -/
structure SD.Ok (S : SD) : Prop where
  s1 : 1 ≤ S.size
  s2 : S.size ≤ 4096
  l : ∀ k, (S.lasts k).length = 512
  w : ∀ x ∈ S.waits, x.l.length = 512 ∧ 0 ≤ x.k ∧ x.k < S.size
  n : S.waits.length ≤ S.ops
  o1 : 0 ≤ S.ops

def SD.new (n : Int) : SD := ⟨n, fun _ => zeros 512, [], -1, 0⟩
/-- An operation is counted. -/
def SD.tick (S : SD) : SD := { S with left := if 0 < S.left then S.left - 1 else S.left, ops := S.ops + 1 }
def SD.write (S : SD) (k : Int) (b : List UInt8) : SD := { S.tick with waits := S.waits ++ [⟨k, pad b⟩] }
def SD.flush (S : SD) : SD := { S.tick with lasts := flushed S.lasts S.waits, waits := [] }
def SD.cut (S : SD) (n : Int) : SD := { S with left := max n (-1) }
def SD.crash (S : SD) (keep : List Int) : SD := ⟨S.size, kept S.lasts (S.waits.zip keep), [], -1, 0⟩

end Go.Proofs.YtngnmakeaniapaaGreatDoor

set_option linter.unusedVariables false
set_option maxRecDepth 100000
namespace Go.Proofs.YtngnmakeaniapaaGreatDoor
open Go.RowKit

/-- Block g is known whole: the bytes l. -/
def Sec (w : World) (g : Nat) (l : List UInt8) : Prop := w.heap[g]? = some (.cells (u8s l).toArray 5 (0, 0))

theorem Sec.lt {w : World} {g : Nat} {l : List UInt8} (h : Sec w g l) : g < w.heap.size := (Array.getElem?_eq_some_iff.1 h).1
theorem Sec.below {w w' : World} {g : Nat} {l : List UInt8} (h : Sec w g l) (hb : Below w.heap.size w w') : Sec w' g l := by
  unfold Sec
  rw [hb.block g h.lt]
  exact h
theorem Sec.bs {w : World} {g : Nat} {l : List UInt8} (h : Sec w g l) : Bs w (some ⟨g, 0, none⟩) l := Bs.of_block h rfl

theorem madeCells_u8 (n : Nat) : madeCells #[Value.int .u8 0] n = (u8s (zeros n)).toArray := by
  apply Array.ext
  · simp [madeCells, u8s, zeros]
  · intro i h1 h2
    simp [madeCells, u8s, zeros, Nat.mod_one]

/-- make([]byte, 512) -/
theorem make_u8 {w : World} {ops : Array Oper} {rest : List Oper} {o : Oper} {a : Act} {Q : Exit → Act → World → Prop} (hg : o.guard = none) (l c : Operand) (hop : o.op = Op.makeSlice 41 l c)
    (hl : a.eval l = .int .i64 512) (hc : a.eval c = .int .i64 512)
    (hK : ∀ w', Sec w' w.heap.size (zeros 512) → Below w.heap.size w w' → wpList Tryz.prog ops Q rest (a.put o.dst (.slice (some ⟨w.heap.size, 0, none⟩) 512 512)) w') :
    wpList Tryz.prog ops Q (o :: rest) a w := by
  obtain ⟨i, hi, hz0, hz1, hz2⟩ := info_parts info_u8
  refine wpList_make_row w hg l c _ hop 5 i (.int .u8 0) Tryz.underlying41 hi hz0 hz1 rfl .i64 .i64 512 hl hc (by rw [hz2]; decide) (by decide) ?_
  refine hK _ ?_ ((Below.refl _ _).alloc (Nat.le_refl _) _)
  rw [madeCells_u8]
  exact heap_alloc_new w _

theorem splice_u8 (l m : List UInt8) : splice (u8s l) 0 (u8s m) = u8s (over l m) := by
  simp [splice, u8s, over]

/-- copy(own, bytes): the bytes lie elsewhere. -/
theorem copy_u8 {w w0 : World} {ops : Array Oper} {rest : List Oper} {o : Oper} {a : Act} {Q : Exit → Act → World → Prop} (hgd : o.guard = none) (d s : Operand)
    (ho : o.op = .call { callee := .builtin .copy, args := #[d, s], argTypes := #[41, 41] })
    {g n c : Nat} {l : List UInt8} (hd : a.eval d = .slice (some ⟨g, 0, none⟩) n c) (hg : Sec w g l) (hn : n = l.length)
    {p : Option Addr} {k k' : Nat} {m : List UInt8} (hs : a.eval s = .slice p k k') (hm : Bs w p m) (hk : k = m.length) (hml : m.length ≤ l.length) {B : Nat} (hb : Below B w0 w) (hB : B ≤ g)
    (h : ∀ w', Sec w' g (over l m) → Below B w0 w' → wpList Tryz.prog ops Q rest (a.put o.dst (goInt m.length)) w') : wpList Tryz.prog ops Q (o :: rest) a w := by
  subst hn hk
  obtain ⟨i, hi, hz0, hz1, hz2⟩ := info_parts info_u8
  refine wpList_copy_splice hgd d s _ _ ho 5 Tryz.underlying41 (by rw [hi]; simp [hz1]) _ _ _ _ _ _ hd hs g 0 (u8s l) 5 hg (u8s m) (by rw [u8s_length]; show _ = min _ _; omega) ?_ (by rw [u8s_length, u8s_length]; omega) (u8s_oneCell m) B w0 hb hB ?_
  · intro h0
    rw [u8s_length] at h0
    obtain ⟨b, o, rfl, _, hc⟩ := hm.at h0
    refine ⟨rfl, _, rfl, fun j v hj => ?_⟩
    obtain ⟨u, hu, rfl⟩ := u8s_get hj
    rw [Addr.add_lit]
    obtain ⟨hj', rfl⟩ := List.getElem?_eq_some_iff.1 hu
    exact hc j hj'
  · intro w' h1 h2
    rw [u8s_length]
    refine h w' ?_ h2
    have h3 := h1.out
    rw [splice_u8] at h3
    exact h3

def LaidPost (w : World) (l : List UInt8) (e : Ending) (w' : World) : Prop :=
  ∃ g, e = .returned (.slice (some ⟨g, 0, none⟩) 512 512) ∧ w.heap.size ≤ g ∧ Sec w' g l ∧ Below w.heap.size w w'

set_option maxHeartbeats 800000 in
theorem laid_any {w : World} {p q : Option Addr} {l m : List UInt8} {n c k d : Nat} (hl : Bs w p l) (hn : n = l.length) (h1 : l.length ≤ 512) (hm : Bs w q m) (hk : k = m.length) (h2 : m.length ≤ 512) :
    Calls Tryz.prog 56 #[.slice p n c, .slice q k d] w (LaidPost w (over (pad l) m)) := by
  have HL := Lib.hid hl
  have HM := Lib.hid hm
  have HN := Lib.hid hn
  have HK := Lib.hid hk
  have H1 := Lib.hid h1
  have H2 := Lib.hid h2
  clear hl hm hn hk h1 h2
  go_enter Tryz.func56, Tryz.ntmps56
  have hz : l.length ≤ (zeros 512).length := by rw [zeros_length]; exact H1.out
  have HZ := Lib.hid hz
  have hz2 : m.length ≤ (over (zeros 512) l).length := by rw [over_length hz, zeros_length]; exact H2.out
  have HZ2 := Lib.hid hz2
  have HZ3 := Lib.hid (pad_over l)
  have hz4 : 512 = (zeros 512).length := (zeros_length 512).symm
  have hz5 : 512 = (over (zeros 512) l).length := by rw [over_length hz, zeros_length]
  have HZ4 := Lib.hid hz4
  have HZ5 := Lib.hid hz5
  clear hz hz2 hz4 hz5
  go_wp2_with (first | (at_make; refine make_u8 rfl _ _ rfl rfl rfl ?_; intro w1 h1 hb1; have H1 := Lib.hid h1; have HB1 := Lib.hid hb1; clear h1 hb1) | (refine copy_u8 rfl (.tmp 7) (.tmp 8) rfl rfl H1.out HZ4.out rfl (HL.out.below HB1.out) HN.out HZ.out HB1.out (Nat.le_refl _) ?_; intro w2 h2 hb2; have H2 := Lib.hid h2; have HB2 := Lib.hid hb2; clear h2 hb2) | (refine copy_u8 rfl (.tmp 10) (.tmp 11) rfl rfl H2.out HZ5.out rfl (HM.out.below HB2.out) HK.out HZ2.out HB2.out (Nat.le_refl _) ?_; intro w3 h3 hb3; have H3 := Lib.hid h3; have HB3 := Lib.hid hb3; clear h3 hb3))
  go_ret
  exact ⟨_, rfl, Nat.le_refl _, by rw [HZ3.out]; exact H3.out, HB3.out⟩

end Go.Proofs.YtngnmakeaniapaaGreatDoor

