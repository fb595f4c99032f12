/-
  sector.Crash: the disk that is found behind a crash.
-/
import Derived.Test.YtholgkmlfgmhfaaSRead
import Derived.Laws.Externs
import Derived.Deep.QuietTactic
import Derived.BigQuiet
set_option linter.unusedVariables false
set_option maxRecDepth 100000
namespace Go.Proofs.Ytholgkmlfgmhfaa
open Go.RowKit

section
variable {P : Program} (w : World)
theorem map_equalIn_nil (d : Nat) (t k e : TypeId) (p : Option Nat) (h : P.underlying t = some (.map k e)) : (Op.equalIn (d + 1) t (.map p) (.map none)).run P w = .ok p.isNone w := by
  cases p <;> simp [Op.equalIn, run_underlying h]
theorem map_eql_nil (t k e : TypeId) (p : Option Nat) (h : P.underlying t = some (.map k e)) : (binOp .eql t (.map p) (.map none)).run P w = .ok (.bool p.isNone) w := by
  simp only [binOp]
  simp [show Op.equal t (.map p) (.map none) = Op.equalIn (9999 + 1) t (.map p) (.map none) from rfl, map_equalIn_nil w 9999 t k e p h]
end
theorem map_assert (w : World) (v : Value) : (Instr.typeAssert (.iface 50 v) 20 50 false).run Try.prog w = .ok v w := by
  simp [Instr.typeAssert, run_underlying Try.underlying50, go_sem, Result.andThen]
theorem map_clone {w : World} {r : Nat} {es : Array MapEntry} {clock : Nat} (t : TypeId) (hb : w.heap[r]? = some (.map es clock)) :
    (Extern.MapsClone.clone #[.iface t (.map (some r))]).run Try.prog w = .ok (.iface t (.map (some w.heap.size))) (w.alloc (.map es clock)) := by
  have e : Extern.MapsClone.clone #[.iface t (.map (some r))] = (getObj r >>= fun o => match o with
      | .map entries clock => (newObj (.map entries clock) >>= fun n => pure (.iface t (.map (some n))))
      | _ => stuck "maps.clone: a map expected") := rfl
  rw [e]
  simp [MapKept.run_getObj_map hb, Result.andThen, go_sem]

def ClonePost (w : World) (f : Int → Option Value) (e : Ending) (w' : World) : Prop := ∃ m, e = .returned (.map (some m)) ∧ w.heap.size ≤ m ∧ MapIs w' m f ∧ Below w.heap.size w w'

set_option maxHeartbeats 2000000 in
theorem clone_any {w : World} {b : Nat} {f : Int → Option Value} (h : MapIs w b f) : Calls Try.prog 33 #[.map (some b)] w (ClonePost w f) := by
  obtain ⟨es, clock, hb, h'⟩ := h
  have hq := fun w => map_eql_nil (P := Try.prog) w 50 _ _ (some b) Try.underlying50
  have hfin : ClonePost w f (.returned (.map (some w.heap.size))) (w.alloc (.map es clock)) := ⟨_, rfl, Nat.le_refl _, ⟨es, clock, heap_alloc_new w _, h'⟩, sbox1 _ _⟩
  have HF := Lib.hid hfin
  clear hfin h'
  go_enter Try.func33, Try.ntmps33
  go_wp2
  rw [run_callFunc_extern Try.func34 (by kernel_rfl) (by kernel_rfl) (by kernel_rfl) (e := Extern.MapsClone.clone) (by kernel_rfl), map_clone 50 hb]
  simp only [Result.andThen]
  rw [Oper.upon_value]
  go_wp2
  rw [map_assert]
  simp only [Result.andThen]
  rw [Oper.upon_value]
  go_wp2
  go_ret
  exact HF.out

/-- Whole numbers that lie there (of none nothing is said). -/
def Ks (w : World) (q : Option Addr) (l : List Int) : Prop := l ≠ [] → ∃ b o, q = some ⟨b, o, none⟩ ∧ ∀ i x, l[i]? = some x → w.cell? ⟨b, o + i, none⟩ = some (.int .i64 x)
theorem Ks.nil (w : World) (q : Option Addr) : Ks w q [] := fun h => absurd rfl h
theorem Ks.below {w w' : World} {q : Option Addr} {l : List Int} (h : Ks w q l) (hb : Below w.heap.size w w') : Ks w' q l := by
  intro hne
  obtain ⟨b, o, hp, hc⟩ := h hne
  refine ⟨b, o, hp, fun i u hi => ?_⟩
  have h1 := hc i u hi
  rw [hb.cell (World.block_lt_of_cell? _ _ h1)]
  exact h1
theorem Ks.at {w : World} {q : Option Addr} {l : List Int} (h : Ks w q l) {i : Nat} {x : Int} (hx : l[i]? = some x) : ∃ b o, q = some ⟨b, o, none⟩ ∧ w.cell? ⟨b, o + i, none⟩ = some (.int .i64 x) := by
  obtain ⟨b, o, hp, hc⟩ := h (by intro e; subst e; simp at hx)
  exact ⟨b, o, hp, hc i x hx⟩

theorem keepOne_len {f : Int → List UInt8} {x : Wr} {n : Int} (hf : ∀ k, (f k).length = 512) (hx : x.l.length = 512) (k : Int) : (keepOne f x n k).length = 512 := by
  unfold keepOne putAt
  split
  · exact hf k
  · show (if _ then _ else _ : List UInt8).length = 512
    split
    · rw [over_length (by rw [hf, List.length_take]; omega)]
      exact hf _
    · exact hf k
theorem kept_len {f : Int → List UInt8} (hf : ∀ k, (f k).length = 512) : ∀ l : List (Wr × Int), (∀ p ∈ l, p.1.l.length = 512) → ∀ k, (kept f l k).length = 512 := by
  have : ∀ l : List (Wr × Int), (∀ p ∈ l, p.1.l.length = 512) → ∀ k, (kept f l.reverse k).length = 512 := by
    intro l
    induction l with
    | nil => intro _ k; exact hf k
    | cons x l ih =>
      intro h k
      rw [List.reverse_cons, kept_snoc]
      exact keepOne_len (ih fun p hp => h p (by simp [hp])) (h x (by simp)) k
  intro l h k
  have h' := this l.reverse (fun p hp => h p (by simpa using hp)) k
  rwa [List.reverse_reverse] at h'

section
variable {w : World} {ops : Array Oper} {o : Oper} {a : Act} {K : Act → World → Prop} {Q : Exit → Act → World → Prop} {E : Prop} {b : Nat} {f : Int → Option Value}

/-- m[k], as a step of a region that draws its order. -/
theorem step_look (hg : o.guard = none) (m x : Operand) (ok : Bool) (hop : o.op = Op.lookup 50 m x ok) (hm : a.eval m = .map (some b)) (h : MapIs w b f) {k : Int} (hx : a.eval x = .int .i64 k) {r : Value}
    (hr : r = if ok then .tuple #[(f k).getD (.slice none 0 0), .bool (f k).isSome] else (f k).getD (.slice none 0 0)) (hK : K (a.put o.dst r) w) : if Region.wanted o (yielded ops a.tmps) = true then Oper.wp Try.prog o a w K Q else E := by
  rw [if_pos (by simp [Region.wanted, hg])]
  subst hr
  have hrun := h.look Try.underlying50 Try.underlying3 k ok (zero_bytes w)
  unfold Oper.wp
  simp [execOp, hop, hm, hx, hrun, Result.andThen]
  exact hK

/-- m[k] = v, as a step of a region that draws its order. -/
theorem step_store (hg : o.guard = none) (m x v : Operand) (hop : o.op = Op.mapUpdate 50 m x v) (hm : a.eval m = .map (some b)) (h : MapIs w b f) {k : Int} (hx : a.eval x = .int .i64 k) {u : Value} (hv : a.eval v = u)
    (hK : ∀ w', MapIs w' b (fun x => if x = k then some u else f x) → w.grownBy w' (some b) → K (a.put o.dst undef) w') : if Region.wanted o (yielded ops a.tmps) = true then Oper.wp Try.prog o a w K Q else E := by
  rw [if_pos (by simp [Region.wanted, hg])]
  obtain ⟨es, c, hrun, h1⟩ := h.store Try.underlying50 Try.underlying3 k u
  obtain ⟨_, _, hb, _⟩ := h
  unfold Oper.wp
  simp [execOp, hop, hm, hx, hv, hrun, Result.andThen]
  exact hK _ h1 (setBlock_grown hb)
end

/-- Ahead of a round of Crash: j writes were looked at. -/
structure CrInv (w wr : World) (m : Nat) (L : Int → List UInt8) (f : Int → Option Value) : Prop where
  map : MapIs wr m f
  l : ∀ k, (f k = none ∧ L k = zeros 512) ∨ ∃ g, f k = some (sl g) ∧ Sec wr g (L k)
  below : Below w.heap.size w wr

theorem CrInv.on {w wr w' : World} {m : Nat} {L : Int → List UInt8} {f : Int → Option Value} (h : CrInv w wr m L f) (hb : Below wr.heap.size wr w') : CrInv w w' m L f := by
  refine ⟨h.map.block (hb.block _ h.map.lt), fun k => ?_, h.below.trans (hb.mono h.below.size)⟩
  rcases h.l k with h | ⟨g, h, h'⟩
  · exact .inl h
  · exact .inr ⟨g, h, h'.below hb⟩

theorem CrInv.put {w wr w' : World} {m : Nat} {L : Int → List UInt8} {f : Int → Option Value} (h : CrInv w wr m L f) (hm : w.heap.size ≤ m) {k : Int} {g : Nat} {b : List UInt8} (hs : Sec wr g b)
    (hm' : MapIs w' m fun x => if x = k then some (.slice (some ⟨g, 0, none⟩) 512 512) else f x) (hg : wr.grownBy w' (some m)) :
    CrInv w w' m (putAt L k b) (fun x => if x = k then some (.slice (some ⟨g, 0, none⟩) 512 512) else f x) := by
  refine ⟨hm', fun x => ?_, h.below.grown hg h.below.size fun i hi => by cases hi; exact hm⟩
  unfold putAt
  by_cases hx : x = k
  · rw [if_pos hx, if_pos hx]
    exact .inr ⟨g, rfl, map_others hg h.map hs⟩
  · rw [if_neg hx, if_neg hx]
    rcases h.l x with h' | ⟨g, h', hs'⟩
    · exact .inl h'
    · exact .inr ⟨g, h', map_others hg h.map hs'⟩

end Go.Proofs.Ytholgkmlfgmhfaa
