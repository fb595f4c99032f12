/-
  What the laws of sector share: a slice of ints of the law's own; a disk stays where other blocks change; what is kept whole is flushed.
-/
import Derived.Test.YtholgkmlfgmhfaaSCrashM
import Derived.Test.YtholgkmlfgmhfaaSRow
set_option linter.unusedVariables false
set_option maxRecDepth 100000
namespace Go.Proofs.Ytholgkmlfgmhfaa
open Go.RowKit

theorem DiskAt.keeps {K : Obj → Bool} {w w' : World} {B p : Nat} {S : SD} (h : DiskAt w B p S) (hk : Keeps K w w') (hK : ∀ o, ofDisk o = true → K o = false) (hu : ∀ c f, K (.cells c 5 f) = false) : DiskAt w' B p S := by
  obtain ⟨lm, fm, v, ms, fl, ff, h1, h2, h3, h4, h5, h6, h7, h8, h9, h10, h11, h12, h13⟩ := h
  have mp : ∀ {b : Nat} {f : Int → Option Value}, MapIs w b f → MapIs w' b f := fun {b f} ⟨es, c, q1, q2⟩ => ⟨es, c, hk.stay q1 (hK _ rfl), q2⟩
  refine ⟨lm, fm, v, ms, fl, ff, hk.stay h1 (hK _ (ofDisk_own _ _)), h2, h3, h4, h5, h6, owns_on h7 fun g c hg => hk.stay hg (hK _ (ofDisk_write _ _)), fun x hx => hk.sec hu (h8 x hx), mp h9, mp h10, fun k => ?_, fun k => ?_, h13⟩
  · rcases h11 k with h | ⟨g, h, h'⟩
    · exact .inl h
    · exact .inr ⟨g, h, hk.sec hu h'⟩
  · rcases h12 k with h | ⟨g, l, h, h1, h'⟩
    · exact .inl h
    · exact .inr ⟨g, l, h, h1, hk.sec hu h'⟩

/-- The ints of a slice of the law's own. -/
def i64s (l : List Int) : List Value := l.map fun x => .int .i64 x
def OwnI (w : World) (B : Nat) (v : Value) (l : List Int) : Prop := w.ownsRow B 3 1 v l.length (i64s l)
def isInt : Obj → Bool
  | .cells _ t _ => t == 3
  | _ => false
theorem isInt_u8 (c : Array Value) (f : Nat × Nat) : isInt (.cells c 5 f) = false := by
  show ((5 : TypeId) == 3) = false
  decide
theorem isInt_int (c : Array Value) (f : Nat × Nat) : isInt (.cells c 3 f) = true := by
  show ((3 : TypeId) == 3) = true
  decide
theorem isInt_disk (o : Obj) (h : ofDisk o = true) : isInt o = false := by
  cases o with
  | cells c t f =>
    have h' : (t == 53 || t == 66) = true := h
    rw [Bool.or_eq_true, beq_iff_eq, beq_iff_eq] at h'
    show (t == 3) = false
    rcases h' with rfl | rfl
    · decide
    · decide
  | _ => rfl
theorem info_int : (Try.prog.info? 3).map (fun i => (i.zero, i.size, i.bytes)) = some (some (.int .i64 0), 1, 8) := by kernel_rfl
theorem OwnI.nil (w : World) (B : Nat) : OwnI w B (.slice none 0 0) [] := World.ownsRow_nil w B _ _
theorem OwnI.keeps {w w' : World} {B : Nat} {v : Value} {l : List Int} (h : OwnI w B v l) (hk : Keeps ofDisk w w') : OwnI w' B v l := by
  refine ⟨h.1, ?_⟩
  rcases h.2 with h0 | ⟨g, cap, cur, hv, h1, hg, h2⟩
  · exact .inl h0
  · exact .inr ⟨g, cap, cur, hv, h1, hk.stay hg (ofDisk_int _ _), h2⟩
theorem OwnI.form {w : World} {B : Nat} {v : Value} {l : List Int} (h : OwnI w B v l) : ∃ q c, v = .slice q l.length c ∧ Ks w q l := by
  rcases h.2 with ⟨rfl, h0⟩ | ⟨g, cap, cur, rfl, hb, hg, hnc, hcm, hcs, htake⟩
  · obtain rfl := List.eq_nil_of_length_eq_zero h0
    exact ⟨none, 0, rfl, Ks.nil _ _⟩
  · refine ⟨some ⟨g, 0, none⟩, cap, rfl, fun _ => ⟨g, 0, rfl, fun i x hi => ?_⟩⟩
    have := h.cells (g := g) rfl i (.int .i64 x) (by simp [i64s, hi])
    simpa [Addr.add_lit] using this

/-- append(ints, one int) -/
theorem app_int {w : World} {ops : Array Oper} {rest : List Oper} {o : Oper} {a : Act} {Q : Exit → Act → World → Prop} (hgd : o.guard = none) (s x : Operand)
    (ho : o.op = .call { callee := .builtin .append, args := #[s, x], argTypes := #[31, 31] })
    {B : Nat} {v : Value} {l : List Int} (hs : a.eval s = v) (hown : OwnI w B v l) {b c : Nat} {y : Int} (hx : a.eval x = .slice (some ⟨b, 0, none⟩) 1 c) (h0 : w.cell? ⟨b, 0, none⟩ = some (.int .i64 y)) (hlen : l.length ≤ 1000000000) (hB : B ≤ w.heap.size)
    (h : ∀ v' w', OwnI w' B v' (l ++ [y]) → Below B w w' → Keeps isInt w w' → wpList Try.prog ops Q rest (a.put o.dst v') w') : wpList Try.prog ops Q (o :: rest) a w := by
  obtain ⟨i, hi, hz0, hz1, hz2⟩ := info_parts info_int
  refine wpList_append_own w hgd s x _ ho B 3 i (.int .i64 0) 1 8 Try.underlying31 hi hz0 hz1 hz2 rfl (by decide) v l.length (i64s l) hs hown ⟨b, 0, none⟩ 1 c [.int .i64 y] hx rfl
    (fun j u hj => by
      rw [Addr.add_lit, Nat.zero_add]
      match j, hj with
      | 0, hj => cases hj; exact h0
      | j + 1, hj => simp at hj) (fun u hu => by obtain rfl := List.mem_singleton.1 hu; rfl) (by simp only [maxLen]; omega) (by omega) hB ?_
  intro v' w' h1 h2 _
  refine h v' w' ?_ ((Below.refl B w).grown h2 hB fun k hk => (World.ownsRow.lt hown k hk).1) (Keeps.grown h2 fun b o hb ho => ?_)
  · unfold OwnI
    rw [List.length_append]
    simpa [i64s] using h1
  · rcases hown.2 with ⟨rfl, _⟩ | ⟨g, cap, cur, rfl, _, hg, _⟩
    · simp [Value.ownBlock] at hb
    · simp only [Value.ownBlock, Option.some.injEq] at hb
      subst hb
      rw [hg] at ho
      cases ho
      exact isInt_int _ _

theorem kept_whole {f : Int → List UInt8} (hf : ∀ k, (f k).length = 512) {n : Int} (hn : 512 ≤ n) : ∀ ws : List Wr, (∀ x ∈ ws, x.l.length = 512) → kept f (ws.zip (List.replicate ws.length n)) = flushed f ws := by
  have : ∀ ws : List Wr, (∀ x ∈ ws, x.l.length = 512) → kept f (ws.reverse.zip (List.replicate ws.reverse.length n)) = flushed f ws.reverse ∧ ∀ k, (flushed f ws.reverse k).length = 512 := by
    intro ws
    induction ws with
    | nil => intro _; exact ⟨rfl, hf⟩
    | cons x ws ih =>
      intro h
      obtain ⟨h1, h2⟩ := ih fun y hy => h y (by simp [hy])
      have hx := h x (by simp)
      rw [List.reverse_cons, List.length_append, List.length_singleton, List.replicate_succ', List.zip_append (by simp), flushed_snoc]
      show kept f (_ ++ [(x, n)]) = _ ∧ _
      rw [kept_snoc, h1]
      refine ⟨?_, fun k => ?_⟩
      · show keepOne _ x n = _
        unfold keepOne
        rw [if_neg (by omega)]
        have e : (min n 512).toNat = 512 := by omega
        rw [e, List.take_of_length_le (by omega)]
        congr 1
        unfold over
        rw [List.drop_eq_nil_of_le (by rw [h2, hx]; exact Nat.le_refl _), List.append_nil]
      · unfold putAt
        split
        · exact hx
        · exact h2 k
  intro ws h
  have h' := (this ws.reverse (fun x hx => h x (by simpa using hx))).1
  rwa [List.reverse_reverse] at h'

theorem read_len {S : SD} (h : S.Ok) (k : Int) : (S.read k).length = 512 := by
  unfold SD.read
  cases hf : found S.waits k with
  | none => exact h.l k
  | some l => exact found_len h.w hf

end Go.Proofs.Ytholgkmlfgmhfaa
