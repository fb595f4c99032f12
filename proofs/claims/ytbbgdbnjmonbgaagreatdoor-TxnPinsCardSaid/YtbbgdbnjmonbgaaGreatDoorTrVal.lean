/-
  tree.
-/
import Derived.Test.YtbbgdbnjmonbgaaGreatDoorH00
import Derived.Test.YtbbgdbnjmonbgaaGreatDoorH24
import Derived.LoopTactic
import Derived.Deep.QuietTactic
import Derived.BigQuiet
set_option linter.unusedVariables false
set_option linter.unusedSimpArgs false
set_option maxRecDepth 100000
namespace Go.Proofs.YtbbgdbnjmonbgaaGreatDoor
open Go.RowKit
inductive LongS (X : PG) : (Int → Bool) → Int → Nat → List UInt8 → List Int → Prop
 | done {seen : Int → Bool} : LongS X seen 0 0 [] []
 | more {seen : Int → Bool} {no : Int} {left : Nat} {l bs : List UInt8} {ps : List Int} : 0 < left → seen no = false → X.page no = some (4, l) → l.length = 2 + min 491 left → LongS X (add seen no) ((leN (l.take 2) : Nat) : Int) (left - min 491 left) bs ps → LongS X seen no left (l.drop 2 ++ bs) (no :: ps)
theorem LongS.doneIff {X : PG} {seen : Int → Bool} {no : Int} {bs : List UInt8} {ps : List Int} : LongS X seen no 0 bs ps ↔ no = 0 ∧ bs = [] ∧ ps = [] := by
 constructor
 ·
  intro h
  cases h with
  | done => exact ⟨rfl, rfl, rfl⟩
  | more h0 _ _ _ _ => omega
 ·
  rintro ⟨rfl, rfl, rfl⟩
  exact .done
theorem LongS.moreIff {X : PG} {seen : Int → Bool} {no : Int} {left : Nat} {l : List UInt8} (h0 : 0 < left) (hs : seen no = false) (hp : X.page no = some (4, l)) (hl : l.length = 2 + min 491 left) {bs : List UInt8} {ps : List Int} :
  LongS X seen no left bs ps ↔ ∃ bs' ps', bs = l.drop 2 ++ bs' ∧ ps = no :: ps' ∧ LongS X (add seen no) ((leN (l.take 2) : Nat) : Int) (left - min 491 left) bs' ps' := by
 constructor
 ·
  intro h
  cases h with
  | done => omega
  | more _ _ hp' _ h' =>
   rw [hp] at hp'
   cases hp'
   exact ⟨_, _, rfl, rfl, h'⟩
 ·
  rintro ⟨bs', ps', rfl, rfl, h'⟩
  exact .more h0 hs hp hl h'
theorem LongS.page {X : PG} {seen : Int → Bool} {no : Int} {left : Nat} {bs : List UInt8} {ps : List Int} (h : LongS X seen no left bs ps) (h0 : 0 < left) : seen no = false ∧ ∃ l, X.page no = some (4, l) ∧ l.length = 2 + min 491 left := by
 cases h with
 | done => omega
 | more _ hs hp hl _ => exact ⟨hs, _, hp, hl⟩
def ValS (X : PG) (seen : Int → Bool) (v : VlS) (bs : List UInt8) (ps : List Int) : Prop := if v.p = 0 then bs = v.l ∧ ps = [] else LongS X seen v.p v.g.toNat bs ps
section
variable {w w' : World} {B P pd sm : Nat} {X : PG} {seen seen' : Int → Bool}
theorem LookAt.only (h : LookAt w B P pd sm X seen) (ho : Only [sm] w w') (hm : MapSt w' sm (setOf seen')) : LookAt w' B P pd sm X seen' := by
 refine h.keeps ⟨ho.size, fun {i o} hi hK => ?_⟩ hm
 have hlt := (aL hi)
 rw [ho.block hlt ?_]
 ·
  exact hi
 ·
  intro hb
  obtain rfl := List.mem_singleton.1 hb
  obtain ⟨es, c, he, _⟩ := h.m.st
  rw [hi] at he
  cases he
  simp [isMaps] at hK
theorem LookAt.onlyOf (h : LookAt w B P pd sm X seen) (hs : LStep sm w w') : Only [sm] w w' :=
 ⟨hs.below.os, hs.below.tape, hs.below.output, hs.size, fun {k} hk hn => by
  obtain ⟨o, ho⟩ : ∃ o, w.heap[k]? = some o := ⟨_, Array.getElem?_eq_getElem hk⟩
  rw [ho]
  refine hs.keeps.stay ho ?_
  cases o with
  | map es c =>
   have hne : k ≠ sm := fun e => hn (by rw [e]; simp)
   simp [isMaps, hne]
  | _ => rfl⟩
theorem LookAt.later {w0 w1 : World} (h : LookAt w B P pd sm X seen) (hs : LStep sm w w0) (h0 : LookAt w0 B P pd sm X seen') (hb : Below w.heap.size w0 w1) : LookAt w1 B P pd sm X seen' ∧ LStep sm w w1 := by
 have hsz := hs.size
 have ho := h.onlyOf hs
 have ho1 : Only [sm] w w1 := ⟨hb.os.trans ho.os, hb.tape.trans ho.tape, hb.output.trans ho.output, Nat.le_trans ho.size hb.size, fun {k} hk hn => (hb.block k hk).trans (ho.block hk hn)⟩
 refine ⟨h.only ho1 (h0.m.block (hb.block _ h.lt)), ⟨hs.below.trans (hb.mono (Nat.le_of_lt h.lt)), ?_⟩⟩
 refine ⟨ho1.size, fun {i o} hi hK => ?_⟩
 rw [hb.block i (aL hi)]
 exact hs.keeps.stay hi hK
theorem app_ownG {w : World} {ops : Array Oper} {rest : List Oper} {o : Oper} {a : Act} {Q : Exit → Act → World → Prop} (hgd : o.guard = none) (s x : Operand)
  (ho : o.op = .call { callee := .builtin .append, args := #[s, x], argTypes := #[33, 33] })
  {B : Nat} {v : Value} {l m : List UInt8} (hs : a.eval s = v) (hown : Own w B v l) {ad : Addr} {n c : Nat} (hn : n = m.length) (hx : a.eval x = .slice (some ad) n c) (hsrc : Bs w (some ad) m)
  (hlen : l.length + m.length ≤ 140737488355328) (hB : B ≤ w.heap.size)
  (h : ∀ v' w', Own w' B v' (l ++ m) → w.grownBy w' v.ownBlock → wpList Tryz.prog ops Q rest (a.put o.dst v') w') : wpList Tryz.prog ops Q (o :: rest) a w := by
 subst hn
 obtain ⟨i, hi, hz0, hz1, hz2⟩ := info_parts info_u8
 have hcells : ∀ j u, (u8s m)[j]? = some u → w.cell? (ad.add j) = some u := by
  intro j u hj
  obtain ⟨y, hy, rfl⟩ := u8s_get hj
  obtain ⟨b, o, hp, hc⟩ := hsrc (by intro e; subst e; simp at hy)
  obtain rfl := Option.some.inj hp
  rw [Addr.add_lit]
  exact hc j y hy
 refine wpList_append_own w hgd s x _ ho B 5 i (.int .u8 0) 1 1 Tryz.underlying33 hi hz0 hz1 hz2 rfl (by decide) v l.length (u8s l) hs hown ad m.length c (u8s m) hx (by simp [u8s]) hcells (u8s_oneCell m) (by simp only [maxLen]; omega) (by omega) hB ?_
 intro v' w' h1 h2 _
 refine h v' w' ?_ h2
 unfold Own
 rw [← u8s_append, List.length_append]
 exact h1
theorem or_lo (x y : UInt8) : bits BinOp.or IntKind.i64 (x.toNat : Int) ((y.toNat : Int) * 256) = ((leN [x, y] : Nat) : Int) := by
 have ha := x.toNat_lt
 have hx := y.toNat_lt
 rw [show ((y.toNat : Int) * 256) = ((2 ^ 8 * y.toNat : Nat) : Int) by omega, or_i64 x.toNat (2 ^ 8 * y.toNat) (by omega) (by omega), Nat.or_comm, ← Nat.two_pow_add_eq_or_of_lt (i := 8) (b := x.toNat) ha y.toNat, IntKind.wrap_i64]
 simp only [leN]
 omega
def lnV : Value → Nat | .slice _ n _ => n | _ => 0
theorem Own.kbT {w : World} {B : Nat} {q : Option Addr} {n c : Nat} {l : List UInt8} (h : Own w B (.slice q n c) l) (hn : n = l.length) : Kb.T w ⟨q, c, l⟩ := by
 obtain ⟨p, c', hv, h1, h2, h3, h4⟩ := h.form hn
 cases hv
 refine ⟨⟨h3, by show l.length ≤ c; omega, h2, by first | exact h4.1 | exact h4⟩, fun a ha => ?_⟩
 rcases h.2 with ⟨e, _⟩ | ⟨g, cap, cur, e, _, hg, _⟩
 ·
  cases e; cases ha
 ·
  cases e; cases ha; exact ⟨_, _, hg⟩
theorem make_cap (sz : Nat) (hsz : sz ≤ 10000) : ∃ Z : Array Value, (∀ w : World, (Instr.makeSlice 33 (.int .i64 0) (.int .i64 (sz : Int))).run Tryz.prog w = .ok (.slice (some ⟨w.heap.size, 0, none⟩) 0 sz) (w.alloc (.cells Z 5))) ∧
  ∀ (w : World) (B : Nat), B ≤ w.heap.size → Own (w.alloc (.cells Z 5)) B (.slice (some ⟨w.heap.size, 0, none⟩) 0 sz) [] := by
 obtain ⟨i, hi, hz0, hz1, hz2⟩ := info_parts info_u8
 refine ⟨_, fun w => (run_makeSlice (P := Tryz.prog) (w := w) 33 5 i (.int .u8 0) Tryz.underlying33 hi hz0 .i64 .i64 0 (sz : Int) (by omega) (by omega) (by rw [hz1]; omega) (by rw [hz2]; omega) (by omega)).trans rfl, fun w B hB => ?_⟩
 refine ⟨rfl, .inr ⟨w.heap.size, sz, _, rfl, hB, heap_alloc_new w _, Nat.zero_le _, by unfold maxLen; omega, ?_, rfl⟩⟩
 rw [hz1]
 simp [madeCells, Value.cells]
def ValPostL (w : World) (B P pd sm : Nat) (X : PG) (seen : Int → Bool) (v : VlS) (e : Ending) (w' : World) : Prop :=
 (∃ (x : Kb) (ps : List Int), e = .returned (.tuple #[.slice x.q x.l.length x.c, .int .i64 0]) ∧ ValS X seen v x.l ps ∧ x.T w' ∧ LookAt w' B P pd sm X (addL seen ps) ∧ LStep sm w w') ∨
 (e = .returned (.tuple #[.slice none 0 0, .int .i64 18]) ∧ (∀ bs ps, ¬ ValS X seen v bs ps) ∧ (∃ seen', LookAt w' B P pd sm X seen') ∧ LStep sm w w')
theorem ValPostL.o {v : VlS} {e : Ending} (h : ValPostL w B P pd sm X seen v e w') : ∃ (x : Kb) (z : Int), e = .returned (.tuple #[.slice x.q x.l.length x.c, .int .i64 z]) ∧ LStep sm w w' ∧ ((z = 0 ∧ ∃ ps, ValS X seen v x.l ps ∧ x.T w' ∧ LookAt w' B P pd sm X (addL seen ps)) ∨ (z = 18 ∧ x = Kb.zero ∧ (∀ bs ps, ¬ ValS X seen v bs ps) ∧ ∃ seen', LookAt w' B P pd sm X seen')) := by
 rcases h with ⟨x, ps, rfl, h1, h2, h3, h4⟩ | ⟨rfl, h1, h2, h3⟩
 ·
  exact ⟨x, 0, rfl, h4, .inl ⟨rfl, ps, h1, h2, h3⟩⟩
 ·
  exact ⟨Kb.zero, 18, rfl, h3, .inr ⟨rfl, rfl, h1, h2⟩⟩
set_option maxHeartbeats 6400000 in
theorem value_any (h : LookAt w B P pd sm X seen) {v : Vl} (hv : v.Ok w) (ht : v.Ty w) (hg0 : 0 ≤ v.g) (hg : v.g ≤ 4096) :
  Calls Tryz.prog 47 #[.agg #[.pointer (some ⟨P, 0, none⟩), .map (some sm)], .agg #[.slice v.q v.l.length v.c, .int .i64 v.g, .int .i64 v.p]] w (ValPostL w B P pd sm X seen v.s) := by
 obtain ⟨W, hW⟩ : ∃ W, W = (w.alloc (.cells #[.pointer (some ⟨P, 0, none⟩), .map (some sm)] 95)).alloc (.cells #[.slice v.q v.l.length v.c, .int .i64 v.g, .int .i64 v.p] 108) := ⟨_, rfl⟩
 have e1 : (w.alloc (.cells #[.pointer (some ⟨P, 0, none⟩), .map (some sm)] 95)).heap.size = w.heap.size + 1 := by simp
 have hbw : Below w.heap.size w W := by rw [hW]; exact sbox2 _ _ _
 have hb0 : W.heap[w.heap.size]? = some (.cells #[.pointer (some ⟨P, 0, none⟩), .map (some sm)] 95 (0, 0)) := by
  rw [hW, Below.heap_alloc _ _ _ (by omega)]
  exact heap_alloc_new w _
 have hb1 : W.heap[w.heap.size + 1]? = some (.cells #[.slice v.q v.l.length v.c, .int .i64 v.g, .int .i64 v.p] 108 (0, 0)) := by
  have := heap_alloc_new (w.alloc (.cells #[.pointer (some ⟨P, 0, none⟩), .map (some sm)] 95)) (.cells #[.slice v.q v.l.length v.c, .int .i64 v.g, .int .i64 v.p] 108)
  rw [e1] at this
  rw [hW]
  exact this
 have HW := Hq (h.below hbw)
 have HSW : Hid (LStep sm w W) := Hq (h.step hbw)
 have HBW := Hq hbw
 have HWZ : Hid (W.heap.size = w.heap.size + 1 + 1) := Hq (by rw [hW]; simp)
 have HKX : Hid (∀ w', LStep sm W w' → (w'.cell? ⟨w.heap.size, 0, none⟩ = some (.pointer (some ⟨P, 0, none⟩)) ∧ w'.cell? ⟨w.heap.size, 1, none⟩ = some (.map (some sm))) ∧ w'.cell? ⟨w.heap.size + 1, 0, none⟩ = some (.slice v.q v.l.length v.c) ∧ w'.cell? ⟨w.heap.size + 1, 1, none⟩ = some (.int .i64 v.g) ∧ w'.cell? ⟨w.heap.size + 1, 2, none⟩ = some (.int .i64 v.p)) := Hq fun w' hs =>
  ⟨⟨(jC (hs.keeps.stay hb0 rfl) 0).trans rfl, (jC (hs.keeps.stay hb0 rfl) 1).trans rfl⟩, (jC (hs.keeps.stay hb1 rfl) 0).trans rfl, (jC (hs.keeps.stay hb1 rfl) 1).trans rfl, (jC (hs.keeps.stay hb1 rfl) 2).trans rfl⟩
 have hsr : LStep sm W W := ⟨Below.refl _ _, Keeps.refl _ _⟩
 have HSR := Hq hsr
 obtain ⟨⟨x0, x1⟩, y0, y1, y2⟩ := HKX.out W hsr
 by_cases hp0 : v.p = 0
 ·
  have hpb : (v.p == 0) = true := by rw [beq_iff_eq]; exact hp0
  have HVT : Hid (Kb.T W ⟨v.q, v.c, v.l⟩) := Hq ⟨⟨hv.bs.below hbw, hv.h1, hv.h2, hv.z⟩, fun a ha => (ht a ha).below hbw⟩
  have HVS : Hid (ValS X seen v.s v.l []) := Hq (by unfold ValS; rw [if_pos (show v.s.p = 0 from hp0)]; exact ⟨rfl, rfl⟩)
  clear h hv ht hbw hb0 hb1 hsr hg hg0
  rw [hp0] at hW ⊢
  clear hp0 hpb
  go_enter Tryz.func47, Tryz.ntmps47
  go_wp2_with fail
  rw [← hW]
  go_ret2
  exact .inl ⟨⟨v.q, v.c, v.l⟩, [], rfl, HVS.out, HVT.out, HW.out, HSW.out⟩
 ·
  have hpb : (v.p == 0) = false := by rw [beq_eq_false_iff_ne]; exact hp0
  obtain ⟨G, hG⟩ : ∃ G : Nat, v.g = (G : Int) := ⟨v.g.toNat, by omega⟩
  have hG4 : G ≤ 4096 := by omega
  have HVS : Hid (∀ bs ps, ValS X seen v.s bs ps ↔ LongS X seen v.p G bs ps) := Hq fun bs ps => by
   unfold ValS
   rw [if_neg (show ¬ v.s.p = 0 from hp0), show v.s.g.toNat = G by show v.g.toNat = G; omega]
   exact Iff.rfl
  rw [hG] at HKX hW y1 ⊢
  clear h hv ht hbw hb0 hb1 hsr hg hg0 hG
  obtain ⟨Z, hmk, hZO⟩ := make_cap G (by omega)
  have HZO := Hq hZO
  clear hZO
  go_enter Tryz.func47, Tryz.ntmps47
  go_wp2_with fail
  rw [← hW]
  replace hW := Hq hW
  have HI0 : Hid (Own (W.alloc (.cells Z 5)) W.heap.size (.slice (some ⟨W.heap.size, 0, none⟩) 0 G) [] ∧ LookAt (W.alloc (.cells Z 5)) B P pd sm X seen ∧ LStep sm W (W.alloc (.cells Z 5))) := Hq ⟨HZO.out _ _ (Nat.le_refl _), HW.out.below (sbox1 _ _), HW.out.step (sbox1 _ _)⟩
  clear HZO x0 x1 y0 y1 y2
  obtain ⟨W0, hW0⟩ : ∃ x, x = W.alloc (.cells Z 5) := ⟨_, rfl⟩
  rw [← hW0] at HI0 ⊢
  clear hW0
  go_loopw [6, 7] (fun vv nx wr => ∃ (q : Option Addr) (dn c : Nat) (bs : List UInt8) (ps : List Int) (no : Int), vv = .slice q dn c ∧ nx = .int .i64 no ∧ dn = bs.length ∧ dn ≤ G ∧ Own wr W.heap.size (.slice q dn c) bs ∧ LookAt wr B P pd sm X (addL seen ps) ∧ LStep sm W wr ∧ (∀ bs' ps', LongS X seen v.p G bs' ps' ↔ ∃ b2 p2, bs' = bs ++ b2 ∧ ps' = ps ++ p2 ∧ LongS X (addL seen ps) no (G - dn) b2 p2)) (fun vv _ _ => G - lnV vv)
  case atStart => exact ⟨_, 0, G, [], [], v.p, rfl, rfl, rfl, by omega, by rw [← HWZ.out]; exact HI0.out.1, HI0.out.2.1, HI0.out.2.2, fun bs' ps' => ⟨fun h => ⟨bs', ps', rfl, rfl, h⟩, fun ⟨b2, p2, e1, e2, h⟩ => by rw [e1, e2]; exact h⟩⟩
  case round =>
   obtain ⟨q, dn, c, bs, ps, no, rfl, rfl, hdn, hdG, how, hla, hst, hiff⟩ := hrel
   have HOW := Hq how
   have HLA := Hq hla
   have HST := Hq hst
   have HIF := Hq hiff
   have HDN := Hq hdn
   obtain ⟨⟨x0, x1⟩, y0, y1, y2⟩ := HKX.out wr hst
   clear how hla hst hiff hdn HI0
   by_cases hlt : dn < G
   ·
    have hlti : (dn : Int) < (G : Int) := by omega
    have HPG := Hq (lookPage_any HLA.out no)
    obtain ⟨R, hR⟩ : ∃ R : Nat, (G : Int) - (dn : Int) = (R : Int) := ⟨G - dn, by omega⟩
    have hRG : G - dn = R ∧ 0 < R ∧ R ≤ 4096 := by omega
    have HRG := Hq hRG
    obtain ⟨sz, hsz⟩ : ∃ z : Nat, min 491 R = z := ⟨_, rfl⟩
    have HSZ := Hq hsz
    have hmin : min (491 : Int) (R : Int) = (sz : Int) := by omega
    have hwr : IntKind.i64.wrap (R : Int) = (R : Int) := by rw [IntKind.wrap_i64]; omega
    have hws2 : IntKind.i64.wrap (2 + (sz : Int)) = 2 + (sz : Int) := by rw [IntKind.wrap_i64]; omega
    have hsz1 : 1 ≤ sz := by omega
    have HNIL : Hid (¬ (addL seen ps no = false ∧ ∃ l, X.page no = some (4, l) ∧ l.length = 2 + sz) → ∀ b p, ¬ ValS X seen v.s b p) := Hq fun hn b p hv => by
     obtain ⟨b2, p2, _, _, h2⟩ := (HIF.out _ _).1 ((HVS.out _ _).1 hv)
     rw [HRG.out.1] at h2
     have h3 := h2.page HRG.out.2.1
     rw [HSZ.out] at h3
     exact hn h3
    clear hRG hsz
    go_wp2_with fail
    refine HPG.out.mono ?_
    clear HPG
    rintro e w1 (⟨kind, l, u, hs1, hp1, rfl, ho1, hl1, hst1⟩ | ⟨hno1, rfl, ⟨seen2, hl1⟩, hst1⟩)
    ·
     have HS1 := Hq hs1
     have HO1 := Hq ho1
     have HP1 := Hq hp1
     have HL1 := Hq hl1
     have HST1 : Hid (LStep sm W w1) := Hq (HST.out.trans hst1)
     have HOW1 : Hid (Own w1 W.heap.size (.slice q dn c) bs) := Hq (row_keeps HOW.out hst1.keeps)
     obtain ⟨iq, ic, rfl, hic, hic2, hbs, hzz⟩ := ho1.form (n := l.length) rfl
     obtain ⟨⟨x0, x1⟩, y0, y1, y2⟩ := HKX.out w1 HST1.out
     have HBS := Hq hbs
     obtain ⟨ln, hln⟩ : ∃ x, x = l.length := ⟨_, rfl⟩
     rw [← hln] at hic
     have HLN := Hq hln
     rw [← hln]
     clear hs1 hp1 ho1 hl1 hst1 hbs hln
     by_cases hk4 : kind.toNat = 4
     ·
      have HK4 : Hid (kind = 4) := Hq (UInt8.toNat_inj.1 (by rw [hk4]; rfl))
      by_cases hll : ln = 2 + sz
      ·
       subst hll
       have hkb : (((kind.toNat : Nat) : Int) != 4) = false := by rw [bne_eq_false_iff_eq]; omega
       have hlb : (((2 + sz : Nat) : Int) != 2 + (sz : Int)) = false := by rw [bne_eq_false_iff_eq]; omega
       have hmin2 : (if (R : Int) < 491 then (R : Int) else 491) = (sz : Int) := by split <;> omega
       have HIN : Hid (Own w1 wr.heap.size (.slice iq (2 + sz) ic) l) := Hq (by have h1 := HO1.out; rw [← HLN.out] at h1; exact h1)
       obtain ⟨ib, io, rfl, hibl, _⟩ := HBS.out.at (by rw [← HLN.out]; omega)
       have HBD : Hid (Bs w1 (some ⟨ib, io + 2, none⟩) (l.drop 2)) := Hq (by
        intro hne
        obtain ⟨b', o', hq, hc⟩ := HBS.out (by intro e; rw [e] at hne; exact hne rfl)
        cases hq
        exact Bs.drop hc 2 hne)
       have HDL : Hid (sz = (l.drop 2).length) := Hq (by rw [List.length_drop, ← HLN.out]; omega)
       obtain ⟨u0, u1, hu⟩ : ∃ u0 u1, l.take 2 = [u0, u1] := by
        match l, HLN.out with
        | a :: b :: _, _ => exact ⟨a, b, rfl⟩
        | [a], h => simp at h; omega
        | [], h => simp at h
       have HU := Hq hu
       have HCB : Hid (∀ w2, w1.grownBy w2 (Value.slice q dn c).ownBlock → w2.cell? ⟨ib, io, none⟩ = some (.int .u8 (u0.toNat : Int)) ∧ w2.cell? ⟨ib, io + 1, none⟩ = some (.int .u8 (u1.toNat : Int))) := Hq fun w2 hg => by
        have hne : (Value.slice (some ⟨ib, io, none⟩) (2 + sz) ic).ownBlock ≠ (Value.slice q dn c).ownBlock := fun e => by
         have h1 := World.ownsRow.lt HIN.out ib rfl
         have h2 := World.ownsRow.lt HOW.out ib e.symm
         omega
        have hk : Own w2 wr.heap.size (.slice (some ⟨ib, io, none⟩) (2 + sz) ic) l := World.ownsRow.kept HIN.out hg (.inr hne)
        obtain ⟨p', c', hv, _, _, hb, _⟩ := hk.form HLN.out
        cases hv
        obtain ⟨b', o', hq, hc⟩ := hb (by intro e; rw [e] at hu; cases hu)
        cases hq
        have g0 : l[0]? = some u0 := by rw [← List.getElem?_take_of_lt (j := 2) (by omega), hu]; rfl
        have g1 : l[1]? = some u1 := by rw [← List.getElem?_take_of_lt (j := 2) (by omega), hu]; rfl
        exact ⟨hc 0 _ g0, hc 1 _ g1⟩
       clear hu
       have c1 : ¬ ic = 2 := by omega
       have c6 : (0 : Int) < 2 + (sz : Int) := by omega
       have c7 : (1 : Int) < 2 + (sz : Int) := by omega
       have c2 : (2 : Int) ≤ 2 + (sz : Int) := by omega
       have c3 : 2 ≤ ic := by omega
       have c4 : (2 : Int) ≤ (ic : Int) := by omega
       have c5 : 2 + sz ≤ ic := hic
       try dsimp only
       go_wp2_with (at_builtin; refine app_ownG rfl (.tmp 53) (.tmp 55) rfl rfl HOW1.out (m := l.drop 2) HDL.out rfl HBD.out (by have := HDN.out; have := HDL.out; omega) (by have := HST1.out.size; exact this) ?_; intro v2 w2 ho2 hg2; have HO2 := Hq ho2; have HG2 := Hq hg2; obtain ⟨d0, d1⟩ := HCB.out w2 hg2; clear ho2 hg2)
       have HOX : Hid (∃ q2 c2, v2 = .slice q2 (dn + sz) c2 ∧ Own w2 W.heap.size (.slice q2 (dn + sz) c2) (bs ++ l.drop 2)) := Hq (by
        obtain ⟨q2, c2, e, _⟩ := row_form HO2.out
        have e2 : (bs ++ l.drop 2).length = dn + sz := by rw [List.length_append, ← HDN.out, ← HDL.out]
        rw [e2] at e
        exact ⟨q2, c2, e, by rw [← e]; exact HO2.out⟩)
       obtain ⟨q2, c2, rfl, ho2⟩ := HOX.out
       have HO3 := Hq ho2
       have HBL : Hid (Below W.heap.size w1 w2) := Hq (HOW1.out.grown (Below.refl _ _) HST1.out.size HG2.out)
       have HLT := Hq (HW.out.later HST1.out HL1.out HBL.out)
       have hor := or_lo u0 u1
       have hul0 := u0.toNat_lt
       have hul1 := u1.toNat_lt
       have HLE : Hid (leN (l.take 2) = leN [u0, u1]) := Hq (by rw [HU.out])
       obtain ⟨nx, hnx⟩ : ∃ x, x = leN [u0, u1] := ⟨_, rfl⟩
       rw [← hnx] at hor HLE
       clear ho2 hnx HOX HO2
       go_quiet (fail)
       go_wp2
       go_roundw
       case rel =>
        have hbn : Below w2.heap.size w2 (w2.drewN nq) := belowN (Below.refl _ _) nq
        refine ⟨q2, dn + sz, c2, bs ++ l.drop 2, ps ++ [no], nx, rfl, rfl, by rw [List.length_append, ← HDN.out, ← HDL.out], ?_, row_below HO3.out hbn, ?_, HLT.out.2.trans (HLT.out.1.step hbn), fun bs' ps' => ?_⟩
        ·
         have h1 := HRG.out
         have h2 := HSZ.out
         omega
        ·
         rw [addL_snoc]
         exact HLT.out.1.below hbn
        ·
         have h1 := HRG.out
         have h2 := HSZ.out
         have hm : min 491 (G - dn) = sz := by rw [h1.1]; exact h2
         have hiff := fun (b2 : List UInt8) (p2 : List Int) => LongS.moreIff (X := X) (seen := addL seen ps) (no := no) (left := G - dn) (l := l) (by omega) HS1.out (by rw [HP1.out, HK4.out]) (by rw [hm]; exact HLN.out.symm) (bs := b2) (ps := p2)
         rw [HIF.out bs' ps']
         have hG : G - (dn + sz) = G - dn - min 491 (G - dn) := by rw [hm]; omega
         rw [hG, addL_snoc, ← HLE.out]
         constructor
         ·
          rintro ⟨b2, p2, e1, e2, h3⟩
          obtain ⟨b3, p3, e3, e4, h4⟩ := (hiff b2 p2).1 h3
          exact ⟨b3, p3, by rw [e1, e3, List.append_assoc], by rw [e2, e4, List.append_assoc]; rfl, h4⟩
         ·
          rintro ⟨b3, p3, e3, e4, h4⟩
          exact ⟨_, _, by rw [e3, List.append_assoc], by rw [e4, List.append_assoc]; rfl, (hiff _ _).2 ⟨b3, p3, rfl, rfl, h4⟩⟩
       case measure =>
        show G - (dn + sz) < G - dn
        omega
      ·
       have hkb : (((kind.toNat : Nat) : Int) != 4) = false := by rw [bne_eq_false_iff_eq]; omega
       have hlb : ((ln : Int) != 2 + (sz : Int)) = true := by rw [bne_iff_ne]; omega
       have HF := Hq (HNIL.out fun ⟨_, l', h1, h2⟩ => by
        rw [HP1.out] at h1
        cases h1
        exact hll (by rw [HLN.out]; exact h2))
       clear hk4
       try dsimp only
       go_wp2
       all_goals
        go_ret2
        exact .inr ⟨rfl, HF.out, ⟨_, HL1.out⟩, HSW.out.trans HST1.out⟩
     ·
      have hkb : (((kind.toNat : Nat) : Int) != 4) = true := by rw [bne_iff_ne]; omega
      have HF := Hq (HNIL.out fun ⟨_, l', h1, h2⟩ => by
       rw [HP1.out] at h1
       cases h1
       exact hk4 rfl)
      clear hk4
      try dsimp only
      go_wp2
      all_goals
       go_ret2
       exact .inr ⟨rfl, HF.out, ⟨_, HL1.out⟩, HSW.out.trans HST1.out⟩
    ·
     have HL1 := Hq hl1
     have HST1 : Hid (LStep sm W w1) := Hq (HST.out.trans hst1)
     obtain ⟨⟨x0, x1⟩, y0, y1, y2⟩ := HKX.out w1 HST1.out
     have HF := Hq (HNIL.out fun ⟨h1, l', h2, h3⟩ => hno1 ⟨h1, by rw [h2]; exact fun h => (by cases h)⟩)
     clear hno1 hl1 hst1
     try dsimp only
     go_wp2
     all_goals
      go_ret2
      exact .inr ⟨rfl, HF.out, ⟨_, HL1.out⟩, HSW.out.trans HST1.out⟩
   ·
    have hlti : decide ((dn : Int) < (G : Int)) = false := decide_eq_false (by omega)
    have hdG' : dn = G := by omega
    by_cases hno : no = 0
    ·
     subst hno
     have HF : Hid (ValS X seen v.s bs ps) := Hq ((HVS.out _ _).2 ((HIF.out _ _).2 ⟨[], [], by simp, by simp, by rw [hdG', Nat.sub_self]; exact .done⟩))
     have HT : Hid (Kb.T wr ⟨q, c, bs⟩) := Hq (HOW.out.kbT HDN.out)
     clear hdG'
     go_wp2
     go_ret2
     exact .inl ⟨⟨q, c, bs⟩, ps, by rw [← HDN.out]; rfl, HF.out, HT.out, HLA.out, HSW.out.trans HST.out⟩
    ·
     have hnb : (no != 0) = true := by rw [bne_iff_ne]; exact hno
     have HF : Hid (∀ b p, ¬ ValS X seen v.s b p) := Hq fun b p hv => by
      obtain ⟨b2, p2, _, _, h2⟩ := (HIF.out _ _).1 ((HVS.out _ _).1 hv)
      rw [hdG', Nat.sub_self] at h2
      exact hno (LongS.doneIff.1 h2).1
     clear hdG'
     go_wp2
     go_ret2
     exact .inr ⟨rfl, HF.out, ⟨_, HLA.out⟩, HSW.out.trans HST.out⟩
end
end Go.Proofs.YtbbgdbnjmonbgaaGreatDoor
