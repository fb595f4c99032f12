/-
  keys.Put: its contract.
-/
import Derived.Test.YtjimbjcfoebimaaKPut2
import Derived.Test.YtjimbjcfoebimaaBytesF
import Derived.Deep.RegionHeld3
import Derived.Outline
set_option linter.unusedVariables false
set_option maxRecDepth 100000
namespace Go.Proofs.Ytjimbjcfoebimaa
open Go.RowKit

/-- A box: all its cells in later worlds. -/
theorem box_all {w w1 : World} {cs : Array Value} {t : TypeId} (hb : Below (w.alloc (.cells cs t)).heap.size (w.alloc (.cells cs t)) w1) : ∀ i, w1.cell? ⟨w.heap.size, i, none⟩ = cs[i]? := box_cell hb

set_option maxHeartbeats 1600000 in
theorem keysPut_any {w : World} {p : Option Addr} {b : List UInt8} (hb : Bs w p b) {n0 c0 : Nat} (hn0 : n0 = b.length) (hnc : n0 ≤ c0) (hc0 : c0 ≤ 9223372036854775807) (hp : p = none → c0 = 0) (hlen : b.length ≤ 100000)
    {k n : Int} {f : Nat} {s : ByteArray} {q : Option Addr} {m c : Nat} {l : List At} (h : VaOk w ⟨k, n, f, s⟩ q m c l) :
    Calls Try.prog 14 #[.slice p n0 c0, .agg #[.int .i64 k, .int .i64 n, .float .f64 f, .string s, .slice q m c]] w (PutPost w (b ++ putK ⟨k, n, f, s⟩ l)) := by
  obtain ⟨W, hW⟩ : ∃ W, W = (w.alloc (.cells #[.int .i64 k, .int .i64 n, .float .f64 f, .string s, .slice q m c] 27)) := ⟨_, rfl⟩
  have HK : Hid (∀ w', Below W.heap.size W w' → (w'.cell? ⟨w.heap.size, 0, none⟩ = some (.int .i64 k) ∧ w'.cell? ⟨w.heap.size, 1, none⟩ = some (.int .i64 n) ∧ w'.cell? ⟨w.heap.size, 2, none⟩ = some (.float .f64 f) ∧ w'.cell? ⟨w.heap.size, 3, none⟩ = some (.string s) ∧ w'.cell? ⟨w.heap.size, 4, none⟩ = some (.slice q m c))) := by
    refine Lib.hid fun w' hb => ?_
    rw [hW] at hb
    have h1 := box_all hb
    exact ⟨h1 0, h1 1, h1 2, h1 3, h1 4⟩
  have HWB : Hid (∀ w', Below W.heap.size W w' → Below w.heap.size w w') := by
    refine Lib.hid fun w' hb => ?_
    rw [hW] at hb
    exact box_below hb
  have hWs : W.heap.size = w.heap.size + 1 := by rw [hW]; simp
  have HWs := Lib.hid hWs
  have hst := store_flt
  have H1 : Hid (∀ w', Below W.heap.size W w' → Calls Try.prog 24 #[.agg #[.int .i64 k, .int .i64 n, .float .f64 f, .string s, .slice q m c]] w' fun e w'' => e = .returned (.bool (validV ⟨k, n, f, s⟩ l)) ∧ Below w'.heap.size w' w'') :=
    Lib.hid fun w' hb => valid_any (h.below (HWB.out _ hb))
  have H2 : Hid (validV ⟨k, n, f, s⟩ l = true → ∀ w', Below W.heap.size W w' → Calls Try.prog 28 #[.agg #[.int .i64 k, .int .i64 n, .float .f64 f, .string s, .slice q m c]] w' (PutPost w' (valK ⟨k, n, f, s⟩ l))) :=
    Lib.hid fun va w' hb => valueBytes_any (h.below (HWB.out _ hb)) va
  have HE : Hid (putK ⟨k, n, f, s⟩ l = if validV ⟨k, n, f, s⟩ l = true then valK ⟨k, n, f, s⟩ l else []) := Lib.hid rfl
  have HV : Hid (validV ⟨k, n, f, s⟩ l = true → (valK ⟨k, n, f, s⟩ l).length ≤ 8242) := Lib.hid valK_len
  have HV0 : Hid (0 < (valK ⟨k, n, f, s⟩ l).length) := Lib.hid (valK_pos _ _)
  have HL := Lib.hid hb
  have HN := Lib.hid hn0
  have HP := Lib.hid hp
  clear h hb hn0 hp hWs
  generalize putK ⟨k, n, f, s⟩ l = pv at *
  generalize valK ⟨k, n, f, s⟩ l = vv at *
  generalize validV ⟨k, n, f, s⟩ l = x at *
  obtain ⟨n1, hn1⟩ : ∃ x, x = vv.length := ⟨_, rfl⟩
  have HN1 := Lib.hid hn1
  clear hn1
  go_enter Try.func14, Try.ntmps14
  go_wp2_with fail
  rw [← hW]
  replace hW := Lib.hid hW
  refine (H1.out _ (Below.refl _ _)).mono ?_; rintro e w1 ⟨rfl, hb1⟩
  have HB1 := Lib.hid hb1
  have HL1 := Lib.hid (HL.out.below (HWB.out _ hb1))
  clear hb1
  cases x
  · have hE : pv = [] := by rw [HE.out, if_neg (by simp)]
    subst hE
    go_wp2_with fail
    refine (clone_any HL1.out HN.out HP.out hlen).mono ?_
    rintro e w2 ⟨v2, rfl, ho2, hb2⟩
    have HO2 := Lib.hid ho2
    have HB2 := Lib.hid (HB1.out.trans (hb2.mono HB1.out.size))
    clear ho2 hb2
    go_wp2
    go_ret
    exact ⟨_, rfl, by rw [List.append_nil]; exact HO2.out.le (HWB.out _ HB1.out).size, HWB.out _ HB2.out⟩
  · have hE : pv = vv := by rw [HE.out, if_pos rfl]
    subst hE
    have H3 := Lib.hid (H2.out (by trivial))
    have HV3 := Lib.hid (HV.out (by trivial))
    clear H2 HV HE
    go_wp2_with fail
    go_region_held3 (fun w' => w'.cell? ⟨w.heap.size, 0, none⟩ = some (.int .i64 k) ∧ w'.cell? ⟨w.heap.size, 1, none⟩ = some (.int .i64 n) ∧ w'.cell? ⟨w.heap.size, 2, none⟩ = some (.float .f64 f) ∧ w'.cell? ⟨w.heap.size, 3, none⟩ = some (.string s) ∧ w'.cell? ⟨w.heap.size, 4, none⟩ = some (.slice q m c))
      (first | exact HK.out _ HB1.out.drew | exact HK.out _ HB3.out | exact HK.out _ HB2.out)
      (first
        | (go_at_call 28; refine (H3.out _ HB1.out.drew).mono ?_; rintro e w2 ⟨v2, rfl, ho2, hb2⟩; have HB2 : Hid (Below W.heap.size W w2) := Lib.hid (HB1.out.drew.trans (hb2.mono HB1.out.drew.size)); obtain ⟨p2, c2, rfl, _, _, hs2, _⟩ := ho2.form HN1.out; have HS2 := Lib.hid hs2; clear ho2 hb2 hs2)
        | (refine step_full rfl (.tmp 15) (.tmp 17) rfl HN.out HN.out rfl (HL.out.below (HWB.out _ HB2.out)) HN1.out rfl HS2.out HV0.out (by have := HV3.out; omega) ?_; intro v3 w3 ho3 hb3; have HO3 := Lib.hid ho3; have HB3 : Hid (Below W.heap.size W w3) := Lib.hid (HB2.out.trans (hb3.mono HB2.out.size)); clear ho3 hb3))
    go_wp2
    go_ret
    exact ⟨_, rfl, HO3.out.le (HWB.out _ HB2.out).size, HWB.out _ HB3.out⟩

end Go.Proofs.Ytjimbjcfoebimaa
