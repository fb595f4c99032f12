/-
  The laws' few: its contract.
-/
import Derived.Test.YtekaedafhiddeaaRMem
import Derived.Deep.QuietTactic
import Derived.BigQuiet
set_option linter.unusedVariables false
set_option maxRecDepth 100000
namespace Go.Proofs.Ytekaedafhiddeaa
open Go.RowKit

/-- It tells something. -/
def SomeBool5 (w : World) (e : Ending) (w' : World) : Prop := ∃ b : Bool, e = .returned (.bool b) ∧ Below w.heap.size w w'

set_option maxHeartbeats 6400000 in
theorem few_any {w : World} {q : Option Addr} {m c : Nat} {ls : List ByteArray} (h : SsOk w q m c ls) {q' : Option Addr} {m' c' : Nat} {ps : List Pr} (h' : PsOk w q' m' c' ps) :
    Calls Try.prog 6 #[.slice q m c, .slice q' m' c'] w (SomeBool5 w) := by
  obtain ⟨hn, h1, h2, hl, hok⟩ := h
  obtain ⟨hn', h1', h2', _, hl'⟩ := h'
  have HN := Lib.hid hn
  have HL := Lib.hid hl
  have HOK := Lib.hid hok
  have HN' := Lib.hid hn'
  have HL' := Lib.hid hl'
  clear hn hl hok hn' hl'
  go_enter Try.func6, Try.ntmps6
  go_wp2
  go_loopw [5, 6] (fun x i wr => ∃ (j : Nat) (y : Int), i = .int .i64 j ∧ x = .int .i64 y ∧ j ≤ m ∧ Below w.heap.size w wr) (fun _ i _ => m - (intOf i).toNat)
  case atStart => exact ⟨0, _, rfl, rfl, by omega, Below.refl _ _⟩
  case round =>
    obtain ⟨j, y, rfl, rfl, hj, hb⟩ := hrel
    have HB := Lib.hid hb
    clear hb
    by_cases hlt : j < m
    · have hjl : j < ls.length := by have := HN.out; omega
      obtain ⟨s, hs⟩ : ∃ s, ls[j]? = some s := ⟨_, List.getElem?_eq_getElem hjl⟩
      obtain ⟨b, o, rfl, hblt, c0⟩ := (HL.out.below HB.out).at hs
      have hss := HOK.out s (List.mem_of_getElem? hs)
      clear hs hjl
      by_cases hy : y < 9000
      · go_wp2
        go_roundw
        case rel => exact ⟨j + 1, _, by go_num, rfl, by omega, HB.out⟩
        case measure => simp [intOf]; omega
      · clear hss c0
        go_wp2
        go_loopw [5, 7] (fun x i wr => ∃ (j : Nat) (y : Int), i = .int .i64 j ∧ x = .int .i64 y ∧ j ≤ m' ∧ Below w.heap.size w wr) (fun _ i _ => m' - (intOf i).toNat)
        case atStart => exact ⟨0, _, rfl, rfl, by omega, HB.out⟩
        case round =>
          obtain ⟨i, y, rfl, rfl, hi, hb⟩ := hrel
          replace HB := Lib.hid hb
          clear hb
          by_cases hlt : i < m'
          · have hil : i < ps.length := by have := HN'.out; omega
            obtain ⟨x, hx⟩ : ∃ s, ps[i]? = some s := ⟨_, List.getElem?_eq_getElem hil⟩
            obtain ⟨hok, b1, o1, rfl, hc⟩ := HL'.out.at hx
            have HCX := Lib.hid hc
            obtain ⟨c0, c1, c2, c3, c4, c5⟩ := hc.below HB.out
            have hblt1 := (hc.below HB.out).lt
            have hxn := hok.n
            have hxs := hok.v.ok.s1
            have hxm1 := hok.v.h1
            have hxm2 := hok.v.h2
            have HXV := Lib.hid hok.v
            have hi0 : (0 : Int) ≤ i := by omega
            have hi1 : (i : Int) < m' := by omega
            clear hx hil hok hc
            by_cases hy : y < 9000
            · go_wp2
              go_quiet (fail)
              go_wp2
              go_loopw [5, 8] (fun x' i' wr' => ∃ (k : Nat) (z : Int), i' = .int .i64 k ∧ x' = .int .i64 z ∧ k ≤ x.v.m ∧ Below w.heap.size w wr') (fun _ i' _ => x.v.m - (intOf i').toNat)
              case atStart => exact ⟨0, _, rfl, rfl, by omega, belowN HB.out _⟩
              case round =>
                clear c0 c1 c2 c3 c4 c5 hblt1
                obtain ⟨k, z, rfl, rfl, hk, hb⟩ := hrel
                have HB2 := Lib.hid hb
                clear hb
                obtain ⟨c0, c1, c2, c3, c4, c5⟩ := HCX.out.below HB2.out
                have hblt1 := (HCX.out.below HB2.out).lt
                by_cases hkt : k < x.v.m
                · by_cases hz : z < 9000
                  · have hkl : k < x.v.l.length := by have := HXV.out.hn; omega
                    obtain ⟨a, ha⟩ : ∃ a, x.v.l[k]? = some a := ⟨_, List.getElem?_eq_getElem hkl⟩
                    obtain ⟨b2, o2, hq2, hd⟩ := HXV.out.hl.at ha
                    rw [hq2] at c5
                    obtain ⟨d0, d1, d2, d3⟩ := hd.below HB2.out
                    have hblt2 := (hd.below HB2.out).lt
                    have has := (HXV.out.hok a (List.mem_of_getElem? ha)).s1
                    clear ha hkl hq2 hd
                    go_wp2
                    go_roundw
                    case rel => exact ⟨k + 1, _, by go_num, rfl, by omega, HB2.out⟩
                    case measure => simp [intOf]; omega
                  · go_wp2
                    go_roundw
                    case rel => exact ⟨i + 1, _, by go_num, rfl, by omega, HB2.out⟩
                    case measure => simp [intOf]; omega
                · go_wp2
                  go_roundw
                  case rel => exact ⟨i + 1, _, by go_num, rfl, by omega, HB2.out⟩
                  case measure => simp [intOf]; omega
            · clear c0 c1 c2 c3 c4 c5 hxn hxs
              go_wp2
              go_ret
              exact ⟨_, rfl, HB.out⟩
          · go_wp2
            go_ret
            exact ⟨_, rfl, HB.out⟩
    · go_wp2
      go_loopw [5, 7] (fun x i wr => ∃ (j : Nat) (y : Int), i = .int .i64 j ∧ x = .int .i64 y ∧ j ≤ m' ∧ Below w.heap.size w wr) (fun _ i _ => m' - (intOf i).toNat)
      case atStart => exact ⟨0, _, rfl, rfl, by omega, HB.out⟩
      case round =>
        obtain ⟨i, y, rfl, rfl, hi, hb⟩ := hrel
        replace HB := Lib.hid hb
        clear hb
        by_cases hlt : i < m'
        · have hil : i < ps.length := by have := HN'.out; omega
          obtain ⟨x, hx⟩ : ∃ s, ps[i]? = some s := ⟨_, List.getElem?_eq_getElem hil⟩
          obtain ⟨hok, b1, o1, rfl, hc⟩ := HL'.out.at hx
          have HCX := Lib.hid hc
          obtain ⟨c0, c1, c2, c3, c4, c5⟩ := hc.below HB.out
          have hblt1 := (hc.below HB.out).lt
          have hxn := hok.n
          have hxs := hok.v.ok.s1
          have hxm1 := hok.v.h1
          have hxm2 := hok.v.h2
          have HXV := Lib.hid hok.v
          have hi0 : (0 : Int) ≤ i := by omega
          have hi1 : (i : Int) < m' := by omega
          clear hx hil hok hc
          by_cases hy : y < 9000
          · go_wp2
            go_quiet (fail)
            go_wp2
            go_loopw [5, 8] (fun x' i' wr' => ∃ (k : Nat) (z : Int), i' = .int .i64 k ∧ x' = .int .i64 z ∧ k ≤ x.v.m ∧ Below w.heap.size w wr') (fun _ i' _ => x.v.m - (intOf i').toNat)
            case atStart => exact ⟨0, _, rfl, rfl, by omega, belowN HB.out _⟩
            case round =>
              clear c0 c1 c2 c3 c4 c5 hblt1
              obtain ⟨k, z, rfl, rfl, hk, hb⟩ := hrel
              have HB2 := Lib.hid hb
              clear hb
              obtain ⟨c0, c1, c2, c3, c4, c5⟩ := HCX.out.below HB2.out
              have hblt1 := (HCX.out.below HB2.out).lt
              by_cases hkt : k < x.v.m
              · by_cases hz : z < 9000
                · have hkl : k < x.v.l.length := by have := HXV.out.hn; omega
                  obtain ⟨a, ha⟩ : ∃ a, x.v.l[k]? = some a := ⟨_, List.getElem?_eq_getElem hkl⟩
                  obtain ⟨b2, o2, hq2, hd⟩ := HXV.out.hl.at ha
                  rw [hq2] at c5
                  obtain ⟨d0, d1, d2, d3⟩ := hd.below HB2.out
                  have hblt2 := (hd.below HB2.out).lt
                  have has := (HXV.out.hok a (List.mem_of_getElem? ha)).s1
                  clear ha hkl hq2 hd
                  go_wp2
                  go_roundw
                  case rel => exact ⟨k + 1, _, by go_num, rfl, by omega, HB2.out⟩
                  case measure => simp [intOf]; omega
                · go_wp2
                  go_roundw
                  case rel => exact ⟨i + 1, _, by go_num, rfl, by omega, HB2.out⟩
                  case measure => simp [intOf]; omega
              · go_wp2
                go_roundw
                case rel => exact ⟨i + 1, _, by go_num, rfl, by omega, HB2.out⟩
                case measure => simp [intOf]; omega
          · clear c0 c1 c2 c3 c4 c5 hxn hxs
            go_wp2
            go_ret
            exact ⟨_, rfl, HB.out⟩
        · go_wp2
          go_ret
          exact ⟨_, rfl, HB.out⟩

end Go.Proofs.Ytekaedafhiddeaa
