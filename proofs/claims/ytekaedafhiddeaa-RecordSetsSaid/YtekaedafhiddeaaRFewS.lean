/-
  The laws' few: what it tells of lists that are no greater than a row lets them be.
-/
import Derived.Test.YtekaedafhiddeaaRSized
import Derived.Test.YtekaedafhiddeaaRFew
import Derived.Deep.QuietTactic
import Derived.BigQuiet
set_option linter.unusedVariables false
set_option maxRecDepth 100000
namespace Go.Proofs.Ytekaedafhiddeaa
open Go.RowKit

theorem Pr.Small.n' {p : Pr} (h : p.Small) : p.n.size ≤ 140737488351232 := h.1
theorem Pr.Small.s' {p : Pr} (h : p.Small) : p.v.a.s.size ≤ 140737488351232 := h.2.1
theorem Pr.Small.m' {p : Pr} (h : p.Small) : p.v.m ≤ 140737488351232 := h.2.2.1
theorem Pr.Small.l' {p : Pr} (h : p.Small) : ∀ a ∈ p.v.l, a.s.size ≤ 140737488351232 := h.2.2.2

/-- What few has seen so far. -/
structure FewI (m : Nat) (ps : List Pr) (j : Nat) (y : Int) : Prop where
  lo : 10 * (m : Int) ≤ y
  hi : y ≤ 2955487255375872
  all : ∀ t, t < j → ∀ x, ps[t]? = some x → 10 * (x.v.l.length : Int) ≤ y
theorem FewI.next {m : Nat} {ps : List Pr} {j : Nat} {y z : Int} (h : FewI m ps j y) {x : Pr} (hx : ps[j]? = some x) (hn : x.v.m = x.v.l.length) (h0 : 0 ≤ y) (h1 : y + 10 * x.v.m ≤ z) (h2 : z ≤ 2955487255375872) : FewI m ps (j + 1) z := by
  refine ⟨by have := h.lo; omega, h2, fun t ht u hu => ?_⟩
  by_cases e : t = j
  · subst e
    rw [hx] at hu
    obtain rfl := Option.some.inj hu
    omega
  · have := h.all t (by omega) u hu
    omega
def FewPost (w : World) (m : Nat) (ps : List Pr) (e : Ending) (w' : World) : Prop := ∃ b : Bool, e = .returned (.bool b) ∧ (b = true → m ≤ 900 ∧ ∀ x ∈ ps, x.v.l.length ≤ 900) ∧ Below w.heap.size w w'
theorem FewI.done {m : Nat} {ps : List Pr} {j : Nat} {y : Int} (h : FewI m ps j y) (hn : m = ps.length) (hj : m ≤ j) (hy : y < 9000) : m ≤ 900 ∧ ∀ x ∈ ps, x.v.l.length ≤ 900 := by
  refine ⟨by have := h.lo; omega, fun x hx => ?_⟩
  obtain ⟨t, ht, rfl⟩ := List.mem_iff_getElem.1 hx
  have := h.all t (by omega) _ (List.getElem?_eq_getElem ht)
  omega

set_option maxHeartbeats 6400000 in
theorem few_tells {w : World} {q : Option Addr} {m c : Nat} {ls : List ByteArray} (h : SsOk w q m c ls) {q' : Option Addr} {m' c' : Nat} {ps : List Pr} (h' : PsOk w q' m' c' ps) (hm : m ≤ 140737488351232) (hm' : m' ≤ 140737488351232) (hls : ∀ s ∈ ls, s.size ≤ 140737488351232) (hps : ∀ x ∈ ps, x.Small) :
    Calls Try.prog 6 #[.slice q m c, .slice q' m' c'] w (FewPost w m' ps) := by
  have HLS := Lib.hid hls
  have HPS := Lib.hid hps
  clear hls hps
  obtain ⟨hn, h1, h2, hl, hok⟩ := h
  obtain ⟨hn', h1', h2', _, hl'⟩ := h'
  have HN := Lib.hid hn
  have HL := Lib.hid hl
  have HOK := Lib.hid hok
  have HN' := Lib.hid hn'
  have HL' := Lib.hid hl'
  clear hn hl hok hn' hl'
  go_enter Try.func6, Try.ntmps6
  go_wp2
  go_loopw [5, 6] (fun x i wr => ∃ (j : Nat) (y : Int), i = .int .i64 j ∧ x = .int .i64 y ∧ j ≤ m ∧ FewI m' ps 0 y ∧ Below w.heap.size w wr) (fun _ i _ => m - (intOf i).toNat)
  case atStart => exact ⟨0, _, rfl, rfl, by omega, ⟨by first | omega | (simp only [wrap64]; omega), by first | omega | (simp only [wrap64]; omega), fun t h => by omega⟩, Below.refl _ _⟩
  case round =>
    obtain ⟨j, y, rfl, rfl, hj, hfi, hb⟩ := hrel
    have HFI := Lib.hid hfi
    obtain ⟨hy0, hy1, _⟩ := hfi
    have HB := Lib.hid hb
    clear hb
    by_cases hlt : j < m
    · have hjl : j < ls.length := by have := HN.out; omega
      obtain ⟨s, hs⟩ : ∃ s, ls[j]? = some s := ⟨_, List.getElem?_eq_getElem hjl⟩
      obtain ⟨b, o, rfl, hblt, c0⟩ := (HL.out.below HB.out).at hs
      have hss := HLS.out s (List.mem_of_getElem? hs)
      clear hs hjl
      by_cases hy : y < 9000
      · go_wp2
        go_roundw
        case rel => exact ⟨j + 1, _, by go_num, rfl, by omega, ⟨by first | omega | (simp only [wrap64]; omega), by first | omega | (simp only [wrap64]; omega), fun t h => by omega⟩, HB.out⟩
        case measure => simp [intOf]; omega
      · clear hss c0
        go_wp2
        go_loopw [5, 7] (fun x i wr => ∃ (j : Nat) (y : Int), i = .int .i64 j ∧ x = .int .i64 y ∧ j ≤ m' ∧ FewI m' ps j y ∧ Below w.heap.size w wr) (fun _ i _ => m' - (intOf i).toNat)
        case atStart => exact ⟨0, _, rfl, rfl, by omega, HFI.out, HB.out⟩
        case round =>
          obtain ⟨i, y, rfl, rfl, hi, hfi, hb⟩ := hrel
          replace HFI := Lib.hid hfi
          obtain ⟨hy0, hy1, _⟩ := hfi
          replace HB := Lib.hid hb
          clear hb
          by_cases hlt : i < m'
          · have hil : i < ps.length := by have := HN'.out; omega
            obtain ⟨x, hx⟩ : ∃ s, ps[i]? = some s := ⟨_, List.getElem?_eq_getElem hil⟩
            obtain ⟨hok, b1, o1, rfl, hc⟩ := HL'.out.at hx
            have HCX := Lib.hid hc
            obtain ⟨c0, c1, c2, c3, c4, c5⟩ := hc.below HB.out
            have hblt1 := (hc.below HB.out).lt
            have hxn := (HPS.out x (List.mem_of_getElem? hx)).n'
            have hxs := (HPS.out x (List.mem_of_getElem? hx)).s'
            have hxm3 := (HPS.out x (List.mem_of_getElem? hx)).m'
            have HXA := Lib.hid (HPS.out x (List.mem_of_getElem? hx)).l'
            have HXI := Lib.hid hx
            have hxm1 := hok.v.h1
            have hxm2 := hok.v.h2
            have HXV := Lib.hid hok.v
            have hi0 : (0 : Int) ≤ i := by omega
            have hi1 : (i : Int) < m' := by omega
            clear hx hil hok hc
            by_cases hy : y < 9000
            · go_wp2
              go_quiet (fail)
              go_wp2
              go_loopw [5, 8] (fun x' i' wr' => ∃ (k : Nat) (z : Int), i' = .int .i64 k ∧ x' = .int .i64 z ∧ k ≤ x.v.m ∧ (y + 10 * x.v.m ≤ z ∧ z ≤ 2814749767024640) ∧ Below w.heap.size w wr') (fun _ i' _ => x.v.m - (intOf i').toNat)
              case atStart => exact ⟨0, _, rfl, rfl, by omega, ⟨by first | omega | (simp only [wrap64]; omega), by first | omega | (simp only [wrap64]; omega)⟩, belowN HB.out _⟩
              case round =>
                clear c0 c1 c2 c3 c4 c5 hblt1
                obtain ⟨k, z, rfl, rfl, hk, ⟨hz0, hz1⟩, hb⟩ := hrel
                have HB2 := Lib.hid hb
                clear hb
                obtain ⟨c0, c1, c2, c3, c4, c5⟩ := HCX.out.below HB2.out
                have hblt1 := (HCX.out.below HB2.out).lt
                by_cases hkt : k < x.v.m
                · by_cases hz : z < 9000
                  · have hkl : k < x.v.l.length := by have := HXV.out.hn; omega
                    obtain ⟨a, ha⟩ : ∃ a, x.v.l[k]? = some a := ⟨_, List.getElem?_eq_getElem hkl⟩
                    obtain ⟨b2, o2, hq2, hd⟩ := HXV.out.hl.at ha
                    rw [hq2] at c5
                    obtain ⟨d0, d1, d2, d3⟩ := hd.below HB2.out
                    have hblt2 := (hd.below HB2.out).lt
                    have has := HXA.out a (List.mem_of_getElem? ha)
                    clear ha hkl hq2 hd
                    go_wp2
                    go_roundw
                    case rel => exact ⟨k + 1, _, by go_num, rfl, by omega, ⟨by first | omega | (simp only [wrap64]; omega), by first | omega | (simp only [wrap64]; omega)⟩, HB2.out⟩
                    case measure => simp [intOf]; omega
                  · go_wp2
                    go_roundw
                    case rel => exact ⟨i + 1, _, by go_num, rfl, by omega, HFI.out.next HXI.out HXV.out.hn (by omega) (by omega) (by omega), HB2.out⟩
                    case measure => simp [intOf]; omega
                · go_wp2
                  go_roundw
                  case rel => exact ⟨i + 1, _, by go_num, rfl, by omega, HFI.out.next HXI.out HXV.out.hn (by omega) (by omega) (by omega), HB2.out⟩
                  case measure => simp [intOf]; omega
            · clear c0 c1 c2 c3 c4 c5 hxn hxs hxm3
              go_wp2
              go_ret
              exact ⟨_, rfl, fun hb => HFI.out.done HN'.out (by first | (simp at hb; done) | (simp at hb; omega) | omega) (by first | (simp at hb; done) | (simp at hb; omega) | omega), HB.out⟩
          · go_wp2
            go_ret
            exact ⟨_, rfl, fun hb => HFI.out.done HN'.out (by first | (simp at hb; done) | (simp at hb; omega) | omega) (by first | (simp at hb; done) | (simp at hb; omega) | omega), HB.out⟩
    · go_wp2
      go_loopw [5, 7] (fun x i wr => ∃ (j : Nat) (y : Int), i = .int .i64 j ∧ x = .int .i64 y ∧ j ≤ m' ∧ FewI m' ps j y ∧ Below w.heap.size w wr) (fun _ i _ => m' - (intOf i).toNat)
      case atStart => exact ⟨0, _, rfl, rfl, by omega, HFI.out, HB.out⟩
      case round =>
        obtain ⟨i, y, rfl, rfl, hi, hfi, hb⟩ := hrel
        replace HFI := Lib.hid hfi
        obtain ⟨hy0, hy1, _⟩ := hfi
        replace HB := Lib.hid hb
        clear hb
        by_cases hlt : i < m'
        · have hil : i < ps.length := by have := HN'.out; omega
          obtain ⟨x, hx⟩ : ∃ s, ps[i]? = some s := ⟨_, List.getElem?_eq_getElem hil⟩
          obtain ⟨hok, b1, o1, rfl, hc⟩ := HL'.out.at hx
          have HCX := Lib.hid hc
          obtain ⟨c0, c1, c2, c3, c4, c5⟩ := hc.below HB.out
          have hblt1 := (hc.below HB.out).lt
          have hxn := (HPS.out x (List.mem_of_getElem? hx)).n'
          have hxs := (HPS.out x (List.mem_of_getElem? hx)).s'
          have hxm3 := (HPS.out x (List.mem_of_getElem? hx)).m'
          have HXA := Lib.hid (HPS.out x (List.mem_of_getElem? hx)).l'
          have HXI := Lib.hid hx
          have hxm1 := hok.v.h1
          have hxm2 := hok.v.h2
          have HXV := Lib.hid hok.v
          have hi0 : (0 : Int) ≤ i := by omega
          have hi1 : (i : Int) < m' := by omega
          clear hx hil hok hc
          by_cases hy : y < 9000
          · go_wp2
            go_quiet (fail)
            go_wp2
            go_loopw [5, 8] (fun x' i' wr' => ∃ (k : Nat) (z : Int), i' = .int .i64 k ∧ x' = .int .i64 z ∧ k ≤ x.v.m ∧ (y + 10 * x.v.m ≤ z ∧ z ≤ 2814749767024640) ∧ Below w.heap.size w wr') (fun _ i' _ => x.v.m - (intOf i').toNat)
            case atStart => exact ⟨0, _, rfl, rfl, by omega, ⟨by first | omega | (simp only [wrap64]; omega), by first | omega | (simp only [wrap64]; omega)⟩, belowN HB.out _⟩
            case round =>
              clear c0 c1 c2 c3 c4 c5 hblt1
              obtain ⟨k, z, rfl, rfl, hk, ⟨hz0, hz1⟩, hb⟩ := hrel
              have HB2 := Lib.hid hb
              clear hb
              obtain ⟨c0, c1, c2, c3, c4, c5⟩ := HCX.out.below HB2.out
              have hblt1 := (HCX.out.below HB2.out).lt
              by_cases hkt : k < x.v.m
              · by_cases hz : z < 9000
                · have hkl : k < x.v.l.length := by have := HXV.out.hn; omega
                  obtain ⟨a, ha⟩ : ∃ a, x.v.l[k]? = some a := ⟨_, List.getElem?_eq_getElem hkl⟩
                  obtain ⟨b2, o2, hq2, hd⟩ := HXV.out.hl.at ha
                  rw [hq2] at c5
                  obtain ⟨d0, d1, d2, d3⟩ := hd.below HB2.out
                  have hblt2 := (hd.below HB2.out).lt
                  have has := HXA.out a (List.mem_of_getElem? ha)
                  clear ha hkl hq2 hd
                  go_wp2
                  go_roundw
                  case rel => exact ⟨k + 1, _, by go_num, rfl, by omega, ⟨by first | omega | (simp only [wrap64]; omega), by first | omega | (simp only [wrap64]; omega)⟩, HB2.out⟩
                  case measure => simp [intOf]; omega
                · go_wp2
                  go_roundw
                  case rel => exact ⟨i + 1, _, by go_num, rfl, by omega, HFI.out.next HXI.out HXV.out.hn (by omega) (by omega) (by omega), HB2.out⟩
                  case measure => simp [intOf]; omega
              · go_wp2
                go_roundw
                case rel => exact ⟨i + 1, _, by go_num, rfl, by omega, HFI.out.next HXI.out HXV.out.hn (by omega) (by omega) (by omega), HB2.out⟩
                case measure => simp [intOf]; omega
          · clear c0 c1 c2 c3 c4 c5 hxn hxs hxm3
            go_wp2
            go_ret
            exact ⟨_, rfl, fun hb => HFI.out.done HN'.out (by first | (simp at hb; done) | (simp at hb; omega) | omega) (by first | (simp at hb; done) | (simp at hb; omega) | omega), HB.out⟩
        · go_wp2
          go_ret
          exact ⟨_, rfl, fun hb => HFI.out.done HN'.out (by first | (simp at hb; done) | (simp at hb; omega) | omega) (by first | (simp at hb; done) | (simp at hb; omega) | omega), HB.out⟩

end Go.Proofs.Ytekaedafhiddeaa
