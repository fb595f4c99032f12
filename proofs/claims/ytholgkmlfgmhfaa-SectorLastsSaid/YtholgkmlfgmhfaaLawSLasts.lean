/-
  SectorLasts: both ways together.
-/
import Derived.Test.YtholgkmlfgmhfaaLawSLastsA
import Derived.Test.YtholgkmlfgmhfaaLawSLastsB
set_option linter.unusedVariables false
set_option maxRecDepth 100000
namespace Go.Proofs.Ytholgkmlfgmhfaa
open Go.RowKit

theorem law_lasts {w : World} {q0 : Option Addr} {n0 c0 : Nat} {l0 : List UInt8} (h0 : Bs w q0 l0) (hn0 : n0 = l0.length) (hc0 : n0 ≤ c0) (hc63 : c0 ≤ 9223372036854775807) {q : Option Addr} {m c : Nat} {ls : List Bl} (h : BlsOk w q m c ls)
    {qk : Option Addr} {mk ck : Nat} {keep : List Int} (hk : KsOk w qk mk ck keep) :
    Calls Try.prog 5 #[.slice q0 n0 c0, .slice q m c, .slice qk mk ck] w fun e w' => e = .returned (.bool true) ∧ Below w.heap.size w w' := by
  rcases Nat.lt_or_ge 512 n0 with hb | hb
  · exact law_lasts_b h0 hn0 hc0 hc63 hb h hk
  · exact law_lasts_a h0 hn0 hc0 hc63 hb h hk

end Go.Proofs.Ytholgkmlfgmhfaa
