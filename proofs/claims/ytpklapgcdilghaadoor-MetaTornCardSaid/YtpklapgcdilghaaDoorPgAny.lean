/-
  page.Open and the reference's, of any bytes.
-/
import Derived.Test.YtpklapgcdilghaaDoorPgOpenR
set_option linter.unusedVariables false
set_option maxRecDepth 100000
namespace Go.Proofs.YtpklapgcdilghaaDoor
open Go.RowKit

theorem pOpen_any {w : World} (hT : Tab w) {p : Option Addr} {l : List UInt8} (hl : Bs w p l) {n c : Nat} (hn : n = l.length) (hnc : n ≤ c) (hc : c ≤ 9223372036854775807) (no : Int) :
    Calls Tryd.prog 19 #[.slice p n c, .int .i64 no] w (OpenPost w l no) := by
  by_cases h : n = 512
  · subst h
    obtain ⟨b, o, rfl, _, _⟩ := hl.at (by omega)
    by_cases hf : Fits l
    · exact open_fits hT hl hn hnc hc no hf
    · exact open_torn hT hl hn hnc no hf
  · exact open_long hn no h (by omega)
theorem pOpenR_any {w : World} {p : Option Addr} {l : List UInt8} (hl : Bs w p l) {n c : Nat} (hn : n = l.length) (hnc : n ≤ c) (hc : c ≤ 9223372036854775807) (no : Int) (h1 : -9223372036854775808 ≤ no) (h2 : no ≤ 9223372036854775807) :
    Calls Tryd.prog 22 #[.slice p n c, .int .i64 no] w (OpenPost w l no) := by
  by_cases h : n = 512
  · subst h
    obtain ⟨b, o, rfl, _, _⟩ := hl.at (by omega)
    by_cases hf : Fits l
    · exact openR_fits hl hn hnc hc no h1 h2 hf
    · exact openR_torn hl hn hnc no hf
  · exact openR_long hn no h (by omega)

end Go.Proofs.YtpklapgcdilghaaDoor
