/-
  The walk of 'FieldUnits': unit equations are answered by their right sides; a row twice is no system.
-/
import Derived.Test.YtmiedappfmlofaaFieldUnitsBad
import Derived.Test.YtmiedappfmlofaaFieldUnitsMain
namespace Go.Proofs.Ytmiedappfmlofaa
open Go.RowKit
set_option linter.unusedVariables false

namespace fieldUnits
theorem walk (a0 : Option Addr) (len0 cap0 : Nat) (y0 : Nat → Nat) (w : World) (hy0 : RdB w w.heap.size a0 len0 y0) (hl0 : len0 ≤ cap0) (hm0 : cap0 ≤ maxLen) :
    Calls Try.prog 10 #[.slice a0 len0 cap0] w fun e w' => e = .returned (.bool true) ∧ Below w.heap.size w w' := by
  by_cases h0 : len0 = 0
  · subst h0
    exact bad0 a0 cap0 w
  by_cases h1 : len0 ≤ 8
  · exact main a0 len0 cap0 y0 w (by omega) h1 hy0
  obtain ⟨b, o, e, _⟩ := hy0 0 (by omega)
  subst e
  have hm : cap0 ≤ 9223372036854775807 := hm0
  by_cases h2 : len0 ≤ 20
  · exact badS b o len0 cap0 w (by omega) h2 hl0 hm
  · exact badL b o len0 cap0 w (by omega) hl0 hm
end fieldUnits
end Go.Proofs.Ytmiedappfmlofaa
