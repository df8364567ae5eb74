/-
  'step' by one contract for all kinds. Conditions: both racks stand for the same; the call's ints are ints, its picks lie below both racks.
-/
import Derived.Test.YtlbmeaioiiflkaaRefStep2
import Derived.Test.YtlbmeaioiiflkaaRefStep3
import Derived.Test.YtlbmeaioiiflkaaRefStep4
namespace Go.Proofs.Ytlbmeaioiiflkaa
open Go Go.RowKit
set_option maxRecDepth 100000
set_option linter.unusedVariables false
namespace refRack
section
variable {B : Nat} {w w' : World} {r g c : Nat} {s t : RS}
theorem step_any (k d a f n : Int) (pa : Option Addr) (pn pc : Nat) (px : Nat → Int) (hf : I64 f) (hn : I64 n) (hp1 : RdI w B pa pn px) (hp2 : pn ≤ pc) (hp3 : pa = none → pc = 0) (hp4 : pn * 8 ≤ 140737488355328) (hc : c ≤ 900000) (h : Both B w r g s t c) :
    Calls Try.prog 12 #[.pointer (some ⟨r, 0, none⟩), .pointer (some ⟨g, 0, none⟩), .agg #[.int .i64 k, .int .i64 d, .int .i64 a, .int .i64 f, .int .i64 n, .slice pa pn pc]] w fun e w' => e = .returned (.bool true) ∧ (∃ s' t', Both B w' r g s' t' (c + 1)) ∧ Below B w w' := by
  by_cases e1 : k = 1
  · exact step_read k d a f n pa pn pc e1 h
  by_cases e2 : k = 2
  · exact step_write k d a f n pa pn pc e2 hf hn hc h
  by_cases e3 : k = 3
  · exact step_flush k d a f n pa pn pc e3 h
  by_cases e4 : k = 4
  · exact step_arm k d a f n pa pn pc e4 hn.2 h
  by_cases e5 : k = 5
  · exact step_crash k d a f n pa pn pc px e5 hp1 hp2 hp3 hp4 h
  by_cases e6 : k = 6
  · exact step_lose k d a f n pa pn pc e6 h
  by_cases e7 : k = 7
  · exact step_anew k d a f n pa pn pc e7 h
  by_cases e8 : k = 8
  · exact step_rot k d a f n pa pn pc e8 hn hc h
  exact step_numbers k d a f n pa pn pc (by simpa using e1) (by simpa using e2) (by simpa using e3) (by simpa using e4) (by simpa using e5) (by simpa using e6) (by simpa using e7) (by simpa using e8) h
end
end refRack
end Go.Proofs.Ytlbmeaioiiflkaa
