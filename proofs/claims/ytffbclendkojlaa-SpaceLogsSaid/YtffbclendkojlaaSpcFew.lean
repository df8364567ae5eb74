/-
  'few' of the space's laws by a contract. No conditions beyond those that each theorem types.
-/
import Derived.Test.YtffbclendkojlaaIntRowM
namespace Go.Proofs.Ytffbclendkojlaa
open Go Go.RowKit
set_option maxRecDepth 100000
set_option linter.unusedVariables false
namespace Sp
def fewZ (C : Int) : Int := if 80 < C ∧ C ≤ 40000 then 80 else C
theorem few_at (w : World) (C : Int) (h : (Lit.int .i64 C).wf = true) : Calls Try.prog 16 #[.int .i64 C] w fun e w' => e = .returned (.int .i64 (fewZ C)) ∧ w' = w := by
  clear h
  by_cases h1 : 80 < C
  · by_cases h2 : C ≤ 40000
    · have e : fewZ C = 80 := if_pos ⟨h1, h2⟩
      rw [e]
      clear e
      go_enter Try.func16, Try.ntmps16
      go_wp2_with fail
      go_ret
      exact ⟨rfl, rfl⟩
    · have e : fewZ C = C := if_neg fun h => h2 h.2
      rw [e]
      clear e
      go_enter Try.func16, Try.ntmps16
      go_wp2_with fail
      go_ret
      exact ⟨rfl, rfl⟩
  · have e : fewZ C = C := if_neg fun h => h1 h.1
    rw [e]
    clear e
    go_enter Try.func16, Try.ntmps16
    go_wp2_with fail
    go_ret
    exact ⟨rfl, rfl⟩
end Sp
end Go.Proofs.Ytffbclendkojlaa
