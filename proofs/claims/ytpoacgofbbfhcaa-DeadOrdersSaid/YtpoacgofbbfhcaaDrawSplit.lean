/-
  A region that draws its order, where two operations may come up: either is walked, and what is asked of the world may be made more behind it. No conditions beyond those that each theorem types.
-/
import Derived.Test.YtpoacgofbbfhcaaDrawTwo
namespace Go.Proofs.Ytpoacgofbbfhcaa
open Go Go.RowKit
set_option maxRecDepth 100000
set_option linter.unusedVariables false
section
variable {P : Program} {md : Region.Mode} {ops : Array Oper} {Q : Exit → Act → World → Prop} {S S' : World → Prop} {z : Nat}
theorem AnyZ.more (hS : ∀ w, S' w → S w) : ∀ (n : Nat) (listed : Array Bool) (a : Act) (w : World), AnyZ P md ops Q S' z n listed a w → AnyZ P md ops Q S z n listed a w
  | 0, _, _, _, h => h
  | n + 1, _, _, _, h => ⟨h.1, fun i hi => wpOp_mono (fun a' w' h' => ⟨fun hz => hS _ (h'.1 hz), AnyZ.more hS n _ a' w' h'.2⟩) (h.2 i hi)⟩
theorem twoG {i j n : Nat} {op1 op2 : Op} {d1 d2 : Option Tmp} {listed : Array Bool} {a : Act} {w : World} (ho1 : isOp ops i = some (op1, d1, none)) (ho2 : isOp ops j = some (op2, d2, none)) (hr : Region.ready md ops listed = [i, j])
    (h1 : ∀ o : Oper, o.op = op1 → o.dst = d1 → o.wp P a w (fun a' w' => (i ≠ z → S w') ∧ AnyZ P md ops Q S z n (listed.setIfInBounds i true) a' w') Q)
    (h2 : ∀ o : Oper, o.op = op2 → o.dst = d2 → o.wp P a w (fun a' w' => (j ≠ z → S w') ∧ AnyZ P md ops Q S z n (listed.setIfInBounds j true) a' w') Q) : AnyZ P md ops Q S z (n + 1) listed a w := by
  obtain ⟨o1, a1, a2, a3, a4⟩ := isOp_spec ho1
  obtain ⟨o2, b1, b2, b3, b4⟩ := isOp_spec ho2
  exact AnyZ.two hr (wpOp_op a1 a4 (h1 o1 a2 a3)) (wpOp_op b1 b4 (h2 o2 b2 b3))
end
end Go.Proofs.Ytpoacgofbbfhcaa
