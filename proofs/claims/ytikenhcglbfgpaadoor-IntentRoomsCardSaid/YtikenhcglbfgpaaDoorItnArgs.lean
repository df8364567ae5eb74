/-
  What comes in as a list of texts. Conditions: what the reading of an argument gives.
-/
import Derived.Test.YtikenhcglbfgpaaDoorItnCutM
import Derived.Test.YtikenhcglbfgpaaDoorGenArgs
namespace Go.Proofs.YtikenhcglbfgpaaDoor
open Go Go.RowKit Go.ChangeShapes Go.WideShapes Go.ChangeAt
set_option maxRecDepth 100000
set_option linter.unusedVariables false
namespace Itn
section
variable {H : Type} {enc : TypeId × Value → H} {P : Program} {W : World} {base : Nat} {held : Bool}
theorem strs_of_trod {t e : TypeId} {fuel len cap : Nat} {a : Option Addr} {x : DataW H × List MemPlace} (ht : P.underlying t = some (.slice e)) (he : P.underlying e = some .string) (hC : P.cellsOf e = 1)
    (h : DataW.trod enc P W base (fun _ => true) held fuel t (Value.slice a len cap).cells.toList = some x) :
    ∃ l : List ByteArray, len = l.length ∧ Gr.RdG 1 csS W a l ∧ l.length ≤ cap ∧ cap ≤ maxLen ∧ (a = none → cap = 0) := by
  obtain ⟨l, h1, h2, _, h3⟩ := Gr.gen_of_trod (k := 1) (⟨#[]⟩ : ByteArray) csS (fun _ => True) (fun _ => rfl) (by omega) ht hC (fun n c y hlen h2 => by
    match c, hlen with
    | [v0], _ =>
      obtain ⟨s, q0, _⟩ := DataW.trod_string he h2
      simp at q0
      subst q0
      exact ⟨s, rfl, trivial⟩) h
  exact ⟨l, h1, h2, h3⟩
end
end Itn
end Go.Proofs.YtikenhcglbfgpaaDoor
