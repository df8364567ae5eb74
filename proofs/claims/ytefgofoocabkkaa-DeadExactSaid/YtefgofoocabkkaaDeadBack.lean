/-
  The law's own 'back': a line as the document's, its lists shared. The conditions: the line can be read, its rows have room.
-/
import Derived.Test.YtefgofoocabkkaaDeadSnaps
namespace Go.Proofs.Ytefgofoocabkkaa
open Go Go.RowKit
set_option maxRecDepth 100000
set_option linter.unusedVariables false
namespace Dd
theorem exec_bld2 {P : Program} {a : Act} {o : Oper} {ty : TypeId} {i j : Nat} {x y : Operand} {u0 u1 r : Value} (w : World) (e : o.op = .build ty #[(i, x), (j, y)]) (hx : a.eval x = u0) (hy : a.eval y = u1)
    (hl : (Instr.build ty #[(i, u0), (j, u1)]).run P w = .ok r w) : (execOp a.eval o).run P w = .ok (.value r) w := by
  unfold execOp; simp only [e, List.map_toArray, List.map_cons, List.map_nil, hx, hy, hl, Sem.run_bind, Sem.run_pure, Result.andThen_ok]
def BackPost (w : World) (L : Ln) (A' : Option Addr) (m c' : Nat) (e : Ending) (w' : World) : Prop := ∃ B q, e = .returned (.agg #[.int .i64 L.base, .slice B L.snaps.length q, .slice A' m c']) ∧ RdS w' B L.snaps ∧ (B = none → q = 0) ∧ Below w.heap.size w w'
end Dd
end Go.Proofs.Ytefgofoocabkkaa
