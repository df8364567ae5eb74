/-
  The steps of a region that draws its order, taken by hand: loads, stores, what comes up alone. No conditions beyond those that each theorem types.
-/
import Derived.Test.YtpoacgofbbfhcaaTakeTail
import Derived.Test.YtpoacgofbbfhcaaRackMem
namespace Go.Proofs.Ytpoacgofbbfhcaa
open Go Go.RowKit
set_option maxRecDepth 100000

section
variable {P : Program} {md : Region.Mode} {ops : Array Oper} {Q : Exit → Act → World → Prop} {S : World → Prop} {z : Nat}
theorem load_one {w : World} {p : Addr} {v : Value} {t : TypeId} {d : TypeDesc} (hu : P.underlying t = some d) (hd : d.isRow = false) (hc : w.cell? p = some v) : (Instr.loadAt t (.pointer (some p))).run P w = .ok v w := by
  have hagg : (isAgg t).run P w = .ok false w := by
    unfold isAgg
    rw [Sem.run_bind, run_underlying hu w]
    cases d <;> simp_all
  simp [Instr.loadAt, Instr.sureAddr, loadVar, Sem.run_bind, hagg, hc]
theorem store_one {w : World} {p : Addr} {v : Value} {t : TypeId} (hi : (P.info? t).map (·.size) = some 1) (hv : v.cells = #[v]) (h1 : v.oneCell' = true) (hc : (w.cell? p).isSome = true) (hf : w.frozen? p = false) (ha : p.add 0 = p) : (Instr.storeAt t (.pointer (some p)) v).run P w = .ok () (w.setCell p v) := by
  cases hq : P.info? t with
  | none => simp [hq] at hi
  | some i =>
    have hs : i.size = 1 := by simpa [hq] using hi
    obtain ⟨x, hx⟩ := Option.isSome_iff_exists.1 hc
    simp [Instr.storeAt, Instr.sureAddr, storeVar, Sem.run_bind, sizeOf, typeInfo, hq, hs, hv, storeCells, run_store P w p v .plain h1, hx, hf, ha]
theorem exec_load {w : World} {o : Oper} {a : Act} {ty : TypeId} {x : Operand} {p v : Value} (ho : o.op = .load ty x) (hx : a.eval x = p) (hl : (Instr.loadAt ty p).run P w = .ok v w) : (execOp a.eval o).run P w = .ok (.value v) w := by
  unfold execOp
  simp only [ho, hx, hl, Sem.run_bind, Sem.run_pure, Result.andThen_ok]
theorem exec_store {w w' : World} {o : Oper} {a : Act} {ty : TypeId} {x y : Operand} {p v : Value} (ho : o.op = .store ty x y) (hx : a.eval x = p) (hy : a.eval y = v) (hl : (Instr.storeAt ty p v).run P w = .ok () w') : (execOp a.eval o).run P w = .ok .skip w' := by
  unfold execOp
  simp only [ho, hx, hy, hl, Sem.run_bind, Sem.run_pure, Result.andThen_ok]
theorem exec_buildSlice1 {w w' : World} {o : Oper} {a : Act} {ty : TypeId} {n i : Nat} {x : Operand} {u v : Value} (ho : o.op = .buildSlice ty n #[(i, x)]) (hx : a.eval x = u) (hl : (Instr.buildSlice ty n #[(i, u)]).run P w = .ok v w') : (execOp a.eval o).run P w = .ok (.value v) w' := by
  unfold execOp
  simp only [ho, List.map_toArray, List.map_cons, List.map_nil, hx, hl, Sem.run_bind, Sem.run_pure, Result.andThen_ok]
/-- the last of a region -/
theorem AnyZ.last_ {i n : Nat} {listed : Array Bool} {a : Act} {w : World} (hr : Region.ready md ops listed = [i]) (hd : Region.ready md ops (listed.setIfInBounds i true) = [])
    (hz : i = z) (h : wpOp P ops Q i (fun a' w' => Q .normal a' w') a w) : AnyZ P md ops Q S z (n + 1) listed a w :=
  AnyZ.one hr (wpOp_mono (fun _ _ h' => ⟨fun hne => absurd hz hne, AnyZ.done hd h'⟩) h)
end
end Go.Proofs.Ytpoacgofbbfhcaa
