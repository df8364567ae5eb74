/-
  The steps of a region that draws its order, taken by hand: loads, stores, what comes up alone. No conditions beyond those that each theorem types.
-/
import Derived.Test.YtefgofoocabkkaaTakeTail
import Derived.Test.YtefgofoocabkkaaRackMem
namespace Go.Proofs.Ytefgofoocabkkaa
open Go Go.RowKit
set_option maxRecDepth 100000

section
variable {P : Program} {md : Region.Mode} {ops : Array Oper} {Q : Exit → Act → World → Prop} {S : World → Prop} {z : Nat}
theorem load_one {w : World} {p : Addr} {v : Value} {t : TypeId} {d : TypeDesc} (hu : P.underlying t = some d) (hd : d.isRow = false) (hc : w.cell? p = some v) : (Instr.loadAt t (.pointer (some p))).run P w = .ok v w := by
  have hagg : (isAgg t).run P w = .ok false w := by
    unfold isAgg
    rw [Sem.run_bind, run_underlying hu w]
    cases d <;> simp_all
  simp [Instr.loadAt, Instr.sureAddr, loadVar, Sem.run_bind, hagg, hc]
theorem store_one {w : World} {p : Addr} {v : Value} {t : TypeId} (hi : (P.info? t).map (·.size) = some 1) (hv : v.cells = #[v]) (h1 : v.oneCell' = true) (hc : (w.cell? p).isSome = true) (hf : w.frozen? p = false) (ha : p.add 0 = p) : (Instr.storeAt t (.pointer (some p)) v).run P w = .ok () (w.setCell p v) := by
  cases hq : P.info? t with
  | none => simp [hq] at hi
  | some i =>
    have hs : i.size = 1 := by simpa [hq] using hi
    obtain ⟨x, hx⟩ := Option.isSome_iff_exists.1 hc
    simp [Instr.storeAt, Instr.sureAddr, storeVar, Sem.run_bind, sizeOf, typeInfo, hq, hs, hv, storeCells, run_store P w p v .plain h1, hx, hf, ha]
theorem exec_load {w : World} {o : Oper} {a : Act} {ty : TypeId} {x : Operand} {p v : Value} (ho : o.op = .load ty x) (hx : a.eval x = p) (hl : (Instr.loadAt ty p).run P w = .ok v w) : (execOp a.eval o).run P w = .ok (.value v) w := by
  unfold execOp
  simp only [ho, hx, hl, Sem.run_bind, Sem.run_pure, Result.andThen_ok]
theorem exec_store {w w' : World} {o : Oper} {a : Act} {ty : TypeId} {x y : Operand} {p v : Value} (ho : o.op = .store ty x y) (hx : a.eval x = p) (hy : a.eval y = v) (hl : (Instr.storeAt ty p v).run P w = .ok () w') : (execOp a.eval o).run P w = .ok .skip w' := by
  unfold execOp
  simp only [ho, hx, hy, hl, Sem.run_bind, Sem.run_pure, Result.andThen_ok]
theorem exec_buildSlice1 {w w' : World} {o : Oper} {a : Act} {ty : TypeId} {n i : Nat} {x : Operand} {u v : Value} (ho : o.op = .buildSlice ty n #[(i, x)]) (hx : a.eval x = u) (hl : (Instr.buildSlice ty n #[(i, u)]).run P w = .ok v w') : (execOp a.eval o).run P w = .ok (.value v) w' := by
  unfold execOp
  simp only [ho, List.map_toArray, List.map_cons, List.map_nil, hx, hl, Sem.run_bind, Sem.run_pure, Result.andThen_ok]
/-- the last of a region -/
theorem AnyZ.last_ {i n : Nat} {listed : Array Bool} {a : Act} {w : World} (hr : Region.ready md ops listed = [i]) (hd : Region.ready md ops (listed.setIfInBounds i true) = [])
    (hz : i = z) (h : wpOp P ops Q i (fun a' w' => Q .normal a' w') a w) : AnyZ P md ops Q S z (n + 1) listed a w :=
  AnyZ.one hr (wpOp_mono (fun _ _ h' => ⟨fun hne => absurd hz hne, AnyZ.done hd h'⟩) h)
end
end Go.Proofs.Ytefgofoocabkkaa
namespace Go.Proofs.Ytefgofoocabkkaa
open Go Go.RowKit
set_option maxRecDepth 100000

/-- number i may be taken now -/
def takeB (md : Region.Mode) (ops : Array Oper) (z : Nat) (listed : Array Bool) (i : Nat) : Bool :=
  Region.noSelect ops && Region.free md ops listed i && (Region.ready md ops listed).contains i && (Region.waitsFor md ops z i || decide (ops.size ≤ z))
def isOp (ops : Array Oper) (i : Nat) : Option (Op × Option Tmp × Option (Nat × Bool)) := (ops[i]?).map fun o => (o.op, o.dst, o.guard)
theorem isOp_spec {ops : Array Oper} {i : Nat} {op : Op} {d : Option Tmp} (h : isOp ops i = some (op, d, none)) : ∃ o, ops[i]? = some o ∧ o.op = op ∧ o.dst = d ∧ o.guard = none := by
  unfold isOp at h
  cases e : ops[i]? with
  | none => rw [e] at h; cases h
  | some o =>
    rw [e] at h
    injection h with h
    injection h with h1 h2
    injection h2 with h2 h3
    exact ⟨o, rfl, h1, h2, h3⟩
section
variable {P : Program} {md : Region.Mode} {ops : Array Oper} {Q : Exit → Act → World → Prop} {S : World → Prop} {z n : Nat} {listed : Array Bool} {a : Act} {w : World}
theorem takeP (i : Nat) (op : Op) (d : Option Tmp) (v : Value) (ho : isOp ops i = some (op, d, none)) (hB : takeB md ops z listed i = true)
    (hQ : ∀ c a w, Q (.panic c) (a.put d v) w → Q (.panic c) a w) (hy : ∀ (o : Oper) w, o.op = op → S w → (execOp a.eval o).run P w = .ok (.value v) w) (hS : S w)
    (h : AnyZ P md ops Q S z n (listed.setIfInBounds i true) (a.put d v) w) : AnyZ P md ops Q S z (n + 1) listed a w := by
  obtain ⟨o, h1, h2, rfl, h4⟩ := isOp_spec ho
  simp only [takeB, Bool.and_eq_true] at hB
  exact AnyZ.take h1 hB.1.1.1 hB.1.1.2 hB.1.2 hB.2 hQ (yields_if h4 fun w hw => hy o w h2 hw) hS h
theorem takeMove (i : Nat) (x : Operand) (d : Option Tmp) (v : Value) (ho : isOp ops i = some (.move x, d, none)) (hB : takeB md ops z listed i = true) (hx : a.eval x = v)
    (hQ : ∀ c a w, Q (.panic c) (a.put d v) w → Q (.panic c) a w) (hS : S w)
    (h : AnyZ P md ops Q S z n (listed.setIfInBounds i true) (a.put d v) w) : AnyZ P md ops Q S z (n + 1) listed a w :=
  takeP i _ d v ho hB hQ (fun o w e _ => by unfold execOp; simp only [e, hx, Sem.run_pure]) hS h
theorem takeNil (i : Nat) (x : Operand) (d : Option Tmp) (p : Addr) (ho : isOp ops i = some (.nilCheck x, d, none)) (hB : takeB md ops z listed i = true) (hx : a.eval x = .pointer (some p))
    (hQ : ∀ c a w, Q (.panic c) (a.put d (.pointer (some p))) w → Q (.panic c) a w) (hS : S w)
    (h : AnyZ P md ops Q S z n (listed.setIfInBounds i true) (a.put d (.pointer (some p))) w) : AnyZ P md ops Q S z (n + 1) listed a w :=
  takeP i _ d _ ho hB hQ (fun o w e _ => by unfold execOp; simp only [e, hx, Sem.run_pure]) hS h
theorem takeField (i : Nat) (t : TypeId) (x : Operand) (f : Nat) (d : Option Tmp) (p v : Value) (ho : isOp ops i = some (.fieldAddr t x f, d, none)) (hB : takeB md ops z listed i = true) (hx : a.eval x = p) (hf : ∀ w, (Instr.fieldAt t p f).run P w = .ok v w)
    (hQ : ∀ c a w, Q (.panic c) (a.put d v) w → Q (.panic c) a w) (hS : S w)
    (h : AnyZ P md ops Q S z n (listed.setIfInBounds i true) (a.put d v) w) : AnyZ P md ops Q S z (n + 1) listed a w :=
  takeP i _ d v ho hB hQ (fun o w e _ => by unfold execOp; simp only [e, hx, hf, Sem.run_bind, Sem.run_pure, Result.andThen_ok]) hS h
theorem takeIndex (i : Nat) (t : TypeId) (x ix : Operand) (d : Option Tmp) (p j v : Value) (ho : isOp ops i = some (.indexAddr t x ix, d, none)) (hB : takeB md ops z listed i = true) (hx : a.eval x = p) (hj : a.eval ix = j) (hf : ∀ w, (Instr.indexAt t p j).run P w = .ok v w)
    (hQ : ∀ c a w, Q (.panic c) (a.put d v) w → Q (.panic c) a w) (hS : S w)
    (h : AnyZ P md ops Q S z n (listed.setIfInBounds i true) (a.put d v) w) : AnyZ P md ops Q S z (n + 1) listed a w :=
  takeP i _ d v ho hB hQ (fun o w e _ => by unfold execOp; simp only [e, hx, hj, hf, Sem.run_bind, Sem.run_pure, Result.andThen_ok]) hS h
theorem takeLoad (i : Nat) (t : TypeId) (x : Operand) (d : Option Tmp) (p v : Value) (ho : isOp ops i = some (.load t x, d, none)) (hB : takeB md ops z listed i = true) (hx : a.eval x = p) (hl : ∀ w, S w → (Instr.loadAt t p).run P w = .ok v w)
    (hQ : ∀ c a w, Q (.panic c) (a.put d v) w → Q (.panic c) a w) (hS : S w)
    (h : AnyZ P md ops Q S z n (listed.setIfInBounds i true) (a.put d v) w) : AnyZ P md ops Q S z (n + 1) listed a w :=
  takeP i _ d v ho hB hQ (fun o w e hw => exec_load e hx (hl w hw)) hS h
theorem takeBin (i : Nat) (op : BinOp) (t : TypeId) (x y : Operand) (ty : TypeId) (d : Option Tmp) (u1 u2 v : Value) (ho : isOp ops i = some (.binOp op t x y ty, d, none)) (hB : takeB md ops z listed i = true) (hx : a.eval x = u1) (hy : a.eval y = u2)
    (hf : ∀ w, (eqGuard op t x y u1 u2).run P w = .ok () w ∧ (binOp op t u1 u2).run P w = .ok v w)
    (hQ : ∀ c a w, Q (.panic c) (a.put d v) w → Q (.panic c) a w) (hS : S w)
    (h : AnyZ P md ops Q S z n (listed.setIfInBounds i true) (a.put d v) w) : AnyZ P md ops Q S z (n + 1) listed a w :=
  takeP i _ d v ho hB hQ (fun o w e _ => by unfold execOp; simp only [e, hx, hy, (hf w).1, (hf w).2, Sem.run_bind, Sem.run_pure, Result.andThen_ok]) hS h
/-- only i may come up: any operation -/
theorem lone (i : Nat) (op : Op) (d : Option Tmp) (ho : isOp ops i = some (op, d, none)) (hr : Region.ready md ops listed = [i])
    (h : ∀ o : Oper, o.op = op → o.dst = d → o.wp P a w (fun a' w' => (i ≠ z → S w') ∧ AnyZ P md ops Q S z n (listed.setIfInBounds i true) a' w') Q) : AnyZ P md ops Q S z (n + 1) listed a w := by
  obtain ⟨o, h1, h2, h3, h4⟩ := isOp_spec ho
  exact AnyZ.one hr (wpOp_op h1 h4 (h o h2 h3))
theorem lastOp (i : Nat) (op : Op) (d : Option Tmp) (ho : isOp ops i = some (op, d, none)) (hr : Region.ready md ops listed = [i]) (hd : Region.ready md ops (listed.setIfInBounds i true) = []) (hz : i = z)
    (h : ∀ o : Oper, o.op = op → o.dst = d → o.wp P a w (fun a' w' => Q .normal a' w') Q) : AnyZ P md ops Q S z (n + 1) listed a w := by
  obtain ⟨o, h1, h2, h3, h4⟩ := isOp_spec ho
  exact AnyZ.last_ hr hd hz (wpOp_op h1 h4 (h o h2 h3))
theorem lastStore (i : Nat) (t : TypeId) (x y : Operand) (p v : Value) (w' : World) (ho : isOp ops i = some (.store t x y, none, none)) (hr : Region.ready md ops listed = [i]) (hd : Region.ready md ops (listed.setIfInBounds i true) = []) (hz : i = z)
    (hx : a.eval x = p) (hy : a.eval y = v) (hl : (Instr.storeAt t p v).run P w = .ok () w') (h : Q .normal a w') : AnyZ P md ops Q S z (n + 1) listed a w := by
  obtain ⟨o, h1, h2, h3, h4⟩ := isOp_spec ho
  refine AnyZ.last_ hr hd hz (wpOp_skip h1 h4 (exec_store h2 hx hy hl) ?_)
  rw [h3]
  exact h
end
end Go.Proofs.Ytefgofoocabkkaa
