/-
  The steps of a region that draws its order, taken by hand: loads, stores, what comes up alone. No conditions beyond those that each theorem types.
-/
import Derived.Test.YtikenhcglbfgpaaDoorTakeTailM
import Derived.Test.YtikenhcglbfgpaaDoorStrBM
namespace Go.Proofs.YtikenhcglbfgpaaDoor
open Go Go.RowKit
set_option maxRecDepth 100000

section
variable {P : Program} {md : Region.Mode} {ops : Array Oper} {Q : Exit → Act → World → Prop} {S : World → Prop} {z : Nat}
theorem load_one {w : World} {p : Addr} {v : Value} {t : TypeId} {d : TypeDesc} (hu : P.underlying t = some d) (hd : d.isRow = false) (hc : w.cell? p = some v) : (Instr.loadAt t (.pointer (some p))).run P w = .ok v w := by
  have hagg : (isAgg t).run P w = .ok false w := by
    unfold isAgg
    rw [Sem.run_bind, run_underlying hu w]
    cases d <;> simp_all
  simp [Instr.loadAt, Instr.sureAddr, loadVar, Sem.run_bind, hagg, hc]
theorem store_one {w : World} {p : Addr} {v : Value} {t : TypeId} (hi : (P.info? t).map (·.size) = some 1) (hv : v.cells = #[v]) (h1 : v.oneCell' = true) (hc : (w.cell? p).isSome = true) (hf : w.frozen? p = false) (ha : p.add 0 = p) : (Instr.storeAt t (.pointer (some p)) v).run P w = .ok () (w.setCell p v) := by
  cases hq : P.info? t with
  | none => simp [hq] at hi
  | some i =>
    have hs : i.size = 1 := by simpa [hq] using hi
    obtain ⟨x, hx⟩ := Option.isSome_iff_exists.1 hc
    simp [Instr.storeAt, Instr.sureAddr, storeVar, Sem.run_bind, sizeOf, typeInfo, hq, hs, hv, storeCells, run_store P w p v .plain h1, hx, hf, ha]
theorem exec_load {w : World} {o : Oper} {a : Act} {ty : TypeId} {x : Operand} {p v : Value} (ho : o.op = .load ty x) (hx : a.eval x = p) (hl : (Instr.loadAt ty p).run P w = .ok v w) : (execOp a.eval o).run P w = .ok (.value v) w := by
  unfold execOp
  simp only [ho, hx, hl, Sem.run_bind, Sem.run_pure, Result.andThen_ok]
theorem exec_store {w w' : World} {o : Oper} {a : Act} {ty : TypeId} {x y : Operand} {p v : Value} (ho : o.op = .store ty x y) (hx : a.eval x = p) (hy : a.eval y = v) (hl : (Instr.storeAt ty p v).run P w = .ok () w') : (execOp a.eval o).run P w = .ok .skip w' := by
  unfold execOp
  simp only [ho, hx, hy, hl, Sem.run_bind, Sem.run_pure, Result.andThen_ok]
theorem exec_buildSlice1 {w w' : World} {o : Oper} {a : Act} {ty : TypeId} {n i : Nat} {x : Operand} {u v : Value} (ho : o.op = .buildSlice ty n #[(i, x)]) (hx : a.eval x = u) (hl : (Instr.buildSlice ty n #[(i, u)]).run P w = .ok v w') : (execOp a.eval o).run P w = .ok (.value v) w' := by
  unfold execOp
  simp only [ho, List.map_toArray, List.map_cons, List.map_nil, hx, hl, Sem.run_bind, Sem.run_pure, Result.andThen_ok]
/-- the last of a region -/
theorem AnyZ.last_ {i n : Nat} {listed : Array Bool} {a : Act} {w : World} (hr : Region.ready md ops listed = [i]) (hd : Region.ready md ops (listed.setIfInBounds i true) = [])
    (hz : i = z) (h : wpOp P ops Q i (fun a' w' => Q .normal a' w') a w) : AnyZ P md ops Q S z (n + 1) listed a w :=
  AnyZ.one hr (wpOp_mono (fun _ _ h' => ⟨fun hne => absurd hz hne, AnyZ.done hd h'⟩) h)
end
end Go.Proofs.YtikenhcglbfgpaaDoor
namespace Go.Proofs.YtikenhcglbfgpaaDoor
open Go Go.RowKit
set_option maxRecDepth 100000

/-- number i may be taken now -/
def takeB (md : Region.Mode) (ops : Array Oper) (z : Nat) (listed : Array Bool) (i : Nat) : Bool :=
  Region.noSelect ops && Region.free md ops listed i && (Region.ready md ops listed).contains i && (Region.waitsFor md ops z i || decide (ops.size ≤ z))
def isOp (ops : Array Oper) (i : Nat) : Option (Op × Option Tmp × Option (Nat × Bool)) := (ops[i]?).map fun o => (o.op, o.dst, o.guard)
theorem isOp_spec {ops : Array Oper} {i : Nat} {op : Op} {d : Option Tmp} (h : isOp ops i = some (op, d, none)) : ∃ o, ops[i]? = some o ∧ o.op = op ∧ o.dst = d ∧ o.guard = none := by
  unfold isOp at h
  cases e : ops[i]? with
  | none => rw [e] at h; cases h
  | some o =>
    rw [e] at h
    injection h with h
    injection h with h1 h2
    injection h2 with h2 h3
    exact ⟨o, rfl, h1, h2, h3⟩
section
variable {P : Program} {md : Region.Mode} {ops : Array Oper} {Q : Exit → Act → World → Prop} {S : World → Prop} {z n : Nat} {listed : Array Bool} {a : Act} {w : World}
theorem takeP (i : Nat) (op : Op) (d : Option Tmp) (v : Value) (ho : isOp ops i = some (op, d, none)) (hB : takeB md ops z listed i = true)
    (hQ : ∀ c a w, Q (.panic c) (a.put d v) w → Q (.panic c) a w) (hy : ∀ (o : Oper) w, o.op = op → S w → (execOp a.eval o).run P w = .ok (.value v) w) (hS : S w)
    (h : AnyZ P md ops Q S z n (listed.setIfInBounds i true) (a.put d v) w) : AnyZ P md ops Q S z (n + 1) listed a w := by
  obtain ⟨o, h1, h2, rfl, h4⟩ := isOp_spec ho
  simp only [takeB, Bool.and_eq_true] at hB
  exact AnyZ.take h1 hB.1.1.1 hB.1.1.2 hB.1.2 hB.2 hQ (yields_if h4 fun w hw => hy o w h2 hw) hS h
theorem takeMove (i : Nat) (x : Operand) (d : Option Tmp) (v : Value) (ho : isOp ops i = some (.move x, d, none)) (hB : takeB md ops z listed i = true) (hx : a.eval x = v)
    (hQ : ∀ c a w, Q (.panic c) (a.put d v) w → Q (.panic c) a w) (hS : S w)
    (h : AnyZ P md ops Q S z n (listed.setIfInBounds i true) (a.put d v) w) : AnyZ P md ops Q S z (n + 1) listed a w :=
  takeP i _ d v ho hB hQ (fun o w e _ => by unfold execOp; simp only [e, hx, Sem.run_pure]) hS h
theorem takeNil (i : Nat) (x : Operand) (d : Option Tmp) (p : Addr) (ho : isOp ops i = some (.nilCheck x, d, none)) (hB : takeB md ops z listed i = true) (hx : a.eval x = .pointer (some p))
    (hQ : ∀ c a w, Q (.panic c) (a.put d (.pointer (some p))) w → Q (.panic c) a w) (hS : S w)
    (h : AnyZ P md ops Q S z n (listed.setIfInBounds i true) (a.put d (.pointer (some p))) w) : AnyZ P md ops Q S z (n + 1) listed a w :=
  takeP i _ d _ ho hB hQ (fun o w e _ => by unfold execOp; simp only [e, hx, Sem.run_pure]) hS h
theorem takeField (i : Nat) (t : TypeId) (x : Operand) (f : Nat) (d : Option Tmp) (p v : Value) (ho : isOp ops i = some (.fieldAddr t x f, d, none)) (hB : takeB md ops z listed i = true) (hx : a.eval x = p) (hf : ∀ w, (Instr.fieldAt t p f).run P w = .ok v w)
    (hQ : ∀ c a w, Q (.panic c) (a.put d v) w → Q (.panic c) a w) (hS : S w)
    (h : AnyZ P md ops Q S z n (listed.setIfInBounds i true) (a.put d v) w) : AnyZ P md ops Q S z (n + 1) listed a w :=
  takeP i _ d v ho hB hQ (fun o w e _ => by unfold execOp; simp only [e, hx, hf, Sem.run_bind, Sem.run_pure, Result.andThen_ok]) hS h
theorem takeIndex (i : Nat) (t : TypeId) (x ix : Operand) (d : Option Tmp) (p j v : Value) (ho : isOp ops i = some (.indexAddr t x ix, d, none)) (hB : takeB md ops z listed i = true) (hx : a.eval x = p) (hj : a.eval ix = j) (hf : ∀ w, (Instr.indexAt t p j).run P w = .ok v w)
    (hQ : ∀ c a w, Q (.panic c) (a.put d v) w → Q (.panic c) a w) (hS : S w)
    (h : AnyZ P md ops Q S z n (listed.setIfInBounds i true) (a.put d v) w) : AnyZ P md ops Q S z (n + 1) listed a w :=
  takeP i _ d v ho hB hQ (fun o w e _ => by unfold execOp; simp only [e, hx, hj, hf, Sem.run_bind, Sem.run_pure, Result.andThen_ok]) hS h
theorem takeLoad (i : Nat) (t : TypeId) (x : Operand) (d : Option Tmp) (p v : Value) (ho : isOp ops i = some (.load t x, d, none)) (hB : takeB md ops z listed i = true) (hx : a.eval x = p) (hl : ∀ w, S w → (Instr.loadAt t p).run P w = .ok v w)
    (hQ : ∀ c a w, Q (.panic c) (a.put d v) w → Q (.panic c) a w) (hS : S w)
    (h : AnyZ P md ops Q S z n (listed.setIfInBounds i true) (a.put d v) w) : AnyZ P md ops Q S z (n + 1) listed a w :=
  takeP i _ d v ho hB hQ (fun o w e hw => exec_load e hx (hl w hw)) hS h
theorem takeBin (i : Nat) (op : BinOp) (t : TypeId) (x y : Operand) (ty : TypeId) (d : Option Tmp) (u1 u2 v : Value) (ho : isOp ops i = some (.binOp op t x y ty, d, none)) (hB : takeB md ops z listed i = true) (hx : a.eval x = u1) (hy : a.eval y = u2)
    (hf : ∀ w, (eqGuard op t x y u1 u2).run P w = .ok () w ∧ (binOp op t u1 u2).run P w = .ok v w)
    (hQ : ∀ c a w, Q (.panic c) (a.put d v) w → Q (.panic c) a w) (hS : S w)
    (h : AnyZ P md ops Q S z n (listed.setIfInBounds i true) (a.put d v) w) : AnyZ P md ops Q S z (n + 1) listed a w :=
  takeP i _ d v ho hB hQ (fun o w e _ => by unfold execOp; simp only [e, hx, hy, (hf w).1, (hf w).2, Sem.run_bind, Sem.run_pure, Result.andThen_ok]) hS h
/-- only i may come up: any operation -/
theorem lone (i : Nat) (op : Op) (d : Option Tmp) (ho : isOp ops i = some (op, d, none)) (hr : Region.ready md ops listed = [i])
    (h : ∀ o : Oper, o.op = op → o.dst = d → o.wp P a w (fun a' w' => (i ≠ z → S w') ∧ AnyZ P md ops Q S z n (listed.setIfInBounds i true) a' w') Q) : AnyZ P md ops Q S z (n + 1) listed a w := by
  obtain ⟨o, h1, h2, h3, h4⟩ := isOp_spec ho
  exact AnyZ.one hr (wpOp_op h1 h4 (h o h2 h3))
theorem lastOp (i : Nat) (op : Op) (d : Option Tmp) (ho : isOp ops i = some (op, d, none)) (hr : Region.ready md ops listed = [i]) (hd : Region.ready md ops (listed.setIfInBounds i true) = []) (hz : i = z)
    (h : ∀ o : Oper, o.op = op → o.dst = d → o.wp P a w (fun a' w' => Q .normal a' w') Q) : AnyZ P md ops Q S z (n + 1) listed a w := by
  obtain ⟨o, h1, h2, h3, h4⟩ := isOp_spec ho
  exact AnyZ.last_ hr hd hz (wpOp_op h1 h4 (h o h2 h3))
theorem lastStore (i : Nat) (t : TypeId) (x y : Operand) (p v : Value) (w' : World) (ho : isOp ops i = some (.store t x y, none, none)) (hr : Region.ready md ops listed = [i]) (hd : Region.ready md ops (listed.setIfInBounds i true) = []) (hz : i = z)
    (hx : a.eval x = p) (hy : a.eval y = v) (hl : (Instr.storeAt t p v).run P w = .ok () w') (h : Q .normal a w') : AnyZ P md ops Q S z (n + 1) listed a w := by
  obtain ⟨o, h1, h2, h3, h4⟩ := isOp_spec ho
  refine AnyZ.last_ hr hd hz (wpOp_skip h1 h4 (exec_store h2 hx hy hl) ?_)
  rw [h3]
  exact h
end
end Go.Proofs.YtikenhcglbfgpaaDoor
namespace Go.Proofs.YtikenhcglbfgpaaDoor
open Go Go.RowKit
set_option maxRecDepth 100000
set_option linter.unusedVariables false

def wantG (g : Option (Nat × Bool)) (y : Nat → Option Bool) : Bool :=
  match g with
  | none => true
  | some (j, want) => y j == some want
theorem isOpG_spec {ops : Array Oper} {i : Nat} {op : Op} {d : Option Tmp} {g : Option (Nat × Bool)} (h : isOp ops i = some (op, d, g)) : ∃ o, ops[i]? = some o ∧ o.op = op ∧ o.dst = d ∧ o.guard = g := by
  unfold isOp at h
  cases e : ops[i]? with
  | none => rw [e] at h; cases h
  | some o =>
    rw [e] at h
    injection h with h
    injection h with h1 h2
    injection h2 with h2 h3
    exact ⟨o, rfl, h1, h2, h3⟩
section
variable {P : Program} {md : Region.Mode} {ops : Array Oper} {Q : Exit → Act → World → Prop} {S : World → Prop} {z n : Nat} {listed : Array Bool} {a : Act} {w : World}
theorem want_of {o : Oper} {g : Option (Nat × Bool)} {y : Nat → Option Bool} (h : o.guard = g) (hw : wantG g y = true) : Region.wanted o y = true := by
  unfold Region.wanted
  rw [h]
  exact hw
theorem want_not {o : Oper} {g : Option (Nat × Bool)} {y : Nat → Option Bool} (h : o.guard = g) (hw : wantG g y = false) : Region.wanted o y = false := by
  unfold Region.wanted
  rw [h]
  exact hw
/-- an operation that yields is taken -/
theorem takeG (i : Nat) (op : Op) (d : Option Tmp) (g : Option (Nat × Bool)) (v : Value) (ho : isOp ops i = some (op, d, g)) (hw : wantG g (yielded ops a.tmps) = true) (hB : takeB md ops z listed i = true)
    (hQ : ∀ c a w, Q (.panic c) (a.put d v) w → Q (.panic c) a w) (hy : ∀ (o : Oper) w, o.op = op → S w → (execOp a.eval o).run P w = .ok (.value v) w) (hS : S w)
    (h : AnyZ P md ops Q S z n (listed.setIfInBounds i true) (a.put d v) w) : AnyZ P md ops Q S z (n + 1) listed a w := by
  obtain ⟨o, h1, h2, rfl, h4⟩ := isOpG_spec ho
  simp only [takeB, Bool.and_eq_true] at hB
  exact AnyZ.take h1 hB.1.1.1 hB.1.1.2 hB.1.2 hB.2 hQ (.inl ⟨want_of h4 hw, fun w hw => hy o w h2 hw⟩) hS h
/-- an operation whose guard shuts it out -/
theorem takeSkip (i : Nat) (op : Op) (d : Option Tmp) (g : Option (Nat × Bool)) (ho : isOp ops i = some (op, d, g)) (hw : wantG g (yielded ops a.tmps) = false) (hB : takeB md ops z listed i = true)
    (hQ : ∀ c a w, Q (.panic c) (a.put d undef) w → Q (.panic c) a w) (hS : S w)
    (h : AnyZ P md ops Q S z n (listed.setIfInBounds i true) (a.put d undef) w) : AnyZ P md ops Q S z (n + 1) listed a w := by
  obtain ⟨o, h1, h2, rfl, h4⟩ := isOpG_spec ho
  simp only [takeB, Bool.and_eq_true] at hB
  exact AnyZ.take h1 hB.1.1.1 hB.1.1.2 hB.1.2 hB.2 hQ (.inr ⟨want_not h4 hw, rfl⟩) hS h
theorem exec_move {o : Oper} {x : Operand} {v : Value} (w : World) (e : o.op = .move x) (hx : a.eval x = v) : (execOp a.eval o).run P w = .ok (.value v) w := by
  unfold execOp; simp only [e, hx, Sem.run_pure]
theorem exec_assign {o : Oper} {x : Operand} {v : Value} (w : World) (e : o.op = .assign x) (hx : a.eval x = v) : (execOp a.eval o).run P w = .ok (.value v) w := by
  unfold execOp; simp only [e, hx, Sem.run_pure]
theorem exec_bin {o : Oper} {op : BinOp} {t ty : TypeId} {x y : Operand} {u1 u2 v : Value} (w : World) (e : o.op = .binOp op t x y ty) (hx : a.eval x = u1) (hy : a.eval y = u2) (hg : (eqGuard op t x y u1 u2).run P w = .ok () w) (hf : (binOp op t u1 u2).run P w = .ok v w) :
    (execOp a.eval o).run P w = .ok (.value v) w := by
  unfold execOp; simp only [e, hx, hy, hg, hf, Sem.run_bind, Sem.run_pure, Result.andThen_ok]
theorem exec_conv {o : Oper} {s t : TypeId} {x : Operand} {u v : Value} (w : World) (e : o.op = .convert s t x) (hx : a.eval x = u) (hf : (convert s t u).run P w = .ok v w) : (execOp a.eval o).run P w = .ok (.value v) w := by
  unfold execOp; simp only [e, hx, hf, Sem.run_bind, Sem.run_pure, Result.andThen_ok]
theorem exec_pick {o : Oper} {x y1 y2 : Operand} {b : Bool} {v : Value} (w : World) (e : o.op = .pick x y1 y2) (hx : a.eval x = .bool b) (hv : (if b then a.eval y1 else a.eval y2) = v) : (execOp a.eval o).run P w = .ok (.value v) w := by
  unfold execOp; simp only [e, hx, asBool, Sem.run_bind, Sem.run_pure, Result.andThen_ok]; rw [hv]
theorem exec_nil {o : Oper} {x : Operand} {p : Addr} (w : World) (e : o.op = .nilCheck x) (hx : a.eval x = .pointer (some p)) : (execOp a.eval o).run P w = .ok (.value (.pointer (some p))) w := by
  unfold execOp; simp only [e, hx, Sem.run_pure]
theorem exec_field {o : Oper} {t : TypeId} {x : Operand} {f : Nat} {u v : Value} (w : World) (e : o.op = .fieldAddr t x f) (hx : a.eval x = u) (hf : (Instr.fieldAt t u f).run P w = .ok v w) : (execOp a.eval o).run P w = .ok (.value v) w := by
  unfold execOp; simp only [e, hx, hf, Sem.run_bind, Sem.run_pure, Result.andThen_ok]
theorem exec_index {o : Oper} {t : TypeId} {x y : Operand} {u1 u2 v : Value} (w : World) (e : o.op = .indexAddr t x y) (hx : a.eval x = u1) (hy : a.eval y = u2) (hf : (Instr.indexAt t u1 u2).run P w = .ok v w) : (execOp a.eval o).run P w = .ok (.value v) w := by
  unfold execOp; simp only [e, hx, hy, hf, Sem.run_bind, Sem.run_pure, Result.andThen_ok]
theorem exec_make {o : Oper} {t : TypeId} {x y : Operand} {u1 u2 v : Value} {w w' : World} (e : o.op = .makeSlice t x y) (hx : a.eval x = u1) (hy : a.eval y = u2) (hf : (Instr.makeSlice t u1 u2).run P w = .ok v w') : (execOp a.eval o).run P w = .ok (.value v) w' := by
  unfold execOp; simp only [e, hx, hy, hf, Sem.run_bind, Sem.run_pure, Result.andThen_ok]
/-- only i may come up, any operation, its guard open -/
theorem loneG (i : Nat) (op : Op) (d : Option Tmp) (g : Option (Nat × Bool)) (ho : isOp ops i = some (op, d, g)) (hw : wantG g (yielded ops a.tmps) = true) (hr : Region.ready md ops listed = [i])
    (h : ∀ o : Oper, o.op = op → o.dst = d → o.wp P a w (fun a' w' => (i ≠ z → S w') ∧ AnyZ P md ops Q S z n (listed.setIfInBounds i true) a' w') Q) : AnyZ P md ops Q S z (n + 1) listed a w := by
  obtain ⟨o, h1, h2, h3, h4⟩ := isOpG_spec ho
  refine AnyZ.one hr ?_
  unfold wpOp
  simp only [h1, want_of h4 hw, if_true]
  exact .inl (h o h2 h3)
theorem wp_val {o : Oper} {K : Act → World → Prop} {w' : World} {v : Value} (hl : (execOp a.eval o).run P w = .ok (.value v) w') (h : K (a.put o.dst v) w') : o.wp P a w K Q := by
  unfold Oper.wp
  rw [hl]
  exact h
/-- a call, by its contract -/
theorem wp_callC {o : Oper} {K : Act → World → Prop} {f : FuncId} {args : Array Value} {R : Ending → World → Prop} (hrun : (execOp a.eval o).run P w = .ok (.enter f args) w) (hc : Calls P f args w R)
    (hK : ∀ e w', R e w' → ∃ v, e = .returned v ∧ K (a.put o.dst v) w') : o.wp P a w K Q := by
  unfold Oper.wp
  rw [hrun]
  show Calls P f args w _
  refine hc.mono fun e w' h => ?_
  obtain ⟨v, rfl, h2⟩ := hK e w' h
  exact h2
theorem put_some (a : Act) (d : Tmp) (v : Value) : a.put (some d) v = { a with tmps := a.tmps.setIfInBounds d v } := rfl
theorem put_none (a : Act) (v : Value) : a.put none v = a := rfl
/-- the last of a region in which S stands to the end -/
theorem lastS (i : Nat) (op : Op) (d : Option Tmp) (v : Value) (ho : isOp ops i = some (op, d, none)) (hr : Region.ready md ops listed = [i]) (hd : Region.ready md ops (listed.setIfInBounds i true) = []) (hS : S w)
    (hy : ∀ (o : Oper), o.op = op → (execOp a.eval o).run P w = .ok (.value v) w) (h : Q .normal (a.put d v) w) : AnyZ P md ops Q S z (n + 1) listed a w := by
  obtain ⟨o, h1, h2, h3, h4⟩ := isOp_spec ho
  refine AnyZ.one hr (wpOp_op h1 h4 (wp_val (hy o h2) ⟨fun _ => hS, AnyZ.done hd ?_⟩))
  rw [h3]
  exact h
theorem lastG (i : Nat) (op : Op) (d : Option Tmp) (v : Value) (ho : isOp ops i = some (op, d, none)) (hr : Region.ready md ops listed = [i]) (hd : Region.ready md ops (listed.setIfInBounds i true) = []) (hz : i = z)
    (hy : ∀ (o : Oper), o.op = op → (execOp a.eval o).run P w = .ok (.value v) w) (h : Q .normal (a.put d v) w) : AnyZ P md ops Q S z (n + 1) listed a w := by
  refine lastOp i op d ho hr hd hz fun o h2 h3 => wp_val (hy o h2) ?_
  rw [h3]
  exact h
end
theorem eqG_int (op : BinOp) (t : TypeId) (x y : Operand) (k k' : IntKind) (i j : Int) (P : Program) (w : World) : (eqGuard op t x y (.int k i) (.int k' j)).run P w = .ok () w := by
  unfold eqGuard
  cases op <;> rfl
theorem eqG_str (op : BinOp) (t : TypeId) (x y : Operand) (a b : ByteArray) (P : Program) (w : World) : (eqGuard op t x y (.string a) (.string b)).run P w = .ok () w := by
  unfold eqGuard
  cases op <;> rfl
/-- 'xs[i]' of one-cell elements -/
theorem index_slice {P : Program} {t e : TypeId} (ht : P.underlying t = some (.slice e)) (hi : (P.info? e).map (·.size) = some 1) (b o n c i : Nat) (hlt : i < n) (w : World) :
    (Instr.indexAt t (.slice (some ⟨b, o, none⟩) n c) (.int .i64 (i : Int))).run P w = .ok (.pointer (some ⟨b, o + i, none⟩)) w := by
  cases hq : P.info? e with
  | none => simp [hq] at hi
  | some inf =>
    have hs : inf.size = 1 := by simpa [hq] using hi
    have h2 : (i : Int) < (n : Int) := by omega
    unfold Instr.indexAt asIntOf
    simp [run_underlying ht, Sem.run_bind, sizeOf, typeInfo, hq, hs, hlt, add_plain]
end Go.Proofs.YtikenhcglbfgpaaDoor
