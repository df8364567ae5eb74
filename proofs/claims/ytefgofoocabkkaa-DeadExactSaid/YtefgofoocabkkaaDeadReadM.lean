/-
  More steps of a region that draws its order: guarded operations, calls by their contracts, conversions. No conditions beyond those that each theorem types.
-/
import Derived.Test.YtefgofoocabkkaaDrawOpsM
import Derived.Test.YtefgofoocabkkaaRackMem
import Derived.Test.YtefgofoocabkkaaDeadMem
import Derived.Test.YtefgofoocabkkaaBlkOps
import Derived.Deep.Cut
import Derived.IntWalk
namespace Go.Proofs.Ytefgofoocabkkaa
open Go Go.RowKit
set_option maxRecDepth 100000
set_option linter.unusedVariables false

def wantG (g : Option (Nat × Bool)) (y : Nat → Option Bool) : Bool :=
  match g with
  | none => true
  | some (j, want) => y j == some want
theorem isOpG_spec {ops : Array Oper} {i : Nat} {op : Op} {d : Option Tmp} {g : Option (Nat × Bool)} (h : isOp ops i = some (op, d, g)) : ∃ o, ops[i]? = some o ∧ o.op = op ∧ o.dst = d ∧ o.guard = g := by
  unfold isOp at h
  cases e : ops[i]? with
  | none => rw [e] at h; cases h
  | some o =>
    rw [e] at h
    injection h with h
    injection h with h1 h2
    injection h2 with h2 h3
    exact ⟨o, rfl, h1, h2, h3⟩
section
variable {P : Program} {md : Region.Mode} {ops : Array Oper} {Q : Exit → Act → World → Prop} {S : World → Prop} {z n : Nat} {listed : Array Bool} {a : Act} {w : World}
theorem want_of {o : Oper} {g : Option (Nat × Bool)} {y : Nat → Option Bool} (h : o.guard = g) (hw : wantG g y = true) : Region.wanted o y = true := by
  unfold Region.wanted
  rw [h]
  exact hw
theorem want_not {o : Oper} {g : Option (Nat × Bool)} {y : Nat → Option Bool} (h : o.guard = g) (hw : wantG g y = false) : Region.wanted o y = false := by
  unfold Region.wanted
  rw [h]
  exact hw
/-- an operation that yields is taken -/
theorem takeG (i : Nat) (op : Op) (d : Option Tmp) (g : Option (Nat × Bool)) (v : Value) (ho : isOp ops i = some (op, d, g)) (hw : wantG g (yielded ops a.tmps) = true) (hB : takeB md ops z listed i = true)
    (hQ : ∀ c a w, Q (.panic c) (a.put d v) w → Q (.panic c) a w) (hy : ∀ (o : Oper) w, o.op = op → S w → (execOp a.eval o).run P w = .ok (.value v) w) (hS : S w)
    (h : AnyZ P md ops Q S z n (listed.setIfInBounds i true) (a.put d v) w) : AnyZ P md ops Q S z (n + 1) listed a w := by
  obtain ⟨o, h1, h2, rfl, h4⟩ := isOpG_spec ho
  simp only [takeB, Bool.and_eq_true] at hB
  exact AnyZ.take h1 hB.1.1.1 hB.1.1.2 hB.1.2 hB.2 hQ (.inl ⟨want_of h4 hw, fun w hw => hy o w h2 hw⟩) hS h
/-- an operation whose guard shuts it out -/
theorem takeSkip (i : Nat) (op : Op) (d : Option Tmp) (g : Option (Nat × Bool)) (ho : isOp ops i = some (op, d, g)) (hw : wantG g (yielded ops a.tmps) = false) (hB : takeB md ops z listed i = true)
    (hQ : ∀ c a w, Q (.panic c) (a.put d undef) w → Q (.panic c) a w) (hS : S w)
    (h : AnyZ P md ops Q S z n (listed.setIfInBounds i true) (a.put d undef) w) : AnyZ P md ops Q S z (n + 1) listed a w := by
  obtain ⟨o, h1, h2, rfl, h4⟩ := isOpG_spec ho
  simp only [takeB, Bool.and_eq_true] at hB
  exact AnyZ.take h1 hB.1.1.1 hB.1.1.2 hB.1.2 hB.2 hQ (.inr ⟨want_not h4 hw, rfl⟩) hS h
theorem exec_move {o : Oper} {x : Operand} {v : Value} (w : World) (e : o.op = .move x) (hx : a.eval x = v) : (execOp a.eval o).run P w = .ok (.value v) w := by
  unfold execOp; simp only [e, hx, Sem.run_pure]
theorem exec_assign {o : Oper} {x : Operand} {v : Value} (w : World) (e : o.op = .assign x) (hx : a.eval x = v) : (execOp a.eval o).run P w = .ok (.value v) w := by
  unfold execOp; simp only [e, hx, Sem.run_pure]
theorem exec_bin {o : Oper} {op : BinOp} {t ty : TypeId} {x y : Operand} {u1 u2 v : Value} (w : World) (e : o.op = .binOp op t x y ty) (hx : a.eval x = u1) (hy : a.eval y = u2) (hg : (eqGuard op t x y u1 u2).run P w = .ok () w) (hf : (binOp op t u1 u2).run P w = .ok v w) :
    (execOp a.eval o).run P w = .ok (.value v) w := by
  unfold execOp; simp only [e, hx, hy, hg, hf, Sem.run_bind, Sem.run_pure, Result.andThen_ok]
theorem exec_conv {o : Oper} {s t : TypeId} {x : Operand} {u v : Value} (w : World) (e : o.op = .convert s t x) (hx : a.eval x = u) (hf : (convert s t u).run P w = .ok v w) : (execOp a.eval o).run P w = .ok (.value v) w := by
  unfold execOp; simp only [e, hx, hf, Sem.run_bind, Sem.run_pure, Result.andThen_ok]
theorem exec_pick {o : Oper} {x y1 y2 : Operand} {b : Bool} {v : Value} (w : World) (e : o.op = .pick x y1 y2) (hx : a.eval x = .bool b) (hv : (if b then a.eval y1 else a.eval y2) = v) : (execOp a.eval o).run P w = .ok (.value v) w := by
  unfold execOp; simp only [e, hx, asBool, Sem.run_bind, Sem.run_pure, Result.andThen_ok]; rw [hv]
theorem exec_nil {o : Oper} {x : Operand} {p : Addr} (w : World) (e : o.op = .nilCheck x) (hx : a.eval x = .pointer (some p)) : (execOp a.eval o).run P w = .ok (.value (.pointer (some p))) w := by
  unfold execOp; simp only [e, hx, Sem.run_pure]
theorem exec_field {o : Oper} {t : TypeId} {x : Operand} {f : Nat} {u v : Value} (w : World) (e : o.op = .fieldAddr t x f) (hx : a.eval x = u) (hf : (Instr.fieldAt t u f).run P w = .ok v w) : (execOp a.eval o).run P w = .ok (.value v) w := by
  unfold execOp; simp only [e, hx, hf, Sem.run_bind, Sem.run_pure, Result.andThen_ok]
theorem exec_index {o : Oper} {t : TypeId} {x y : Operand} {u1 u2 v : Value} (w : World) (e : o.op = .indexAddr t x y) (hx : a.eval x = u1) (hy : a.eval y = u2) (hf : (Instr.indexAt t u1 u2).run P w = .ok v w) : (execOp a.eval o).run P w = .ok (.value v) w := by
  unfold execOp; simp only [e, hx, hy, hf, Sem.run_bind, Sem.run_pure, Result.andThen_ok]
theorem exec_make {o : Oper} {t : TypeId} {x y : Operand} {u1 u2 v : Value} {w w' : World} (e : o.op = .makeSlice t x y) (hx : a.eval x = u1) (hy : a.eval y = u2) (hf : (Instr.makeSlice t u1 u2).run P w = .ok v w') : (execOp a.eval o).run P w = .ok (.value v) w' := by
  unfold execOp; simp only [e, hx, hy, hf, Sem.run_bind, Sem.run_pure, Result.andThen_ok]
/-- only i may come up, any operation, its guard open -/
theorem loneG (i : Nat) (op : Op) (d : Option Tmp) (g : Option (Nat × Bool)) (ho : isOp ops i = some (op, d, g)) (hw : wantG g (yielded ops a.tmps) = true) (hr : Region.ready md ops listed = [i])
    (h : ∀ o : Oper, o.op = op → o.dst = d → o.wp P a w (fun a' w' => (i ≠ z → S w') ∧ AnyZ P md ops Q S z n (listed.setIfInBounds i true) a' w') Q) : AnyZ P md ops Q S z (n + 1) listed a w := by
  obtain ⟨o, h1, h2, h3, h4⟩ := isOpG_spec ho
  refine AnyZ.one hr ?_
  unfold wpOp
  simp only [h1, want_of h4 hw, if_true]
  exact .inl (h o h2 h3)
theorem wp_val {o : Oper} {K : Act → World → Prop} {w' : World} {v : Value} (hl : (execOp a.eval o).run P w = .ok (.value v) w') (h : K (a.put o.dst v) w') : o.wp P a w K Q := by
  unfold Oper.wp
  rw [hl]
  exact h
/-- a call, by its contract -/
theorem wp_callC {o : Oper} {K : Act → World → Prop} {f : FuncId} {args : Array Value} {R : Ending → World → Prop} (hrun : (execOp a.eval o).run P w = .ok (.enter f args) w) (hc : Calls P f args w R)
    (hK : ∀ e w', R e w' → ∃ v, e = .returned v ∧ K (a.put o.dst v) w') : o.wp P a w K Q := by
  unfold Oper.wp
  rw [hrun]
  show Calls P f args w _
  refine hc.mono fun e w' h => ?_
  obtain ⟨v, rfl, h2⟩ := hK e w' h
  exact h2
theorem put_some (a : Act) (d : Tmp) (v : Value) : a.put (some d) v = { a with tmps := a.tmps.setIfInBounds d v } := rfl
theorem put_none (a : Act) (v : Value) : a.put none v = a := rfl
/-- the last of a region in which S stands to the end -/
theorem lastS (i : Nat) (op : Op) (d : Option Tmp) (v : Value) (ho : isOp ops i = some (op, d, none)) (hr : Region.ready md ops listed = [i]) (hd : Region.ready md ops (listed.setIfInBounds i true) = []) (hS : S w)
    (hy : ∀ (o : Oper), o.op = op → (execOp a.eval o).run P w = .ok (.value v) w) (h : Q .normal (a.put d v) w) : AnyZ P md ops Q S z (n + 1) listed a w := by
  obtain ⟨o, h1, h2, h3, h4⟩ := isOp_spec ho
  refine AnyZ.one hr (wpOp_op h1 h4 (wp_val (hy o h2) ⟨fun _ => hS, AnyZ.done hd ?_⟩))
  rw [h3]
  exact h
theorem lastG (i : Nat) (op : Op) (d : Option Tmp) (v : Value) (ho : isOp ops i = some (op, d, none)) (hr : Region.ready md ops listed = [i]) (hd : Region.ready md ops (listed.setIfInBounds i true) = []) (hz : i = z)
    (hy : ∀ (o : Oper), o.op = op → (execOp a.eval o).run P w = .ok (.value v) w) (h : Q .normal (a.put d v) w) : AnyZ P md ops Q S z (n + 1) listed a w := by
  refine lastOp i op d ho hr hd hz fun o h2 h3 => wp_val (hy o h2) ?_
  rw [h3]
  exact h
end
theorem eqG_int (op : BinOp) (t : TypeId) (x y : Operand) (k k' : IntKind) (i j : Int) (P : Program) (w : World) : (eqGuard op t x y (.int k i) (.int k' j)).run P w = .ok () w := by
  unfold eqGuard
  cases op <;> rfl
theorem eqG_str (op : BinOp) (t : TypeId) (x y : Operand) (a b : ByteArray) (P : Program) (w : World) : (eqGuard op t x y (.string a) (.string b)).run P w = .ok () w := by
  unfold eqGuard
  cases op <;> rfl
/-- 'xs[i]' of one-cell elements -/
theorem index_slice {P : Program} {t e : TypeId} (ht : P.underlying t = some (.slice e)) (hi : (P.info? e).map (·.size) = some 1) (b o n c i : Nat) (hlt : i < n) (w : World) :
    (Instr.indexAt t (.slice (some ⟨b, o, none⟩) n c) (.int .i64 (i : Int))).run P w = .ok (.pointer (some ⟨b, o + i, none⟩)) w := by
  cases hq : P.info? e with
  | none => simp [hq] at hi
  | some inf =>
    have hs : inf.size = 1 := by simpa [hq] using hi
    have h2 : (i : Int) < (n : Int) := by omega
    unfold Instr.indexAt asIntOf
    simp [run_underlying ht, Sem.run_bind, sizeOf, typeInfo, hq, hs, hlt, add_plain]
end Go.Proofs.Ytefgofoocabkkaa
namespace Go.Proofs.Ytefgofoocabkkaa
open Go Go.RowKit
set_option maxRecDepth 100000
set_option linter.unusedVariables false
section
variable {P : Program} {a : Act}
theorem exec_slice {o : Oper} {t : TypeId} {x : Operand} {lo hi mx : Option Operand} {lo' hi' mx' : Option Value} {u v : Value} (w : World) (e : o.op = .slice t x lo hi mx) (hx : a.eval x = u) (hlo : lo.map a.eval = lo') (hhi : hi.map a.eval = hi') (hmx : mx.map a.eval = mx') (hf : (Instr.sliceAt t u lo' hi' mx').run P w = .ok v w) : (execOp a.eval o).run P w = .ok (.value v) w := by
  subst hlo hhi hmx
  unfold execOp; simp only [e, hx, hf, Sem.run_bind, Sem.run_pure, Result.andThen_ok]
theorem exec_at {o : Oper} {t : TypeId} {x y : Operand} {u1 u2 v : Value} (w : World) (e : o.op = .index t x y) (hx : a.eval x = u1) (hy : a.eval y = u2) (hf : (Instr.index t u1 u2).run P w = .ok v w) : (execOp a.eval o).run P w = .ok (.value v) w := by
  unfold execOp; simp only [e, hx, hy, hf, Sem.run_bind, Sem.run_pure, Result.andThen_ok]
theorem exec_len {o : Oper} {x : Operand} {t : TypeId} {u v : Value} (w : World) (e : o.op = .call { callee := .builtin .len, args := #[x], argTypes := #[t] }) (hx : a.eval x = u) (hf : (Builtin.len_ #[t] o.type #[u]).run P w = .ok v w) : (execOp a.eval o).run P w = .ok (.value v) w := by
  unfold execOp; simp [e, hx, hf, resolve, invoke, builtin, Sem.run_bind, Sem.run_pure, Result.andThen_ok]
theorem exec_un {o : Oper} {op : UnOp} {t : TypeId} {x : Operand} {u v : Value} (w : World) (e : o.op = .unOp op t x) (hx : a.eval x = u) (hf : (Op.unary op u).run P w = .ok v w) : (execOp a.eval o).run P w = .ok (.value v) w := by
  unfold execOp; simp only [e, hx, hf, Sem.run_bind, Sem.run_pure, Result.andThen_ok]
end
end Go.Proofs.Ytefgofoocabkkaa
namespace Go.Proofs.Ytefgofoocabkkaa
open Go Go.RowKit
set_option maxRecDepth 100000
set_option linter.unusedVariables false
namespace Dd
end Dd
end Go.Proofs.Ytefgofoocabkkaa
