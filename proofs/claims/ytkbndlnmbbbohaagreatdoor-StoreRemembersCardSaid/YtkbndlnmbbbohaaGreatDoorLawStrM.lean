/-
 The steps of a region that draws its order, taken by hand, each by the operation's own words. No conditions beyond those that each theorem types.
-/
import Derived.Test.YtkbndlnmbbbohaaGreatDoorRackWriteM
import Derived.Maps.RangeWalk
import Derived.Test.YtkbndlnmbbbohaaGreatDoorRackMapM
import Derived.Laws.BitsLemmas
import Derived.Laws.BytesArg
import Derived.Test.YtkbndlnmbbbohaaGreatDoorRackAwaitM
import Derived.Laws.StructEq
namespace Go.Proofs.YtkbndlnmbbbohaaGreatDoor
open Go Go.RowKit
set_option maxRecDepth 100000
def takeB (md : Region.Mode) (ops : Array Oper) (z : Nat) (listed : Array Bool) (i : Nat) : Bool :=
 Region.noSelect ops && Region.free md ops listed i && (Region.ready md ops listed).contains i && (Region.waitsFor md ops z i || decide (ops.size ≤ z))
def isOp (ops : Array Oper) (i : Nat) : Option (Op × Option Tmp × Option (Nat × Bool)) := (ops[i]?).map fun o => (o.op, o.dst, o.guard)
theorem isOp_spec {ops : Array Oper} {i : Nat} {op : Op} {d : Option Tmp} (h : isOp ops i = some (op, d, none)) : ∃ o, ops[i]? = some o ∧ o.op = op ∧ o.dst = d ∧ o.guard = none := by
 unfold isOp at h
 cases e : ops[i]? with
 | none => rw [e] at h; cases h
 | some o =>
  rw [e] at h
  injection h with h
  injection h with h1 h2
  injection h2 with h2 h3
  exact ⟨o, rfl, h1, h2, h3⟩
section
variable {P : Program} {md : Region.Mode} {ops : Array Oper} {Q : Exit → Act → World → Prop} {S : World → Prop} {z n : Nat} {listed : Array Bool} {a : Act} {w : World}
theorem lastOp (i : Nat) (op : Op) (d : Option Tmp) (ho : isOp ops i = some (op, d, none)) (hr : Region.ready md ops listed = [i]) (hd : Region.ready md ops (listed.setIfInBounds i true) = []) (hz : i = z)
  (h : ∀ o : Oper, o.op = op → o.dst = d → o.wp P a w (fun a' w' => Q .normal a' w') Q) : AnyZ P md ops Q S z (n + 1) listed a w := by
 obtain ⟨o, h1, h2, h3, h4⟩ := isOp_spec ho
 exact AnyZ.last_ hr hd hz (wpOp_op h1 h4 (h o h2 h3))
theorem lastStore (i : Nat) (t : TypeId) (x y : Operand) (p v : Value) (w' : World) (ho : isOp ops i = some (.store t x y, none, none)) (hr : Region.ready md ops listed = [i]) (hd : Region.ready md ops (listed.setIfInBounds i true) = []) (hz : i = z)
  (hx : a.eval x = p) (hy : a.eval y = v) (hl : (Instr.storeAt t p v).run P w = .ok () w') (h : Q .normal a w') : AnyZ P md ops Q S z (n + 1) listed a w := by
 obtain ⟨o, h1, h2, h3, h4⟩ := isOp_spec ho
 refine AnyZ.last_ hr hd hz (wpOp_skip h1 h4 (exec_store h2 hx hy hl) ?_)
 rw [h3]
 exact h
end
end Go.Proofs.YtkbndlnmbbbohaaGreatDoor
namespace Go.Proofs.YtkbndlnmbbbohaaGreatDoor
set_option maxRecDepth 100000
open Go.RowKit
set_option linter.unusedVariables false
def RS.lay (s : RS) (P : Nat → Bool) : Nat → Nat → Nat → Nat → Nat
 | 0 => s.last
 | k + 1 => fun d a => if P k = true ∧ (s.W k).d = d ∧ (s.W k).a = a then (s.W k).x else s.lay P k d a
def RS.laid (s : RS) (P : Nat → Bool) : RS := { s with nw := 0, last := s.lay P s.nw }
section
variable {B : Nat} {w w' : World} {r m1 m2 : Nat} {v : Value} {s : RS} {k : Nat} {P : Nat → Bool}
end
end Go.Proofs.YtkbndlnmbbbohaaGreatDoor
namespace Go.Proofs.YtkbndlnmbbbohaaGreatDoor
set_option maxRecDepth 100000
open Go.RowKit
set_option linter.unusedVariables false
end Go.Proofs.YtkbndlnmbbbohaaGreatDoor
namespace Go.Proofs.YtkbndlnmbbbohaaGreatDoor
set_option maxRecDepth 100000
open Go.RowKit
set_option linter.unusedVariables false
def Ints (w : World) (A : Option Addr) (n : Nat) (p : Nat → Int) : Prop :=
 (∀ i, i < n → -9223372036854775808 ≤ p i ∧ p i ≤ 9223372036854775807) ∧ n ≤ maxLen ∧ (n = 0 ∨ ∃ g o t cs, A = some ⟨g, o, none⟩ ∧ Blk w g t cs ∧ (t == 68 || t == 124) = false ∧ ∀ i, i < n → cs[o + i]? = some (.int .i64 (p i)))
end Go.Proofs.YtkbndlnmbbbohaaGreatDoor
namespace Go.Proofs.YtkbndlnmbbbohaaGreatDoor
set_option maxRecDepth 100000
open Go.RowKit
set_option linter.unusedVariables false
end Go.Proofs.YtkbndlnmbbbohaaGreatDoor
namespace Go.Proofs.YtkbndlnmbbbohaaGreatDoor
set_option maxRecDepth 100000
open Go.RowKit
set_option linter.unusedVariables false
def keptL (W : Nat → Wt) (d : Nat) : Nat → List Wt
 | 0 => []
 | k + 1 => if (W k).d = d then keptL W d k else keptL W d k ++ [W k]
def flatL (l : List Wt) : List Value := l.flatMap fun v => (waitA v).toList
theorem flatL_snoc (l : List Wt) (v : Wt) : flatL (l ++ [v]) = flatL l ++ (waitA v).toList := by simp [flatL]
theorem flat_succ (W : Nat → Wt) (n : Nat) : flat W (n + 1) = flat W n ++ (waitA (W n)).toList := rfl
theorem flat_take (l : List Wt) (z : Wt) (k : Nat) (h : k ≤ l.length) : flat (fun i => l.getD i z) k = flatL (l.take k) := by
 induction k with
 | zero => rw [List.take_zero]; rfl
 | succ k ih =>
  have hk : k < l.length := by omega
  have e : l.getD k z = l[k] := by simp [List.getD_eq_getElem?_getD, hk]
  rw [flat_succ, ih (by omega), List.take_succ_eq_append_getElem hk, flatL_snoc, e]
def RS.wiped (s : RS) (d : Nat) : RS :=
 { s with nw := (keptL s.W d s.nw).length, W := fun i => (keptL s.W d s.nw).getD i ⟨0, 0, zeros⟩, last := fun d' a' => if d' = d then zeros else s.last d' a' }
def RS.cleared (s : RS) (d : Nat) : RS := { s with last := fun d' a' => if d' = d then zeros else s.last d' a' }
theorem own_new {w w' : World} {B n c : Nat} {v : Value} {xs : List Value} (h : w.ownsRow B 124 c v n xs) (hb : Below w.heap.size w w') : w'.ownsRow B 124 c v n xs := by
 refine ⟨h.1, ?_⟩
 rcases h.2 with e | ⟨g, cap, cur, e, k1, k2, k3⟩
 ·exact .inl e
 ·exact .inr ⟨g, cap, cur, e, k1, (hb.block g (Array.getElem?_eq_some_iff.1 k2).1).trans k2, k3⟩
def RS.setGone (s : RS) (d : Nat) (b : Bool) : RS := { s with gone := fun i => if i = d then b else s.gone i }
def RS.lost (s : RS) (d : Nat) : RS := (s.wiped d).setGone d true
def RS.anew (s : RS) (d : Nat) : RS := (s.wiped d).setGone d false
end Go.Proofs.YtkbndlnmbbbohaaGreatDoor
namespace Go.Proofs.YtkbndlnmbbbohaaGreatDoor
open Go Go.RowKit
set_option maxRecDepth 100000
set_option linter.unusedVariables false
def wantG (g : Option (Nat × Bool)) (y : Nat → Option Bool) : Bool :=
 match g with
 | none => true
 | some (j, want) => y j == some want
theorem isOpG_spec {ops : Array Oper} {i : Nat} {op : Op} {d : Option Tmp} {g : Option (Nat × Bool)} (h : isOp ops i = some (op, d, g)) : ∃ o, ops[i]? = some o ∧ o.op = op ∧ o.dst = d ∧ o.guard = g := by
 unfold isOp at h
 cases e : ops[i]? with
 | none => rw [e] at h; cases h
 | some o =>
  rw [e] at h
  injection h with h
  injection h with h1 h2
  injection h2 with h2 h3
  exact ⟨o, rfl, h1, h2, h3⟩
section
variable {P : Program} {md : Region.Mode} {ops : Array Oper} {Q : Exit → Act → World → Prop} {S : World → Prop} {z n : Nat} {listed : Array Bool} {a : Act} {w : World}
theorem want_of {o : Oper} {g : Option (Nat × Bool)} {y : Nat → Option Bool} (h : o.guard = g) (hw : wantG g y = true) : Region.wanted o y = true := by
 unfold Region.wanted
 rw [h]
 exact hw
theorem takeG (i : Nat) (op : Op) (d : Option Tmp) (g : Option (Nat × Bool)) (v : Value) (ho : isOp ops i = some (op, d, g)) (hw : wantG g (yielded ops a.tmps) = true) (hB : takeB md ops z listed i = true)
  (hQ : ∀ c a w, Q (.panic c) (a.put d v) w → Q (.panic c) a w) (hy : ∀ (o : Oper) w, o.op = op → S w → (execOp a.eval o).run P w = .ok (.value v) w) (hS : S w)
  (h : AnyZ P md ops Q S z n (listed.setIfInBounds i true) (a.put d v) w) : AnyZ P md ops Q S z (n + 1) listed a w := by
 obtain ⟨o, h1, h2, rfl, h4⟩ := isOpG_spec ho
 simp only [takeB, Bool.and_eq_true] at hB
 exact AnyZ.take h1 hB.1.1.1 hB.1.1.2 hB.1.2 hB.2 hQ (.inl ⟨want_of h4 hw, fun w hw => hy o w h2 hw⟩) hS h
theorem exec_move {o : Oper} {x : Operand} {v : Value} (w : World) (e : o.op = .move x) (hx : a.eval x = v) : (execOp a.eval o).run P w = .ok (.value v) w := by
 unfold execOp; simp only [e, hx, Sem.run_pure]
theorem exec_assign {o : Oper} {x : Operand} {v : Value} (w : World) (e : o.op = .assign x) (hx : a.eval x = v) : (execOp a.eval o).run P w = .ok (.value v) w := by
 unfold execOp; simp only [e, hx, Sem.run_pure]
theorem exec_bin {o : Oper} {op : BinOp} {t ty : TypeId} {x y : Operand} {u1 u2 v : Value} (w : World) (e : o.op = .binOp op t x y ty) (hx : a.eval x = u1) (hy : a.eval y = u2) (hg : (eqGuard op t x y u1 u2).run P w = .ok () w) (hf : (binOp op t u1 u2).run P w = .ok v w) :
  (execOp a.eval o).run P w = .ok (.value v) w := by
 unfold execOp; simp only [e, hx, hy, hg, hf, Sem.run_bind, Sem.run_pure, Result.andThen_ok]
theorem exec_nil {o : Oper} {x : Operand} {p : Addr} (w : World) (e : o.op = .nilCheck x) (hx : a.eval x = .pointer (some p)) : (execOp a.eval o).run P w = .ok (.value (.pointer (some p))) w := by
 unfold execOp; simp only [e, hx, Sem.run_pure]
theorem exec_field {o : Oper} {t : TypeId} {x : Operand} {f : Nat} {u v : Value} (w : World) (e : o.op = .fieldAddr t x f) (hx : a.eval x = u) (hf : (Instr.fieldAt t u f).run P w = .ok v w) : (execOp a.eval o).run P w = .ok (.value v) w := by
 unfold execOp; simp only [e, hx, hf, Sem.run_bind, Sem.run_pure, Result.andThen_ok]
theorem exec_index {o : Oper} {t : TypeId} {x y : Operand} {u1 u2 v : Value} (w : World) (e : o.op = .indexAddr t x y) (hx : a.eval x = u1) (hy : a.eval y = u2) (hf : (Instr.indexAt t u1 u2).run P w = .ok v w) : (execOp a.eval o).run P w = .ok (.value v) w := by
 unfold execOp; simp only [e, hx, hy, hf, Sem.run_bind, Sem.run_pure, Result.andThen_ok]
theorem loneG (i : Nat) (op : Op) (d : Option Tmp) (g : Option (Nat × Bool)) (ho : isOp ops i = some (op, d, g)) (hw : wantG g (yielded ops a.tmps) = true) (hr : Region.ready md ops listed = [i])
  (h : ∀ o : Oper, o.op = op → o.dst = d → o.wp P a w (fun a' w' => (i ≠ z → S w') ∧ AnyZ P md ops Q S z n (listed.setIfInBounds i true) a' w') Q) : AnyZ P md ops Q S z (n + 1) listed a w := by
 obtain ⟨o, h1, h2, h3, h4⟩ := isOpG_spec ho
 refine AnyZ.one hr ?_
 unfold wpOp
 simp only [h1, want_of h4 hw, if_true]
 exact .inl (h o h2 h3)
theorem wp_val {o : Oper} {K : Act → World → Prop} {w' : World} {v : Value} (hl : (execOp a.eval o).run P w = .ok (.value v) w') (h : K (a.put o.dst v) w') : o.wp P a w K Q := by
 unfold Oper.wp
 rw [hl]
 exact h
theorem wp_callC {o : Oper} {K : Act → World → Prop} {f : FuncId} {args : Array Value} {R : Ending → World → Prop} (hrun : (execOp a.eval o).run P w = .ok (.enter f args) w) (hc : Calls P f args w R)
  (hK : ∀ e w', R e w' → ∃ v, e = .returned v ∧ K (a.put o.dst v) w') : o.wp P a w K Q := by
 unfold Oper.wp
 rw [hrun]
 show Calls P f args w _
 refine hc.mono fun e w' h => ?_
 obtain ⟨v, rfl, h2⟩ := hK e w' h
 exact h2
theorem put_some (a : Act) (d : Tmp) (v : Value) : a.put (some d) v = { a with tmps := a.tmps.setIfInBounds d v } := rfl
theorem put_none (a : Act) (v : Value) : a.put none v = a := rfl
theorem lastS (i : Nat) (op : Op) (d : Option Tmp) (v : Value) (ho : isOp ops i = some (op, d, none)) (hr : Region.ready md ops listed = [i]) (hd : Region.ready md ops (listed.setIfInBounds i true) = []) (hS : S w)
  (hy : ∀ (o : Oper), o.op = op → (execOp a.eval o).run P w = .ok (.value v) w) (h : Q .normal (a.put d v) w) : AnyZ P md ops Q S z (n + 1) listed a w := by
 obtain ⟨o, h1, h2, h3, h4⟩ := isOp_spec ho
 refine AnyZ.one hr (wpOp_op h1 h4 (wp_val (hy o h2) ⟨fun _ => hS, AnyZ.done hd ?_⟩))
 rw [h3]
 exact h
theorem lastG (i : Nat) (op : Op) (d : Option Tmp) (v : Value) (ho : isOp ops i = some (op, d, none)) (hr : Region.ready md ops listed = [i]) (hd : Region.ready md ops (listed.setIfInBounds i true) = []) (hz : i = z)
  (hy : ∀ (o : Oper), o.op = op → (execOp a.eval o).run P w = .ok (.value v) w) (h : Q .normal (a.put d v) w) : AnyZ P md ops Q S z (n + 1) listed a w := by
 refine lastOp i op d ho hr hd hz fun o h2 h3 => wp_val (hy o h2) ?_
 rw [h3]
 exact h
end
theorem eqG_int (op : BinOp) (t : TypeId) (x y : Operand) (k k' : IntKind) (i j : Int) (P : Program) (w : World) : (eqGuard op t x y (.int k i) (.int k' j)).run P w = .ok () w := by
 unfold eqGuard
 cases op <;> rfl
theorem eqG_str (op : BinOp) (t : TypeId) (x y : Operand) (a b : ByteArray) (P : Program) (w : World) : (eqGuard op t x y (.string a) (.string b)).run P w = .ok () w := by
 unfold eqGuard
 cases op <;> rfl
theorem index_slice {P : Program} {t e : TypeId} (ht : P.underlying t = some (.slice e)) (hi : (P.info? e).map (·.size) = some 1) (b o n c i : Nat) (hlt : i < n) (w : World) :
  (Instr.indexAt t (.slice (some ⟨b, o, none⟩) n c) (.int .i64 (i : Int))).run P w = .ok (.pointer (some ⟨b, o + i, none⟩)) w := by
 cases hq : P.info? e with
 | none => simp [hq] at hi
 | some inf =>
  have hs : inf.size = 1 := by simpa [hq] using hi
  have h2 : (i : Int) < (n : Int) := by omega
  unfold Instr.indexAt asIntOf
  simp [run_underlying ht, Sem.run_bind, sizeOf, typeInfo, hq, hs, hlt, add_plain]
end Go.Proofs.YtkbndlnmbbbohaaGreatDoor
namespace Go.Proofs.YtkbndlnmbbbohaaGreatDoor
set_option maxRecDepth 100000
open Go Go.RowKit
section
variable {P : Program} {md : Region.Mode} {ops : Array Oper} {Q : Exit → Act → World → Prop} {S : World → Prop} {z : Nat}
inductive Deep (md : Region.Mode) (ops : Array Oper) : Nat → Nat → Prop
 | one {z i : Nat} : Region.waitsFor md ops z i = true → Deep md ops z i
 | step {z k i : Nat} : Region.waitsFor md ops z k = true → Deep md ops k i → Deep md ops z i
def deepB (md : Region.Mode) (ops : Array Oper) : Nat → Nat → Nat → Bool
 | 0, _, _ => false
 | f + 1, z, i => Region.waitsFor md ops z i || (List.range ops.size).any fun k => Region.waitsFor md ops z k && deepB md ops f k i
theorem deepB_spec : ∀ {f z i : Nat}, deepB md ops f z i = true → Deep md ops z i
 | 0, _, _, h => by cases h
 | f + 1, z, i, h => by
  unfold deepB at h
  rw [Bool.or_eq_true] at h
  rcases h with h | h
  ·exact .one h
  ·obtain ⟨k, _, hk⟩ := List.any_eq_true.1 h
   rw [Bool.and_eq_true] at hk
   exact .step hk.1 (deepB_spec hk.2)
def Closed (md : Region.Mode) (ops : Array Oper) (listed : Array Bool) : Prop :=
 ∀ j oj, ops[j]? = some oj → listed.getD j false = true → ∀ e ∈ oj.after, Region.binds md e = true → listed.getD e.on false = true
def closedB (md : Region.Mode) (ops : Array Oper) (listed : Array Bool) : Bool :=
 (List.range ops.size).all fun j => !listed.getD j false || match ops[j]? with
  | some oj => oj.after.all fun e => !Region.binds md e || listed.getD e.on false
  | none => true
theorem closedB_spec {listed : Array Bool} (h : closedB md ops listed = true) : Closed md ops listed := by
 intro j oj hj hl e he hb
 have h1 := List.all_eq_true.1 h j (List.mem_range.2 (Array.getElem?_eq_some_iff.1 hj).1)
 simp only [hl, hj, Bool.not_true, Bool.false_or] at h1
 have h2 := Array.all_eq_true_iff_forall_mem.1 h1 e he
 simpa [hb] using h2
theorem Closed.set {listed : Array Bool} {i : Nat} (h : Closed md ops listed) (hi : i ∈ Region.ready md ops listed) : Closed md ops (listed.setIfInBounds i true) := by
 obtain ⟨_, oi, hoi, hall⟩ := mem_ready.1 hi
 intro j oj hj hl e he hb
 by_cases hij : i = j
 ·subst hij
  have : oj = oi := Option.some.inj (hj.symm.trans hoi)
  subst this
  exact getD_set_true (hall e he hb)
 ·rw [getD_set_ne false hij] at hl
  exact getD_set_true (h j oj hj hl e he hb)
theorem Deep.unlisted {listed : Array Bool} (hc : Closed md ops listed) {z i : Nat} (h : Deep md ops z i) (hi : listed.getD i false = false) : listed.getD z false = false := by
 induction h with
 | one h =>
  obtain ⟨o, ho, e, he, hb, hon⟩ := Region.waitsFor_spec h
  cases hz : listed.getD _ false with
  | false => rfl
  | true =>
   have := hc _ o ho hz e he hb
   rw [hon, hi] at this
   cases this
 | step h _ ih =>
  obtain ⟨o, ho, e, he, hb, hon⟩ := Region.waitsFor_spec h
  have hk := ih hi
  cases hz : listed.getD _ false with
  | false => rfl
  | true =>
   have := hc _ o ho hz e he hb
   rw [hon, hk] at this
   cases this
theorem Deep.not_ready {listed : Array Bool} (hc : Closed md ops listed) {z i : Nat} (h : Deep md ops z i) (hi : listed.getD i false = false) : z ∉ Region.ready md ops listed := by
 intro hr
 obtain ⟨_, o, ho, hall⟩ := mem_ready.1 hr
 cases h with
 | one h =>
  obtain ⟨o', ho', e, he, hb, hon⟩ := Region.waitsFor_spec h
  rw [ho] at ho'
  injection ho' with ho'
  subst ho'
  have := hall e he hb
  rw [hon, hi] at this
  cases this
 | step h h2 =>
  obtain ⟨o', ho', e, he, hb, hon⟩ := Region.waitsFor_spec h
  rw [ho] at ho'
  injection ho' with ho'
  subst ho'
  have := hall e he hb
  rw [hon, h2.unlisted hc hi] at this
  cases this
theorem AnyZ.firstC {i : Nat} {oi : Oper} {v : Value} (hi : ops[i]? = some oi) (hsel : ∀ (j : Nat) (o : Oper) cs b, ops[j]? = some o → o.op ≠ .select cs b)
  (hQ : ∀ c a w, Q (.panic c) (a.put oi.dst v) w → Q (.panic c) a w) (hz : Deep md ops z i) :
  ∀ (n : Nat) (listed : Array Bool) (a : Act) (w : World), Closed md ops listed →
   (∀ j oj, ops[j]? = some oj → j ≠ i → listed.getD j true = false → (∀ e ∈ oj.after, Region.binds md e = true → e.on ≠ i) → oi.apart ops oj = true) →
   i ∈ Region.ready md ops listed → YieldsIf P ops S oi v a → S w →
   AnyZ P md ops Q S z n (listed.setIfInBounds i true) (a.put oi.dst v) w → AnyZ P md ops Q S z (n + 1) listed a w := by
 intro n
 induction n with
 | zero =>
  intro listed a w _ _ hr hy hS H
  refine ⟨fun h => (by rw [h] at hr; cases hr), fun j hj => ?_⟩
  by_cases hji : j = i
  ·subst hji
   exact hy.wpOp hi hS ⟨fun _ => hS, H⟩
  ·have h0 := ready_mono hj hji
   rw [H.1] at h0
   cases h0
 | succ n ih =>
  intro listed a w hcl hfree hr hy hS H
  refine ⟨fun h => (by rw [h] at hr; cases hr), fun j hj => ?_⟩
  by_cases hji : j = i
  ·subst hji
   exact hy.wpOp hi hS ⟨fun _ => hS, H⟩
  ·have h1 := H.2 j (ready_mono hj hji)
   have hun := (mem_ready.1 hr).1
   obtain ⟨hjun, oj, hoj, hall⟩ := mem_ready.1 hj
   have hnot : ∀ e ∈ oj.after, Region.binds md e = true → e.on ≠ i := fun e he hb heq => by
    have h4 := hall e he hb
    rw [heq, getD_both hun] at h4
    cases h4
   have hjz : j ≠ z := by
    rintro rfl
    exact hz.not_ready hcl (getD_both hun) hj
   have h2 := wpOp_putIf hoj (hfree j oj hoj hji hjun hnot) (fun cs b => hsel i oi cs b hi) (fun cs b => hsel j oj cs b hoj) hQ hy h1
   refine wpOp_mono (fun a' w' h3 => ⟨fun _ => h3.2.1 hjz, ih (listed.setIfInBounds j true) a' w' (hcl.set hj) (fun k ok hk hki hunk hno => ?_) (ready_mono hr (Ne.symm hji)) h3.1 (h3.2.1 hjz) ?_⟩) h2
   ·refine hfree k ok hk hki ?_ hno
    by_cases hjk : j = k
    ·subst hjk
     exact hjun
    ·rw [getD_set_ne true hjk] at hunk
     exact hunk
   ·rw [Array.setIfInBounds_comm _ _ hji]
    exact h3.2.2
def takeDB (md : Region.Mode) (ops : Array Oper) (z : Nat) (listed : Array Bool) (i : Nat) : Bool :=
 Region.noSelect ops && Region.free md ops listed i && (Region.ready md ops listed).contains i && closedB md ops listed && deepB md ops 3 z i
theorem takeD {n : Nat} {listed : Array Bool} {a : Act} {w : World} (i : Nat) (op : Op) (d : Option Tmp) (g : Option (Nat × Bool)) (v : Value) (ho : isOp ops i = some (op, d, g)) (hw : wantG g (yielded ops a.tmps) = true) (hB : takeDB md ops z listed i = true)
  (hQ : ∀ c a w, Q (.panic c) (a.put d v) w → Q (.panic c) a w) (hy : ∀ (o : Oper) w, o.op = op → S w → (execOp a.eval o).run P w = .ok (.value v) w) (hS : S w)
  (h : AnyZ P md ops Q S z n (listed.setIfInBounds i true) (a.put d v) w) : AnyZ P md ops Q S z (n + 1) listed a w := by
 obtain ⟨o, h1, h2, rfl, h4⟩ := isOpG_spec ho
 simp only [takeDB, Bool.and_eq_true] at hB
 exact AnyZ.firstC h1 (Region.noSelect_spec hB.1.1.1.1) hQ (deepB_spec hB.2) n listed a w (closedB_spec hB.1.2) (Region.free_spec h1 hB.1.1.1.2) (by simpa using hB.1.1.2) (.inl ⟨want_of h4 hw, fun w hw => hy o w h2 hw⟩) hS h
end
end Go.Proofs.YtkbndlnmbbbohaaGreatDoor
namespace Go.Proofs.YtkbndlnmbbbohaaGreatDoor
set_option maxRecDepth 100000
open Go.RowKit
set_option linter.unusedVariables false
def setAll (cs : Array Value) (o : Nat) : List Value → Array Value
 | [] => cs
 | v :: r => setAll (cs.setIfInBounds o v) (o + 1) r
theorem setAll_size : ∀ (vs : List Value) (cs : Array Value) (o : Nat), (setAll cs o vs).size = cs.size
 | [], _, _ => rfl
 | v :: r, cs, o => by
  unfold setAll
  rw [setAll_size r, Array.size_setIfInBounds]
theorem setAll_get : ∀ (vs : List Value) (cs : Array Value) (o p : Nat), p < cs.size → (setAll cs o vs)[p]? = if o ≤ p ∧ p < o + vs.length then vs[p - o]? else cs[p]?
 | [], cs, o, p, h => by
  rw [if_neg (fun x => by have h1 := x.1; have h2 : p < o + 0 := x.2; omega)]
  rfl
 | v :: r, cs, o, p, h => by
  unfold setAll
  rw [setAll_get r _ _ _ (by rw [Array.size_setIfInBounds]; exact h)]
  by_cases h1 : o + 1 ≤ p ∧ p < o + 1 + r.length
  ·rw [if_pos h1, if_pos (by simp; omega), show p - o = (p - (o + 1)) + 1 by omega, List.getElem?_cons_succ]
  ·rw [if_neg h1]
   by_cases h2 : p = o
   ·subst h2
    rw [if_pos ⟨Nat.le_refl _, by simp⟩, Nat.sub_self, Array.getElem?_setIfInBounds_self_of_lt h]
    rfl
   ·rw [if_neg (by simp; omega), Array.getElem?_setIfInBounds_ne (by omega)]
theorem grown_setCells (g : Nat) : ∀ (vs : List Value) (o : Nat) (w : World), w.grownBy (w.setCells g o vs) (some g)
 | [], _, w => World.grownBy.refl w _
 | v :: r, o, w => by
  have h1 := grown_set w g o v
  have h2 := grown_setCells g r (o + 1) (w.setCell ⟨g, o, none⟩ v)
  exact ⟨h2.os.trans h1.os, h2.tape.trans h1.tape, h2.output.trans h1.output, Nat.le_trans h1.size h2.size, fun i hi hne => (h2.block i (Nat.lt_of_lt_of_le hi h1.size) hne).trans (h1.block i hi hne)⟩
end Go.Proofs.YtkbndlnmbbbohaaGreatDoor
namespace Go.Proofs.YtkbndlnmbbbohaaGreatDoor
set_option maxRecDepth 100000
open Go.RowKit
set_option linter.unusedVariables false
section
variable {B : Nat} {w w' : World} {r m1 m2 : Nat} {v : Value} {s : RS}
end
end Go.Proofs.YtkbndlnmbbbohaaGreatDoor
namespace Go.Proofs.YtkbndlnmbbbohaaGreatDoor
set_option maxRecDepth 100000
open Go.RowKit
set_option linter.unusedVariables false
end Go.Proofs.YtkbndlnmbbbohaaGreatDoor
namespace Go.Proofs.YtkbndlnmbbbohaaGreatDoor
set_option maxRecDepth 100000
open Go Go.RowKit
set_option linter.unusedVariables false
def strB (n : Nat) (X : Nat → Nat) : ByteArray := strOfNums ((List.range n).map fun j => ((X j : Nat) : Int))
theorem strB_congr {n : Nat} {X Y : Nat → Nat} (h : ∀ j, j < n → X j = Y j) : strB n X = strB n Y := by
 unfold strB
 congr 1
 apply List.map_congr_left
 intro j hj
 rw [h j (by simpa using hj)]
theorem strB_list (n : Nat) (X : Nat → Nat) : (strB n X).toList = (List.range n).map fun j => UInt8.ofNat (X j) := by
 rw [ByteArray.toList_eq]
 show ((List.map (fun j => ((X j : Nat) : Int)) (List.range n)).map fun n => UInt8.ofNat n.toNat) = _
 rw [List.map_map]
 rfl
theorem conv_bytes {w : World} {g o n c : Nat} {X : Nat → Nat} {t : TypeId} {cs : Array Value} (h : Blk w g t cs) (hX : ∀ j, j < n → cs[o + j]? = some (.int .u8 ((X j : Nat) : Int))) :
  (convert 41 9 (.slice (some ⟨g, o, none⟩) n c)).run Tryz.prog w = .ok (.string (strB n X)) w :=
 run_convert_bytes_arg w 41 5 Tryz.underlying41 Tryz.underlying5 g o n c _ (by simp) (fun i hi => by
  rw [h.cell, hX i hi]
  simp [List.getD_eq_getElem?_getD, hi]) 9 Tryz.underlying9
end Go.Proofs.YtkbndlnmbbbohaaGreatDoor
namespace Go.Proofs.YtkbndlnmbbbohaaGreatDoor
set_option maxRecDepth 100000
open Go Go.RowKit
set_option linter.unusedVariables false
def Row8 (w : World) (v : Value) (n : Nat) (X : Nat → Nat) : Prop := ∃ g c cs, v = .slice (some ⟨g, 0, none⟩) n c ∧ Blk w g 5 cs ∧ ∀ j, j < n → cs[0 + j]? = some (.int .u8 ((X j : Nat) : Int))
theorem Row8.of_own {w : World} {B n : Nat} {v : Value} {X : Nat → Nat} (h : w.ownsRow B 5 1 v n (rowL n X)) (hn : 0 < n) : Row8 w v n X := by
 rcases h.2 with ⟨_, e⟩ | ⟨g, cap, cur, e, _, hb, _, _, hs, ht⟩
 ·omega
 ·refine ⟨g, cap, cur, e, hb, fun j hj => ?_⟩
  have h1 := rowL_get X hj
  rw [← ht, List.getElem?_take_of_lt (by omega), Array.getElem?_toList] at h1
  rw [Nat.zero_add]
  exact h1
theorem Row8.of_blk {w : World} {g n c : Nat} {X : Nat → Nat} (h : Blk w g 5 (rowArr n X)) : Row8 w (.slice (some ⟨g, 0, none⟩) n c) n X :=
 ⟨g, c, _, rfl, h, fun j hj => by rw [Nat.zero_add]; exact rowArr_get hj⟩
theorem Row8.conv {w : World} {v : Value} {n : Nat} {X : Nat → Nat} (h : Row8 w v n X) : (convert 41 9 v).run Tryz.prog w = .ok (.string (strB n X)) w := by
 obtain ⟨g, c, cs, rfl, hb, hx⟩ := h
 exact conv_bytes hb hx
end Go.Proofs.YtkbndlnmbbbohaaGreatDoor
