/-
 The steps of a region that draws its order, taken by hand: loads, stores, what comes up alone. No conditions beyond those that each theorem types.
-/
import Derived.Test.YtgbehfkimchglaaGreatDoorTakeTailM
import Derived.Test.YtgbehfkimchglaaGreatDoorRackMapM
namespace Go.Proofs.YtgbehfkimchglaaGreatDoor
open Go Go.RowKit
set_option maxRecDepth 100000
section
variable {P : Program} {md : Region.Mode} {ops : Array Oper} {Q : Exit → Act → World → Prop} {S : World → Prop} {z : Nat}
theorem load_one {w : World} {p : Addr} {v : Value} {t : TypeId} {d : TypeDesc} (hu : P.underlying t = some d) (hd : d.isRow = false) (hc : w.cell? p = some v) : (Instr.loadAt t (.pointer (some p))).run P w = .ok v w := by
 have hagg : (isAgg t).run P w = .ok false w := by
  unfold isAgg
  rw [Sem.run_bind, run_underlying hu w]
  cases d <;> simp_all
 simp [Instr.loadAt, Instr.sureAddr, loadVar, Sem.run_bind, hagg, hc]
theorem store_one {w : World} {p : Addr} {v : Value} {t : TypeId} (hi : (P.info? t).map (·.size) = some 1) (hv : v.cells = #[v]) (h1 : v.oneCell' = true) (hc : (w.cell? p).isSome = true) (hf : w.frozen? p = false) (ha : p.add 0 = p) : (Instr.storeAt t (.pointer (some p)) v).run P w = .ok () (w.setCell p v) := by
 cases hq : P.info? t with
 | none => simp [hq] at hi
 | some i =>
  have hs : i.size = 1 := by simpa [hq] using hi
  obtain ⟨x, hx⟩ := Option.isSome_iff_exists.1 hc
  simp [Instr.storeAt, Instr.sureAddr, storeVar, Sem.run_bind, sizeOf, typeInfo, hq, hs, hv, storeCells, run_store P w p v .plain h1, hx, hf, ha]
theorem exec_load {w : World} {o : Oper} {a : Act} {ty : TypeId} {x : Operand} {p v : Value} (ho : o.op = .load ty x) (hx : a.eval x = p) (hl : (Instr.loadAt ty p).run P w = .ok v w) : (execOp a.eval o).run P w = .ok (.value v) w := by
 unfold execOp
 simp only [ho, hx, hl, Sem.run_bind, Sem.run_pure, Result.andThen_ok]
theorem exec_store {w w' : World} {o : Oper} {a : Act} {ty : TypeId} {x y : Operand} {p v : Value} (ho : o.op = .store ty x y) (hx : a.eval x = p) (hy : a.eval y = v) (hl : (Instr.storeAt ty p v).run P w = .ok () w') : (execOp a.eval o).run P w = .ok .skip w' := by
 unfold execOp
 simp only [ho, hx, hy, hl, Sem.run_bind, Sem.run_pure, Result.andThen_ok]
theorem exec_buildSlice1 {w w' : World} {o : Oper} {a : Act} {ty : TypeId} {n i : Nat} {x : Operand} {u v : Value} (ho : o.op = .buildSlice ty n #[(i, x)]) (hx : a.eval x = u) (hl : (Instr.buildSlice ty n #[(i, u)]).run P w = .ok v w') : (execOp a.eval o).run P w = .ok (.value v) w' := by
 unfold execOp
 simp only [ho, List.map_toArray, List.map_cons, List.map_nil, hx, hl, Sem.run_bind, Sem.run_pure, Result.andThen_ok]
theorem AnyZ.last_ {i n : Nat} {listed : Array Bool} {a : Act} {w : World} (hr : Region.ready md ops listed = [i]) (hd : Region.ready md ops (listed.setIfInBounds i true) = [])
  (hz : i = z) (h : wpOp P ops Q i (fun a' w' => Q .normal a' w') a w) : AnyZ P md ops Q S z (n + 1) listed a w :=
 AnyZ.one hr (wpOp_mono (fun _ _ h' => ⟨fun hne => absurd hz hne, AnyZ.done hd h'⟩) h)
end
end Go.Proofs.YtgbehfkimchglaaGreatDoor
namespace Go.Proofs.YtgbehfkimchglaaGreatDoor
open Go Go.RowKit
set_option maxRecDepth 100000
def takeB (md : Region.Mode) (ops : Array Oper) (z : Nat) (listed : Array Bool) (i : Nat) : Bool :=
 Region.noSelect ops && Region.free md ops listed i && (Region.ready md ops listed).contains i && (Region.waitsFor md ops z i || decide (ops.size ≤ z))
def isOp (ops : Array Oper) (i : Nat) : Option (Op × Option Tmp × Option (Nat × Bool)) := (ops[i]?).map fun o => (o.op, o.dst, o.guard)
theorem isOp_spec {ops : Array Oper} {i : Nat} {op : Op} {d : Option Tmp} (h : isOp ops i = some (op, d, none)) : ∃ o, ops[i]? = some o ∧ o.op = op ∧ o.dst = d ∧ o.guard = none := by
 unfold isOp at h
 cases e : ops[i]? with
 | none => rw [e] at h; cases h
 | some o =>
  rw [e] at h
  injection h with h
  injection h with h1 h2
  injection h2 with h2 h3
  exact ⟨o, rfl, h1, h2, h3⟩
section
variable {P : Program} {md : Region.Mode} {ops : Array Oper} {Q : Exit → Act → World → Prop} {S : World → Prop} {z n : Nat} {listed : Array Bool} {a : Act} {w : World}
theorem lastOp (i : Nat) (op : Op) (d : Option Tmp) (ho : isOp ops i = some (op, d, none)) (hr : Region.ready md ops listed = [i]) (hd : Region.ready md ops (listed.setIfInBounds i true) = []) (hz : i = z)
  (h : ∀ o : Oper, o.op = op → o.dst = d → o.wp P a w (fun a' w' => Q .normal a' w') Q) : AnyZ P md ops Q S z (n + 1) listed a w := by
 obtain ⟨o, h1, h2, h3, h4⟩ := isOp_spec ho
 exact AnyZ.last_ hr hd hz (wpOp_op h1 h4 (h o h2 h3))
theorem lastStore (i : Nat) (t : TypeId) (x y : Operand) (p v : Value) (w' : World) (ho : isOp ops i = some (.store t x y, none, none)) (hr : Region.ready md ops listed = [i]) (hd : Region.ready md ops (listed.setIfInBounds i true) = []) (hz : i = z)
  (hx : a.eval x = p) (hy : a.eval y = v) (hl : (Instr.storeAt t p v).run P w = .ok () w') (h : Q .normal a w') : AnyZ P md ops Q S z (n + 1) listed a w := by
 obtain ⟨o, h1, h2, h3, h4⟩ := isOp_spec ho
 refine AnyZ.last_ hr hd hz (wpOp_skip h1 h4 (exec_store h2 hx hy hl) ?_)
 rw [h3]
 exact h
end
end Go.Proofs.YtgbehfkimchglaaGreatDoor
namespace Go.Proofs.YtgbehfkimchglaaGreatDoor
open Go Go.RowKit
set_option maxRecDepth 100000
set_option linter.unusedVariables false
def wantG (g : Option (Nat × Bool)) (y : Nat → Option Bool) : Bool :=
 match g with
 | none => true
 | some (j, want) => y j == some want
theorem isOpG_spec {ops : Array Oper} {i : Nat} {op : Op} {d : Option Tmp} {g : Option (Nat × Bool)} (h : isOp ops i = some (op, d, g)) : ∃ o, ops[i]? = some o ∧ o.op = op ∧ o.dst = d ∧ o.guard = g := by
 unfold isOp at h
 cases e : ops[i]? with
 | none => rw [e] at h; cases h
 | some o =>
  rw [e] at h
  injection h with h
  injection h with h1 h2
  injection h2 with h2 h3
  exact ⟨o, rfl, h1, h2, h3⟩
section
variable {P : Program} {md : Region.Mode} {ops : Array Oper} {Q : Exit → Act → World → Prop} {S : World → Prop} {z n : Nat} {listed : Array Bool} {a : Act} {w : World}
theorem want_of {o : Oper} {g : Option (Nat × Bool)} {y : Nat → Option Bool} (h : o.guard = g) (hw : wantG g y = true) : Region.wanted o y = true := by
 unfold Region.wanted
 rw [h]
 exact hw
theorem takeG (i : Nat) (op : Op) (d : Option Tmp) (g : Option (Nat × Bool)) (v : Value) (ho : isOp ops i = some (op, d, g)) (hw : wantG g (yielded ops a.tmps) = true) (hB : takeB md ops z listed i = true)
  (hQ : ∀ c a w, Q (.panic c) (a.put d v) w → Q (.panic c) a w) (hy : ∀ (o : Oper) w, o.op = op → S w → (execOp a.eval o).run P w = .ok (.value v) w) (hS : S w)
  (h : AnyZ P md ops Q S z n (listed.setIfInBounds i true) (a.put d v) w) : AnyZ P md ops Q S z (n + 1) listed a w := by
 obtain ⟨o, h1, h2, rfl, h4⟩ := isOpG_spec ho
 simp only [takeB, Bool.and_eq_true] at hB
 exact AnyZ.take h1 hB.1.1.1 hB.1.1.2 hB.1.2 hB.2 hQ (.inl ⟨want_of h4 hw, fun w hw => hy o w h2 hw⟩) hS h
theorem exec_move {o : Oper} {x : Operand} {v : Value} (w : World) (e : o.op = .move x) (hx : a.eval x = v) : (execOp a.eval o).run P w = .ok (.value v) w := by
 unfold execOp; simp only [e, hx, Sem.run_pure]
theorem exec_assign {o : Oper} {x : Operand} {v : Value} (w : World) (e : o.op = .assign x) (hx : a.eval x = v) : (execOp a.eval o).run P w = .ok (.value v) w := by
 unfold execOp; simp only [e, hx, Sem.run_pure]
theorem exec_bin {o : Oper} {op : BinOp} {t ty : TypeId} {x y : Operand} {u1 u2 v : Value} (w : World) (e : o.op = .binOp op t x y ty) (hx : a.eval x = u1) (hy : a.eval y = u2) (hg : (eqGuard op t x y u1 u2).run P w = .ok () w) (hf : (binOp op t u1 u2).run P w = .ok v w) :
  (execOp a.eval o).run P w = .ok (.value v) w := by
 unfold execOp; simp only [e, hx, hy, hg, hf, Sem.run_bind, Sem.run_pure, Result.andThen_ok]
theorem exec_nil {o : Oper} {x : Operand} {p : Addr} (w : World) (e : o.op = .nilCheck x) (hx : a.eval x = .pointer (some p)) : (execOp a.eval o).run P w = .ok (.value (.pointer (some p))) w := by
 unfold execOp; simp only [e, hx, Sem.run_pure]
theorem exec_field {o : Oper} {t : TypeId} {x : Operand} {f : Nat} {u v : Value} (w : World) (e : o.op = .fieldAddr t x f) (hx : a.eval x = u) (hf : (Instr.fieldAt t u f).run P w = .ok v w) : (execOp a.eval o).run P w = .ok (.value v) w := by
 unfold execOp; simp only [e, hx, hf, Sem.run_bind, Sem.run_pure, Result.andThen_ok]
theorem exec_index {o : Oper} {t : TypeId} {x y : Operand} {u1 u2 v : Value} (w : World) (e : o.op = .indexAddr t x y) (hx : a.eval x = u1) (hy : a.eval y = u2) (hf : (Instr.indexAt t u1 u2).run P w = .ok v w) : (execOp a.eval o).run P w = .ok (.value v) w := by
 unfold execOp; simp only [e, hx, hy, hf, Sem.run_bind, Sem.run_pure, Result.andThen_ok]
theorem loneG (i : Nat) (op : Op) (d : Option Tmp) (g : Option (Nat × Bool)) (ho : isOp ops i = some (op, d, g)) (hw : wantG g (yielded ops a.tmps) = true) (hr : Region.ready md ops listed = [i])
  (h : ∀ o : Oper, o.op = op → o.dst = d → o.wp P a w (fun a' w' => (i ≠ z → S w') ∧ AnyZ P md ops Q S z n (listed.setIfInBounds i true) a' w') Q) : AnyZ P md ops Q S z (n + 1) listed a w := by
 obtain ⟨o, h1, h2, h3, h4⟩ := isOpG_spec ho
 refine AnyZ.one hr ?_
 unfold wpOp
 simp only [h1, want_of h4 hw, if_true]
 exact .inl (h o h2 h3)
theorem wp_val {o : Oper} {K : Act → World → Prop} {w' : World} {v : Value} (hl : (execOp a.eval o).run P w = .ok (.value v) w') (h : K (a.put o.dst v) w') : o.wp P a w K Q := by
 unfold Oper.wp
 rw [hl]
 exact h
theorem wp_callC {o : Oper} {K : Act → World → Prop} {f : FuncId} {args : Array Value} {R : Ending → World → Prop} (hrun : (execOp a.eval o).run P w = .ok (.enter f args) w) (hc : Calls P f args w R)
  (hK : ∀ e w', R e w' → ∃ v, e = .returned v ∧ K (a.put o.dst v) w') : o.wp P a w K Q := by
 unfold Oper.wp
 rw [hrun]
 show Calls P f args w _
 refine hc.mono fun e w' h => ?_
 obtain ⟨v, rfl, h2⟩ := hK e w' h
 exact h2
theorem put_some (a : Act) (d : Tmp) (v : Value) : a.put (some d) v = { a with tmps := a.tmps.setIfInBounds d v } := rfl
theorem put_none (a : Act) (v : Value) : a.put none v = a := rfl
theorem lastS (i : Nat) (op : Op) (d : Option Tmp) (v : Value) (ho : isOp ops i = some (op, d, none)) (hr : Region.ready md ops listed = [i]) (hd : Region.ready md ops (listed.setIfInBounds i true) = []) (hS : S w)
  (hy : ∀ (o : Oper), o.op = op → (execOp a.eval o).run P w = .ok (.value v) w) (h : Q .normal (a.put d v) w) : AnyZ P md ops Q S z (n + 1) listed a w := by
 obtain ⟨o, h1, h2, h3, h4⟩ := isOp_spec ho
 refine AnyZ.one hr (wpOp_op h1 h4 (wp_val (hy o h2) ⟨fun _ => hS, AnyZ.done hd ?_⟩))
 rw [h3]
 exact h
theorem lastG (i : Nat) (op : Op) (d : Option Tmp) (v : Value) (ho : isOp ops i = some (op, d, none)) (hr : Region.ready md ops listed = [i]) (hd : Region.ready md ops (listed.setIfInBounds i true) = []) (hz : i = z)
  (hy : ∀ (o : Oper), o.op = op → (execOp a.eval o).run P w = .ok (.value v) w) (h : Q .normal (a.put d v) w) : AnyZ P md ops Q S z (n + 1) listed a w := by
 refine lastOp i op d ho hr hd hz fun o h2 h3 => wp_val (hy o h2) ?_
 rw [h3]
 exact h
end
theorem eqG_int (op : BinOp) (t : TypeId) (x y : Operand) (k k' : IntKind) (i j : Int) (P : Program) (w : World) : (eqGuard op t x y (.int k i) (.int k' j)).run P w = .ok () w := by
 unfold eqGuard
 cases op <;> rfl
theorem index_slice {P : Program} {t e : TypeId} (ht : P.underlying t = some (.slice e)) (hi : (P.info? e).map (·.size) = some 1) (b o n c i : Nat) (hlt : i < n) (w : World) :
  (Instr.indexAt t (.slice (some ⟨b, o, none⟩) n c) (.int .i64 (i : Int))).run P w = .ok (.pointer (some ⟨b, o + i, none⟩)) w := by
 cases hq : P.info? e with
 | none => simp [hq] at hi
 | some inf =>
  have hs : inf.size = 1 := by simpa [hq] using hi
  have h2 : (i : Int) < (n : Int) := by omega
  unfold Instr.indexAt asIntOf
  simp [run_underlying ht, Sem.run_bind, sizeOf, typeInfo, hq, hs, hlt, add_plain]
end Go.Proofs.YtgbehfkimchglaaGreatDoor
namespace Go.Proofs.YtgbehfkimchglaaGreatDoor
open Go Go.RowKit
set_option maxRecDepth 100000
set_option linter.unusedVariables false
section
variable {P : Program} {a : Act}
theorem exec_slice {o : Oper} {t : TypeId} {x : Operand} {lo hi mx : Option Operand} {lo' hi' mx' : Option Value} {u v : Value} (w : World) (e : o.op = .slice t x lo hi mx) (hx : a.eval x = u) (hlo : lo.map a.eval = lo') (hhi : hi.map a.eval = hi') (hmx : mx.map a.eval = mx') (hf : (Instr.sliceAt t u lo' hi' mx').run P w = .ok v w) : (execOp a.eval o).run P w = .ok (.value v) w := by
 subst hlo hhi hmx
 unfold execOp; simp only [e, hx, hf, Sem.run_bind, Sem.run_pure, Result.andThen_ok]
theorem exec_len {o : Oper} {x : Operand} {t : TypeId} {u v : Value} (w : World) (e : o.op = .call { callee := .builtin .len, args := #[x], argTypes := #[t] }) (hx : a.eval x = u) (hf : (Builtin.len_ #[t] o.type #[u]).run P w = .ok v w) : (execOp a.eval o).run P w = .ok (.value v) w := by
 unfold execOp; simp [e, hx, hf, resolve, invoke, builtin, Sem.run_bind, Sem.run_pure, Result.andThen_ok]
theorem exec_un {o : Oper} {op : UnOp} {t : TypeId} {x : Operand} {u v : Value} (w : World) (e : o.op = .unOp op t x) (hx : a.eval x = u) (hf : (Op.unary op u).run P w = .ok v w) : (execOp a.eval o).run P w = .ok (.value v) w := by
 unfold execOp; simp only [e, hx, hf, Sem.run_bind, Sem.run_pure, Result.andThen_ok]
end
end Go.Proofs.YtgbehfkimchglaaGreatDoor
namespace Go.Proofs.YtgbehfkimchglaaGreatDoor
open Go Go.RowKit
set_option maxRecDepth 100000
set_option linter.unusedVariables false
namespace Sp
theorem Rd.below {w w' : World} {A : Option Addr} {l : List Rg} (h : Rd w A l) (hb : Below w.heap.size w w') : Rd w' A l := by
 rcases h with e | ⟨b, o, e, h1, h2⟩
 ·exact .inl e
 ·exact .inr ⟨b, o, e, Nat.lt_of_lt_of_le h1 hb.size, fun j v hj => (hb.cell (p := ⟨b, o + j, none⟩) h1).trans (h2 j v hj)⟩
theorem size_rg (w : World) (a b : Nat) (ha : a ≤ 1000000) (hb : b ≤ 1000000) :
  Calls Tryz.prog 164 #[.agg #[.int .i64 (a : Int), .int .i64 (b : Int)]] w fun e w' => e = .returned (.int .i64 ((b : Int) - (a : Int))) ∧ Below w.heap.size w w' := by
 have L1 : Hid (Below w.heap.size w (w.alloc (.cells #[.int .i64 (a : Int), .int .i64 (b : Int)] 61))) := Lib.hid ((Below.refl _ _).alloc (Nat.le_refl _) _)
 go_enter Tryz.func164, Tryz.ntmps164
 go_wp2_with fail
 go_ret
 exact ⟨rfl, L1.out⟩
set_option maxHeartbeats 800000 in
theorem ending_rg (w : World) (A : Option Addr) (l : List Rg) (c x : Nat) (cnt : Int) (h : Rd w A l) (hn : l.length ≤ 100000) {lo0 : Nat} (hr : Ris lo0 l) :
  Calls Tryz.prog 176 #[.agg #[.slice A l.length c, .int .i64 cnt], .int .i64 (x : Int)] w fun e w' => e = .returned (.int .i64 (pos x l : Int)) ∧ Below w.heap.size w w' := by
 obtain ⟨W, hW⟩ : ∃ W, W = (w.alloc (.cells #[.slice A l.length c, .int .i64 cnt] 147)).alloc (.cells #[.int .i64 (x : Int)] 3) := ⟨_, rfl⟩
 have hs1 : (w.alloc (.cells #[.slice A l.length c, .int .i64 cnt] 147)).heap.size = w.heap.size + 1 := by simp
 have hb : Below w.heap.size w W := by rw [hW]; exact ((Below.refl _ _).alloc (Nat.le_refl _) _).alloc (by simp) _
 have X2 : Blk W w.heap.size 147 #[.slice A l.length c, .int .i64 cnt] := by rw [hW]; exact (Blk.new _ _ _).alloc _
 have X3 : Blk W (w.heap.size + 1) 3 #[.int .i64 (x : Int)] := by
  have h := Blk.new (w.alloc (.cells #[.slice A l.length c, .int .i64 cnt] 147)) 3 #[.int .i64 (x : Int)]
  rw [hs1, ← hW] at h
  exact h
 have HS := Lib.hid (search W w.heap.size (w.heap.size + 1) c x A l (X2.cell 0) (X3.cell 0) hn (h.below hb) hr)
 have L1 := Lib.hid hb
 have d0 : W.cell? ⟨w.heap.size, 0, none⟩ = some (.slice A l.length c) := X2.cell 0
 clear hb X2 X3 h hr
 obtain ⟨n, hnn⟩ : ∃ n, n = l.length := ⟨_, rfl⟩
 rw [← hnn] at HS d0 hW ⊢
 clear hnn hn hs1
 go_enter Tryz.func176, Tryz.ntmps176
 go_upto_region 1 with (fail)
 rw [← hW]
 clear hW
 go_wp2_with fail
 refine HS.out.mono ?_
 rintro e w' ⟨rfl, q, rfl⟩
 go_wp2_with fail
 go_ret
 exact ⟨rfl, below_drewN L1.out q⟩
set_option maxHeartbeats 1600000 in
theorem has_rg (w : World) (A : Option Addr) (l : List Rg) (c a b : Nat) (cnt : Int) (h : Rd w A l) (hn : l.length ≤ 100000) {lo0 : Nat} (hr : Ris lo0 l) :
  Calls Tryz.prog 162 #[.agg #[.slice A l.length c, .int .i64 cnt], .agg #[.int .i64 (a : Int), .int .i64 (b : Int)]] w fun e w' => e = .returned (.bool (hasL a b l)) ∧ Below w.heap.size w w' := by
 obtain ⟨W, hW⟩ : ∃ W, W = (w.alloc (.cells #[.slice A l.length c, .int .i64 cnt] 147)).alloc (.cells #[.int .i64 (a : Int), .int .i64 (b : Int)] 61) := ⟨_, rfl⟩
 have hs1 : (w.alloc (.cells #[.slice A l.length c, .int .i64 cnt] 147)).heap.size = w.heap.size + 1 := by simp
 have hb : Below w.heap.size w W := by rw [hW]; exact ((Below.refl _ _).alloc (Nat.le_refl _) _).alloc (by simp) _
 have X2 : Blk W w.heap.size 147 #[.slice A l.length c, .int .i64 cnt] := by rw [hW]; exact (Blk.new _ _ _).alloc _
 have X3 : Blk W (w.heap.size + 1) 61 #[.int .i64 (a : Int), .int .i64 (b : Int)] := by
  have h := Blk.new (w.alloc (.cells #[.slice A l.length c, .int .i64 cnt] 147)) 61 #[.int .i64 (a : Int), .int .i64 (b : Int)]
  rw [hs1, ← hW] at h
  exact h
 have HE := Lib.hid (ending_rg W A l c b cnt (h.below hb) hn hr)
 have HR := Lib.hid (h.below hb)
 have L1 := Lib.hid hb
 have B2 := Lib.hid X2
 have B3 := Lib.hid X3
 have d0 : W.cell? ⟨w.heap.size, 0, none⟩ = some (.slice A l.length c) := X2.cell 0
 have d1 : W.cell? ⟨w.heap.size, 1, none⟩ = some (.int .i64 cnt) := X2.cell 1
 have f1 : W.cell? ⟨w.heap.size + 1, 1, none⟩ = some (.int .i64 (b : Int)) := X3.cell 1
 have hpn := pos_le b l
 have HL : Hid (hasL a b l = match l[pos b l]? with | some r => decide (r.1 ≤ a) | none => false) := Lib.hid rfl
 obtain ⟨P, hP⟩ : ∃ P, P = pos b l := ⟨_, rfl⟩
 obtain ⟨ans, hans⟩ : ∃ ans, ans = hasL a b l := ⟨_, rfl⟩
 rw [← hP] at HE HL hpn
 rw [← hans] at HL ⊢
 obtain ⟨n, hnn⟩ : ∃ n, n = l.length := ⟨_, rfl⟩
 rw [← hnn] at HE B2 d0 hW hpn hn ⊢
 have HN := Lib.hid hnn
 clear hb X2 X3 h hr hnn hs1 hP hans
 go_enter Tryz.func162, Tryz.ntmps162
 go_upto_region 1 with (fail)
 rw [← hW]
 clear hW
 go_wp2_with fail
 refine HE.out.mono ?_
 rintro e w' ⟨rfl, b1⟩
 have L2 := Lib.hid (L1.out.trans (b1.mono L1.out.size))
 have R2 := Lib.hid (HR.out.below b1)
 have g0 : w'.cell? ⟨w.heap.size, 0, none⟩ = some (.slice A n c) := (B2.out.below b1 B2.out.lt).cell 0
 have g1 : w'.cell? ⟨w.heap.size + 1, 0, none⟩ = some (.int .i64 (a : Int)) := (B3.out.below b1 B3.out.lt).cell 0
 clear b1 d0 d1 f1 L1 HR B2 B3 HE
 by_cases hlt : P < n
 ·have hlt' : P < l.length := by have := HN.out; omega
  have hg := List.getElem?_eq_getElem hlt'
  obtain ⟨r, hrr⟩ : ∃ r, r = l[P] := ⟨_, rfl⟩
  rw [← hrr] at hg
  obtain ⟨g, o, hA, hc⟩ : ∃ g o, A = some ⟨g, o, none⟩ ∧ w'.cell? ⟨g, o + P * 2, none⟩ = some (.int .i64 (r.1 : Int)) := by
   rcases R2.out with e | ⟨g, o, e, _, hc⟩
   ·rw [e] at hlt'; simp at hlt'
   ·exact ⟨g, o, e, hc _ _ (rcells_get hg).1⟩
  subst hA
  have ha : ans = decide (r.1 ≤ a) := by rw [HL.out, hg]
  obtain ⟨y, hy⟩ : ∃ y, y = r.1 := ⟨_, rfl⟩
  rw [← hy] at hc ha
  have t1 : (P : Int) < (n : Int) := by omega
  have i1 : (0 : Int) ≤ (P : Int) := by omega
  have HA := Lib.hid ha
  clear ha hg hrr hy hlt' HL R2
  go_wp2_with fail
  go_region
  go_wp2_with fail
  go_ret
  exact ⟨by rw [HA.out]; rfl, L2.out.drew⟩
 ·have t1 : ¬ ((P : Int) < (n : Int)) := by omega
  have ha : ans = false := by rw [HL.out, List.getElem?_eq_none (by have := HN.out; omega)]
  have HA := Lib.hid ha
  clear ha HL R2
  go_wp2_with fail
  go_region
  go_wp2_with fail
  go_ret
  exact ⟨by rw [HA.out]; rfl, L2.out.drew⟩
end Sp
end Go.Proofs.YtgbehfkimchglaaGreatDoor
