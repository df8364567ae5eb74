/-
  Bytes as numbers: their bounds and their sums. No conditions beyond those that each theorem types.
-/
import Derived.Test.YtoabhbmhjelplaaFieldSumsM
import Derived.WalkKit
import Derived.Laws.BitsLemmas
import Derived.OpenShut
import Derived.Test.YtoabhbmhjelplaaRackMemM
import Derived.Lib.Hide
import Derived.Laws.BytesArg
import Derived.Laws.StructEq
namespace Go.Proofs.Ytoabhbmhjelplaa
open Go.RowKit

theorem u8_of_wf {a : Int} (h : (Lit.int .u8 a).wf = true) : ∃ n : Nat, a = n ∧ n < 256 := by
  have hb := bounds_u8 h
  exact ⟨a.toNat, by omega, by omega⟩
theorem ofInt_i8 (a : Nat) (ha : a < 256) : (BitVec.ofInt 8 (a : Int)).toNat = a := by
  rw [BitVec.ofInt_natCast, BitVec.toNat_ofNat]; exact Nat.mod_eq_of_lt (by omega)
theorem u8_xor_nat (a b : Nat) (ha : a < 256) (hb : b < 256) : bits .xor .u8 (a : Int) (b : Int) = ((a ^^^ b : Nat) : Int) := by
  have hx := M.xor_lt ha hb
  show IntKind.u8.wrap ((BitVec.ofInt 8 (a : Int) ^^^ BitVec.ofInt 8 (b : Int)).toNat : Int) = _
  rw [BitVec.toNat_xor, ofInt_i8 a ha, ofInt_i8 b hb, IntKind.wrap_u8]
  omega

end Go.Proofs.Ytoabhbmhjelplaa
namespace Go.Proofs.Ytoabhbmhjelplaa
open Go.RowKit
set_option linter.unusedVariables false

theorem extract_nil {α : Type} (b : Array α) : b.extract 0 b.size = b := by simp
/-- a block read whole -/
theorem load_blk {w : World} {g : Nat} {t : TypeId} {cs : Array Value} (h : Blk w g t cs) {d : TypeDesc} (hu : Try.prog.underlying t = some d) (hd : d.isRow = true) (hi : (Try.prog.info? t).map (·.size) = some cs.size) :
    (Instr.loadAt t (.pointer (some ⟨g, 0, none⟩))).run Try.prog w = .ok (.agg cs) w := by
  have := run_loadAt_mid (P := Try.prog) w g 0 t cs.toList d (fun j v hj => by rw [Nat.zero_add, h.cell, ← Array.getElem?_toList]; exact hj) hu hd (by rw [Array.length_toList]; exact hi)
  rw [Array.toArray_toList] at this
  exact this
/-- a part of a block -/
theorem load_part {w : World} {g o : Nat} {t t' : TypeId} {cs cs' : Array Value} (h : Blk w g t' cs) {d : TypeDesc} (hu : Try.prog.underlying t = some d) (hd : d.isRow = true) (hi : (Try.prog.info? t).map (·.size) = some cs'.size) (hp : ∀ j, j < cs'.size → cs[o + j]? = cs'[j]?) :
    (Instr.loadAt t (.pointer (some ⟨g, o, none⟩))).run Try.prog w = .ok (.agg cs') w := by
  have := run_loadAt_mid (P := Try.prog) w g o t cs'.toList d (fun j v hj => by
    rw [h.cell, hp j (by have := (List.getElem?_eq_some_iff.1 hj).1; simpa using this), ← Array.getElem?_toList]; exact hj) hu hd (by rw [Array.length_toList]; exact hi)
  rw [Array.toArray_toList] at this
  exact this
theorem loadVar_blk {w : World} {g : Nat} {t : TypeId} {cs : Array Value} (h : Blk w g t cs) {d : TypeDesc} (hu : Try.prog.underlying t = some d) (hd : d.isRow = true) (hi : (Try.prog.info? t).map (·.size) = some cs.size) :
    (loadVar t ⟨g, 0, none⟩).run Try.prog w = .ok (.agg cs) w := by
  have := run_loadVar_mid (P := Try.prog) w g 0 t cs.toList d (fun j v hj => by rw [Nat.zero_add, h.cell, ← Array.getElem?_toList]; exact hj) hu hd (by rw [Array.length_toList]; exact hi)
  rw [Array.toArray_toList] at this
  exact this
/-- a block stored whole -/
theorem store_blk {w : World} {g : Nat} {t : TypeId} {cs cs' : Array Value} (h : Blk w g t cs) (hi : (Try.prog.info? t).map (·.size) = some cs'.size) (hs : cs.size = cs'.size) (h1 : cs'.all (·.oneCell') = true) :
    ∃ w', (Instr.storeAt t (.pointer (some ⟨g, 0, none⟩)) (.agg cs')).run Try.prog w = .ok () w' ∧ Blk w' g t cs' ∧ w.grownBy w' (some g) ∧ w'.heap.size = w.heap.size := by
  refine ⟨w.setRow g cs', ?_, ?_, ⟨rfl, rfl, rfl, by simp [World.setRow], fun k hk hne => ?_⟩, by simp [World.setRow]⟩
  · simp only [Instr.storeAt, Instr.sureAddr, Sem.run_bind, Sem.run_pure, Result.andThen_ok]
    rw [run_storeVar_row _ _ t t cs cs' h hi hs h1]
  · unfold Blk at h ⊢
    simp [World.setRow, Array.getElem?_modify, h]
  · simp only [World.setRow, Array.getElem?_modify]
    rw [if_neg (fun e => hne (by rw [e]))]
theorem wpList_loadX {w : World} {ops : Array Oper} {rest : List Oper} {op : Oper} {a : Act} {Q : Exit → Act → World → Prop} (hgd : op.guard = none) (ty : TypeId) (x : Operand) (ho : op.op = .load ty x) (p v : Value) (hx : a.eval x = p)
    (hl : (Instr.loadAt ty p).run Try.prog w = .ok v w) (h : wpList Try.prog ops Q rest (a.put op.dst v) w) : wpList Try.prog ops Q (op :: rest) a w := by
  refine wpList_plain hgd fun K hK => ?_
  unfold Oper.wp execOp
  simp only [ho, hx, hl, Sem.run_bind, Sem.run_pure, Result.andThen_ok]
  exact hK _ _ h
theorem wpList_storeX {w w' : World} {ops : Array Oper} {rest : List Oper} {op : Oper} {a : Act} {Q : Exit → Act → World → Prop} (hgd : op.guard = none) (ty : TypeId) (x y : Operand) (ho : op.op = .store ty x y) (p v : Value) (hx : a.eval x = p) (hy : a.eval y = v)
    (hl : (Instr.storeAt ty p v).run Try.prog w = .ok () w') (h : wpList Try.prog ops Q rest (a.put op.dst undef) w') : wpList Try.prog ops Q (op :: rest) a w := by
  refine wpList_plain hgd fun K hK => ?_
  unfold Oper.wp execOp
  simp only [ho, hx, hy, hl, Sem.run_bind, Sem.run_pure, Result.andThen_ok]
  exact hK _ _ h
theorem wpList_allocX {w w' : World} {ops : Array Oper} {rest : List Oper} {op : Oper} {a : Act} {Q : Exit → Act → World → Prop} (hgd : op.guard = none) (ty : TypeId) (ho : op.op = .alloc ty) (v : Value)
    (hl : (Instr.alloc ty true (.tuple #[])).run Try.prog w = .ok v w') (h : wpList Try.prog ops Q rest (a.put op.dst v) w') : wpList Try.prog ops Q (op :: rest) a w := by
  refine wpList_plain hgd fun K hK => ?_
  unfold Oper.wp execOp
  simp only [ho, hl, Sem.run_bind, Sem.run_pure, Result.andThen_ok]
  exact hK _ _ h
theorem wpList_assignX {w : World} {ops : Array Oper} {rest : List Oper} {op : Oper} {a : Act} {Q : Exit → Act → World → Prop} (hgd : op.guard = none) (x : Operand) (ho : op.op = .assign x) (v : Value) (hx : a.eval x = v)
    (h : wpList Try.prog ops Q rest (a.put op.dst v) w) : wpList Try.prog ops Q (op :: rest) a w := by
  refine wpList_plain hgd fun K hK => ?_
  unfold Oper.wp execOp
  simp only [ho, hx, Sem.run_pure]
  exact hK _ _ h
theorem wpList_valX {w w' : World} {ops : Array Oper} {rest : List Oper} {op : Oper} {a : Act} {Q : Exit → Act → World → Prop} (hgd : op.guard = none) (v : Value) (hl : (execOp a.eval op).run Try.prog w = .ok (.value v) w')
    (h : wpList Try.prog ops Q rest (a.put op.dst v) w') : wpList Try.prog ops Q (op :: rest) a w := by
  refine wpList_plain hgd fun K hK => ?_
  unfold Oper.wp
  rw [hl]
  exact hK _ _ h
theorem of_hid {p : Prop} (h : Hid p) : p := h
theorem blk_new2 (w : World) (o : Obj) (cs : Array Value) (t : TypeId) : Blk ((w.alloc o).alloc (.cells cs t)) (w.heap.size + 1) t cs := by
  have := Blk.new (w.alloc o) t cs
  simpa using this
theorem wpList_storeBlk {w : World} {ops : Array Oper} {rest : List Oper} {op : Oper} {a : Act} {Q : Exit → Act → World → Prop} (hgd : op.guard = none) (ty : TypeId) (x y : Operand) (ho : op.op = .store ty x y) (g : Nat) (cs cs' : Array Value)
    (hx : a.eval x = .pointer (some ⟨g, 0, none⟩)) (hy : a.eval y = .agg cs') (hb : Blk w g ty cs) (hi : (Try.prog.info? ty).map (·.size) = some cs'.size) (hs : cs.size = cs'.size) (h1 : cs'.all (·.oneCell') = true)
    (h : ∀ w', Blk w' g ty cs' → w.grownBy w' (some g) → w'.heap.size = w.heap.size → wpList Try.prog ops Q rest (a.put op.dst undef) w') : wpList Try.prog ops Q (op :: rest) a w := by
  obtain ⟨w', e1, e2, e3, e4⟩ := store_blk hb hi hs h1
  exact wpList_storeX hgd ty x y ho _ _ hx hy e1 (h w' e2 e3 e4)
theorem results_cell {fn : Func} {t : Tmp} {ty : TypeId} (h : fn.results = #[.cell t ty]) {tmps : Array Value} {g : Nat} {v : Value} {w : World} (hp : tmps.getD t undef = .pointer (some ⟨g, 0, none⟩)) (hl : (loadVar ty ⟨g, 0, none⟩).run Try.prog w = .ok v w) :
    (results fn tmps).run Try.prog w = .ok v w := by
  have hp2 : tmps[t]?.getD undef = .pointer (some ⟨g, 0, none⟩) := by rw [← hp]; simp
  simp [results, h]
  rw [hp2]
  simp [asAddr, hl]
end Go.Proofs.Ytoabhbmhjelplaa
namespace Go.Proofs.Ytoabhbmhjelplaa
open Go Go.RowKit
set_option linter.unusedVariables false

def strB (n : Nat) (X : Nat → Nat) : ByteArray := strOfNums ((List.range n).map fun j => ((X j : Nat) : Int))
theorem strB_congr {n : Nat} {X Y : Nat → Nat} (h : ∀ j, j < n → X j = Y j) : strB n X = strB n Y := by
  unfold strB
  congr 1
  apply List.map_congr_left
  intro j hj
  rw [h j (by simpa using hj)]
theorem strB_list (n : Nat) (X : Nat → Nat) : (strB n X).toList = (List.range n).map fun j => UInt8.ofNat (X j) := by
  rw [ByteArray.toList_eq]
  show ((List.map (fun j => ((X j : Nat) : Int)) (List.range n)).map fun n => UInt8.ofNat n.toNat) = _
  rw [List.map_map]
  rfl
theorem strB_inj {n m : Nat} {X Y : Nat → Nat} (hx : ∀ j, j < n → X j < 256) (hy : ∀ j, j < m → Y j < 256) (h : (strB n X).toList = (strB m Y).toList) : n = m ∧ ∀ j, j < n → X j = Y j := by
  rw [strB_list, strB_list] at h
  have hn : n = m := by have := congrArg List.length h; simpa using this
  subst hn
  refine ⟨rfl, fun j hj => ?_⟩
  have h1 := congrArg (fun l => l[j]?) h
  simp [hj] at h1
  have h2 := congrArg UInt8.toNat h1
  simp [UInt8.toNat_ofNat'] at h2
  have := hx j hj
  have := hy j hj
  omega
/-- 'string(b)' -/
theorem conv_bytes {w : World} {g o n c : Nat} {X : Nat → Nat} {t : TypeId} {cs : Array Value} (h : Blk w g t cs) (hX : ∀ j, j < n → cs[o + j]? = some (.int .u8 ((X j : Nat) : Int))) :
    (convert 31 9 (.slice (some ⟨g, o, none⟩) n c)).run Try.prog w = .ok (.string (strB n X)) w :=
  run_convert_bytes_arg w 31 5 Try.underlying31 Try.underlying5 g o n c _ (by simp) (fun i hi => by
    rw [h.cell, hX i hi]
    simp [List.getD_eq_getElem?_getD, hi]) 9 Try.underlying9
theorem eq_str (w : World) (a b : ByteArray) : (binOp .eql 9 (.string a) (.string b)).run Try.prog w = .ok (.bool (a.toList == b.toList)) w := by
  simp [binOp, Op.stringOp, bne]
theorem ne_str (w : World) (a b : ByteArray) : (binOp .neq 9 (.string a) (.string b)).run Try.prog w = .ok (.bool (!(a.toList == b.toList))) w := by
  simp [binOp, Op.stringOp, bne]
end Go.Proofs.Ytoabhbmhjelplaa
