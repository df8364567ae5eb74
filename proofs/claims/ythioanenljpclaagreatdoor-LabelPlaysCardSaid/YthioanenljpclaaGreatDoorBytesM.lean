/-
  Words for memory, with no program in sight: a block that is known whole, what turns one block alone, rows of bytes. No conditions beyond those that each theorem types.
-/
import Derived.Below
import Derived.Laws.OwnMore
import Derived.Deep.Draws
import Derived.Laws.Rows
import Derived.Laws.AppendOwn
import Derived.Deep.OwnRows
import Derived.OwnWalk
import Derived.Test.YthioanenljpclaaGreatDoorProg
import Derived.WalkKit
import Derived.Maps.OwnOps
import Derived.Deep.Slices
import Derived.Laws.BitsLemmas
import Derived.OpenShut
import Derived.Deep.WholeRow
import Derived.Deep.MidRow
import Derived.StillTailTactics
import Derived.Deep.QuietTactic
import Derived.Lib.Hide
import Derived.Laws.BytesArg
import Derived.Laws.StructEq
import Derived.ProofKit
import Derived.Deep.Matrix
import Derived.Laws.CopyOwn
namespace Go.Proofs.YthioanenljpclaaGreatDoor
set_option maxRecDepth 100000
open Go.RowKit

def Blk (w : World) (g : Nat) (t : TypeId) (cs : Array Value) : Prop := w.heap[g]? = some (.cells cs t (0, 0))

section
variable {w w' : World} {g : Nat} {t : TypeId} {cs : Array Value}
theorem Blk.lt (h : Blk w g t cs) : g < w.heap.size := by
  rcases Nat.lt_or_ge g w.heap.size with hlt | hge
  · exact hlt
  · unfold Blk at h; rw [Array.getElem?_eq_none hge] at h; cases h
theorem Blk.cell (h : Blk w g t cs) (i : Nat) : w.cell? ⟨g, i, none⟩ = cs[i]? := cell_of_row w g i cs t (0, 0) h
theorem Blk.frozen (h : Blk w g t cs) (i : Nat) : w.frozen? ⟨g, i, none⟩ = false := by
  unfold Blk at h
  simp [World.frozen?, h]
theorem Blk.new (w : World) (t : TypeId) (cs : Array Value) : Blk (w.alloc (.cells cs t)) w.heap.size t cs := heap_alloc_new w _
theorem Blk.drew (h : Blk w g t cs) : Blk w.drew g t cs := h
theorem Blk.drewN (h : Blk w g t cs) (n : Nat) : Blk (w.drewN n) g t cs := h
theorem Blk.alloc (h : Blk w g t cs) (o : Obj) : Blk (w.alloc o) g t cs := (Below.heap_alloc w o g h.lt).trans h
theorem Blk.set_ (h : Blk w g t cs) (i : Nat) (u : Value) : Blk (w.setCell ⟨g, i, none⟩ u) g t (cs.setIfInBounds i u) := by
  unfold Blk at h ⊢
  simp [World.setCell, Array.getElem?_modify, h]
theorem Blk.far (h : Blk w g t cs) {p : Addr} (hp : g ≠ p.block) (u : Value) : Blk (w.setCell p u) g t cs := (Below.heap_setCell w p u g hp).trans h
theorem Blk.below {B : Nat} (h : Blk w g t cs) (hb : Below B w w') (hg : g < B) : Blk w' g t cs := (hb.block g hg).trans h
theorem Blk.grown {row : Option Nat} (h : Blk w g t cs) (hb : w.grownBy w' row) (hg : some g ≠ row) : Blk w' g t cs := (hb.block g h.lt hg).trans h
end

/-- Only block g, and what is new, has turned. -/
def Only (g : Nat) (a w : World) : Prop := a.grownBy w (some g)

section
variable {a b c w w' : World} {g : Nat}
theorem Only.refl (g : Nat) (w : World) : Only g w w := World.grownBy.refl w _
theorem Only.trans (h : Only g a b) (k : Only g b c) : Only g a c :=
  ⟨k.os.trans h.os, k.tape.trans h.tape, k.output.trans h.output, Nat.le_trans h.size k.size, fun i hi hne => (k.block i (Nat.lt_of_lt_of_le hi h.size) hne).trans (h.block i hi hne)⟩
theorem Only.drew (h : Only g a w) : Only g a w.drew := ⟨h.os, h.tape, h.output, h.size, h.block⟩
theorem Only.drewN (h : Only g a w) (n : Nat) : Only g a (w.drewN n) := ⟨h.os, h.tape, h.output, h.size, h.block⟩
theorem Only.alloc (h : Only g a w) (o : Obj) : Only g a (w.alloc o) :=
  ⟨h.os, h.tape, h.output, Nat.le_trans h.size (by simp), fun i hi hne => (Below.heap_alloc w o i (Nat.lt_of_lt_of_le hi h.size)).trans (h.block i hi hne)⟩
theorem Only.setCell (h : Only g a w) (i : Nat) (u : Value) : Only g a (w.setCell ⟨g, i, none⟩ u) :=
  ⟨h.os, h.tape, h.output, by simpa [World.setCell] using h.size, fun j hj hne => (Below.heap_setCell w ⟨g, i, none⟩ u j (by
    rintro rfl
    exact hne rfl)).trans (h.block j hj hne)⟩
theorem Only.below (h : Only g a w) {B : Nat} (hB : B ≤ g) (hs : B ≤ a.heap.size) : Below B a w :=
  ⟨h.os, h.tape, h.output, h.size, fun k hk => h.block k (by omega) (fun e => by injection e; omega)⟩
theorem Only.blk (h : Only g a w) {g' : Nat} {t : TypeId} {cs : Array Value} (hb : Blk a g' t cs) (hne : g' ≠ g) : Blk w g' t cs :=
  (h.block g' hb.lt (fun e => hne (by injection e))).trans hb
theorem Only.of_below (h : Below a.heap.size a w) (g : Nat) : Only g a w := ⟨h.os, h.tape, h.output, h.size, fun i hi _ => h.block i hi⟩
end

theorem Blk.ne_ {w : World} {g g' : Nat} {t t' : TypeId} {cs cs' : Array Value} (h : Blk w g t cs) (h' : Blk w g' t' cs') (hne : t ≠ t') : g ≠ g' := by
  rintro rfl
  unfold Blk at h h'
  rw [h] at h'
  injection h' with h'
  injection h' with _ ht
  exact hne ht
def rowArr (n : Nat) (f : Nat → Nat) : Array Value := Array.ofFn (n := n) fun c => .int .u8 ((f c.val : Nat) : Int)
theorem rowArr_get {n : Nat} {f : Nat → Nat} {c : Nat} (h : c < n) : (rowArr n f)[c]? = some (.int .u8 ((f c : Nat) : Int)) := by simp [rowArr, h]
theorem rowArr_congr {n : Nat} {f g : Nat → Nat} (h : ∀ c, c < n → f c = g c) : rowArr n f = rowArr n g := by
  unfold rowArr
  congr 1
  funext c
  rw [h c.val c.isLt]
theorem rowArr_set {n : Nat} {f : Nat → Nat} {c v : Nat} (h : c < n) : (rowArr n f).setIfInBounds c (.int .u8 ((v : Nat) : Int)) = rowArr n (fun j => if j = c then v else f j) := by
  apply Array.ext_getElem?
  intro j
  rw [Array.getElem?_setIfInBounds]
  have hs : (rowArr n f).size = n := by simp [rowArr]
  rw [hs]
  by_cases hj : j < n
  · rw [rowArr_get hj, rowArr_get hj]
    by_cases e : c = j
    · rw [if_pos e, if_pos h, if_pos e.symm]
    · rw [if_neg e, if_neg (fun x => e x.symm)]
  · rw [if_neg (by omega), Array.getElem?_eq_none (by rw [hs]; omega), Array.getElem?_eq_none (by simp [rowArr]; omega)]
theorem replicate_row (n : Nat) : Array.replicate n (Value.int .u8 0) = rowArr n (fun _ => 0) := by
  apply Array.ext_getElem?
  intro i
  by_cases h : i < n
  · rw [rowArr_get h]; simp [h]
  · rw [Array.getElem?_eq_none (by simp; omega), Array.getElem?_eq_none (by simp [rowArr]; omega)]
theorem rowArr_size (n : Nat) (f : Nat → Nat) : (rowArr n f).size = n := by simp [rowArr]
theorem rowArr_one (n : Nat) (f : Nat → Nat) : (rowArr n f).all (·.oneCell') = true := by
  rw [Array.all_eq_true]
  intro i hi
  simp [rowArr, Value.oneCell']
theorem add_plain (b o j : Nat) : (⟨b, o, none⟩ : Addr).add j = ⟨b, o + j, none⟩ := by unfold Addr.add; split <;> simp_all
theorem block_lt_of_cell {w : World} {a : Addr} {v : Value} (h : w.cell? a = some v) : a.block < w.heap.size := by
  rcases Nat.lt_or_ge a.block w.heap.size with hlt | hge
  · exact hlt
  · unfold World.cell? at h; rw [Array.getElem?_eq_none hge] at h; cases h
theorem getD_mem {zs : List Int} {j : Nat} (h : j < zs.length) : zs.getD j 0 ∈ zs := by
  rw [List.getD_eq_getElem?_getD, List.getElem?_eq_getElem h]
  exact List.getElem_mem h
theorem madeCells_one (z : Value) (n : Nat) : madeCells #[z] n = Array.replicate n z := by
  apply Array.ext_getElem?
  intro i
  unfold madeCells
  by_cases h : i < n
  · simp [h, Nat.mod_one]
  · rw [Array.getElem?_eq_none (by simp; omega), Array.getElem?_eq_none (by simp; omega)]
theorem info_u8 : (Tryz.prog.info? 5).map (fun i => (i.zero, i.size, i.bytes)) = some (some (.int .u8 0), 1, 1) := by kernel_rfl
theorem make_bytes (n : Nat) (hn : n ≤ 70000) (w : World) (l : Int) (hl : l = (n : Int)) :
    (Instr.makeSlice 51 (.int .i64 l) (.int .i64 l)).run Tryz.prog w = .ok (.slice (some ⟨w.heap.size, 0, none⟩) n n) (w.alloc (.cells (rowArr n (fun _ => 0)) 5)) := by
  subst hl
  obtain ⟨i0, hi, hz0, hz1, hz2⟩ := info_parts info_u8
  have h := run_make (P := Tryz.prog) (w := w) 51 5 i0 (.int .u8 0) Tryz.underlying51 hi hz0 .i64 .i64 (n : Int) (n : Int) (by omega) (by omega) (by rw [hz2]; omega) (by omega)
  rw [h, hz1, Int.toNat_natCast, Nat.mul_one]
  show _ = _
  rw [show (Value.int .u8 0).cells = #[.int .u8 0] from rfl, madeCells_one, replicate_row]
theorem below_drewN {B : Nat} {a w : World} (h : Below B a w) (n : Nat) : Below B a (w.drewN n) := ⟨h.os, h.tape, h.output, h.size, h.block⟩
end Go.Proofs.YthioanenljpclaaGreatDoor
namespace Go.Proofs.YthioanenljpclaaGreatDoor
set_option maxRecDepth 100000
open Go.RowKit
set_option linter.unusedVariables false

/-- a block read whole -/
theorem load_blk {w : World} {g : Nat} {t : TypeId} {cs : Array Value} (h : Blk w g t cs) {d : TypeDesc} (hu : Tryz.prog.underlying t = some d) (hd : d.isRow = true) (hi : (Tryz.prog.info? t).map (·.size) = some cs.size) :
    (Instr.loadAt t (.pointer (some ⟨g, 0, none⟩))).run Tryz.prog w = .ok (.agg cs) w := by
  have := run_loadAt_mid (P := Tryz.prog) w g 0 t cs.toList d (fun j v hj => by rw [Nat.zero_add, h.cell, ← Array.getElem?_toList]; exact hj) hu hd (by rw [Array.length_toList]; exact hi)
  rw [Array.toArray_toList] at this
  exact this
/-- a part of a block -/
theorem load_part {w : World} {g o : Nat} {t t' : TypeId} {cs cs' : Array Value} (h : Blk w g t' cs) {d : TypeDesc} (hu : Tryz.prog.underlying t = some d) (hd : d.isRow = true) (hi : (Tryz.prog.info? t).map (·.size) = some cs'.size) (hp : ∀ j, j < cs'.size → cs[o + j]? = cs'[j]?) :
    (Instr.loadAt t (.pointer (some ⟨g, o, none⟩))).run Tryz.prog w = .ok (.agg cs') w := by
  have := run_loadAt_mid (P := Tryz.prog) w g o t cs'.toList d (fun j v hj => by
    rw [h.cell, hp j (by have := (List.getElem?_eq_some_iff.1 hj).1; simpa using this), ← Array.getElem?_toList]; exact hj) hu hd (by rw [Array.length_toList]; exact hi)
  rw [Array.toArray_toList] at this
  exact this
theorem loadVar_blk {w : World} {g : Nat} {t : TypeId} {cs : Array Value} (h : Blk w g t cs) {d : TypeDesc} (hu : Tryz.prog.underlying t = some d) (hd : d.isRow = true) (hi : (Tryz.prog.info? t).map (·.size) = some cs.size) :
    (loadVar t ⟨g, 0, none⟩).run Tryz.prog w = .ok (.agg cs) w := by
  have := run_loadVar_mid (P := Tryz.prog) w g 0 t cs.toList d (fun j v hj => by rw [Nat.zero_add, h.cell, ← Array.getElem?_toList]; exact hj) hu hd (by rw [Array.length_toList]; exact hi)
  rw [Array.toArray_toList] at this
  exact this
/-- a block stored whole -/
theorem store_blk {w : World} {g : Nat} {t : TypeId} {cs cs' : Array Value} (h : Blk w g t cs) (hi : (Tryz.prog.info? t).map (·.size) = some cs'.size) (hs : cs.size = cs'.size) (h1 : cs'.all (·.oneCell') = true) :
    ∃ w', (Instr.storeAt t (.pointer (some ⟨g, 0, none⟩)) (.agg cs')).run Tryz.prog w = .ok () w' ∧ Blk w' g t cs' ∧ w.grownBy w' (some g) ∧ w'.heap.size = w.heap.size := by
  refine ⟨w.setRow g cs', ?_, ?_, ⟨rfl, rfl, rfl, by simp [World.setRow], fun k hk hne => ?_⟩, by simp [World.setRow]⟩
  · simp only [Instr.storeAt, Instr.sureAddr, Sem.run_bind, Sem.run_pure, Result.andThen_ok]
    rw [run_storeVar_row _ _ t t cs cs' h hi hs h1]
  · unfold Blk at h ⊢
    simp [World.setRow, Array.getElem?_modify, h]
  · simp only [World.setRow, Array.getElem?_modify]
    rw [if_neg (fun e => hne (by rw [e]))]
theorem wpList_loadX {w : World} {ops : Array Oper} {rest : List Oper} {op : Oper} {a : Act} {Q : Exit → Act → World → Prop} (hgd : op.guard = none) (ty : TypeId) (x : Operand) (ho : op.op = .load ty x) (p v : Value) (hx : a.eval x = p)
    (hl : (Instr.loadAt ty p).run Tryz.prog w = .ok v w) (h : wpList Tryz.prog ops Q rest (a.put op.dst v) w) : wpList Tryz.prog ops Q (op :: rest) a w := by
  refine wpList_plain hgd fun K hK => ?_
  unfold Oper.wp execOp
  simp only [ho, hx, hl, Sem.run_bind, Sem.run_pure, Result.andThen_ok]
  exact hK _ _ h
theorem wpList_storeX {w w' : World} {ops : Array Oper} {rest : List Oper} {op : Oper} {a : Act} {Q : Exit → Act → World → Prop} (hgd : op.guard = none) (ty : TypeId) (x y : Operand) (ho : op.op = .store ty x y) (p v : Value) (hx : a.eval x = p) (hy : a.eval y = v)
    (hl : (Instr.storeAt ty p v).run Tryz.prog w = .ok () w') (h : wpList Tryz.prog ops Q rest (a.put op.dst undef) w') : wpList Tryz.prog ops Q (op :: rest) a w := by
  refine wpList_plain hgd fun K hK => ?_
  unfold Oper.wp execOp
  simp only [ho, hx, hy, hl, Sem.run_bind, Sem.run_pure, Result.andThen_ok]
  exact hK _ _ h
theorem wpList_allocX {w w' : World} {ops : Array Oper} {rest : List Oper} {op : Oper} {a : Act} {Q : Exit → Act → World → Prop} (hgd : op.guard = none) (ty : TypeId) (ho : op.op = .alloc ty) (v : Value)
    (hl : (Instr.alloc ty true (.tuple #[])).run Tryz.prog w = .ok v w') (h : wpList Tryz.prog ops Q rest (a.put op.dst v) w') : wpList Tryz.prog ops Q (op :: rest) a w := by
  refine wpList_plain hgd fun K hK => ?_
  unfold Oper.wp execOp
  simp only [ho, hl, Sem.run_bind, Sem.run_pure, Result.andThen_ok]
  exact hK _ _ h
theorem wpList_assignX {w : World} {ops : Array Oper} {rest : List Oper} {op : Oper} {a : Act} {Q : Exit → Act → World → Prop} (hgd : op.guard = none) (x : Operand) (ho : op.op = .assign x) (v : Value) (hx : a.eval x = v)
    (h : wpList Tryz.prog ops Q rest (a.put op.dst v) w) : wpList Tryz.prog ops Q (op :: rest) a w := by
  refine wpList_plain hgd fun K hK => ?_
  unfold Oper.wp execOp
  simp only [ho, hx, Sem.run_pure]
  exact hK _ _ h
theorem of_hid {p : Prop} (h : Hid p) : p := h
theorem blk_new2 (w : World) (o : Obj) (cs : Array Value) (t : TypeId) : Blk ((w.alloc o).alloc (.cells cs t)) (w.heap.size + 1) t cs := by
  have := Blk.new (w.alloc o) t cs
  simpa using this
theorem wpList_storeBlk {w : World} {ops : Array Oper} {rest : List Oper} {op : Oper} {a : Act} {Q : Exit → Act → World → Prop} (hgd : op.guard = none) (ty : TypeId) (x y : Operand) (ho : op.op = .store ty x y) (g : Nat) (cs cs' : Array Value)
    (hx : a.eval x = .pointer (some ⟨g, 0, none⟩)) (hy : a.eval y = .agg cs') (hb : Blk w g ty cs) (hi : (Tryz.prog.info? ty).map (·.size) = some cs'.size) (hs : cs.size = cs'.size) (h1 : cs'.all (·.oneCell') = true)
    (h : ∀ w', Blk w' g ty cs' → w.grownBy w' (some g) → w'.heap.size = w.heap.size → wpList Tryz.prog ops Q rest (a.put op.dst undef) w') : wpList Tryz.prog ops Q (op :: rest) a w := by
  obtain ⟨w', e1, e2, e3, e4⟩ := store_blk hb hi hs h1
  exact wpList_storeX hgd ty x y ho _ _ hx hy e1 (h w' e2 e3 e4)
theorem results_cell {fn : Func} {t : Tmp} {ty : TypeId} (h : fn.results = #[.cell t ty]) {tmps : Array Value} {g : Nat} {v : Value} {w : World} (hp : tmps.getD t undef = .pointer (some ⟨g, 0, none⟩)) (hl : (loadVar ty ⟨g, 0, none⟩).run Tryz.prog w = .ok v w) :
    (results fn tmps).run Tryz.prog w = .ok v w := by
  have hp2 : tmps[t]?.getD undef = .pointer (some ⟨g, 0, none⟩) := by rw [← hp]; simp
  simp [results, h]
  rw [hp2]
  simp [asAddr, hl]
end Go.Proofs.YthioanenljpclaaGreatDoor
namespace Go.Proofs.YthioanenljpclaaGreatDoor
set_option maxRecDepth 100000
open Go Go.RowKit
set_option linter.unusedVariables false

def strB (n : Nat) (X : Nat → Nat) : ByteArray := strOfNums ((List.range n).map fun j => ((X j : Nat) : Int))
theorem strB_congr {n : Nat} {X Y : Nat → Nat} (h : ∀ j, j < n → X j = Y j) : strB n X = strB n Y := by
  unfold strB
  congr 1
  apply List.map_congr_left
  intro j hj
  rw [h j (by simpa using hj)]
theorem strB_list (n : Nat) (X : Nat → Nat) : (strB n X).toList = (List.range n).map fun j => UInt8.ofNat (X j) := by
  rw [ByteArray.toList_eq]
  show ((List.map (fun j => ((X j : Nat) : Int)) (List.range n)).map fun n => UInt8.ofNat n.toNat) = _
  rw [List.map_map]
  rfl
theorem strB_inj {n m : Nat} {X Y : Nat → Nat} (hx : ∀ j, j < n → X j < 256) (hy : ∀ j, j < m → Y j < 256) (h : (strB n X).toList = (strB m Y).toList) : n = m ∧ ∀ j, j < n → X j = Y j := by
  rw [strB_list, strB_list] at h
  have hn : n = m := by have := congrArg List.length h; simpa using this
  subst hn
  refine ⟨rfl, fun j hj => ?_⟩
  have h1 := congrArg (fun l => l[j]?) h
  simp [hj] at h1
  have h2 := congrArg UInt8.toNat h1
  simp [UInt8.toNat_ofNat'] at h2
  have := hx j hj
  have := hy j hj
  omega
/-- 'string(b)' -/
theorem conv_bytes {w : World} {g o n c : Nat} {X : Nat → Nat} {t : TypeId} {cs : Array Value} (h : Blk w g t cs) (hX : ∀ j, j < n → cs[o + j]? = some (.int .u8 ((X j : Nat) : Int))) :
    (convert 51 9 (.slice (some ⟨g, o, none⟩) n c)).run Tryz.prog w = .ok (.string (strB n X)) w :=
  run_convert_bytes_arg w 51 5 Tryz.underlying51 Tryz.underlying5 g o n c _ (by simp) (fun i hi => by
    rw [h.cell, hX i hi]
    simp [List.getD_eq_getElem?_getD, hi]) 9 Tryz.underlying9
theorem ne_str (w : World) (a b : ByteArray) : (binOp .neq 9 (.string a) (.string b)).run Tryz.prog w = .ok (.bool (!(a.toList == b.toList))) w := by
  simp [binOp, Op.stringOp, bne]
end Go.Proofs.YthioanenljpclaaGreatDoor
namespace Go.Proofs.YthioanenljpclaaGreatDoor
set_option maxRecDepth 100000
open Go Go.RowKit Go.ChangeShapes Go.WideShapes Go.ChangeAt
set_option linter.unusedVariables false

/-- n bytes that lie below block B. -/
def RdB (w : World) (B : Nat) (A : Option Addr) (n : Nat) (x : Nat → Nat) : Prop :=
  ∀ j, j < n → ∃ b o, A = some ⟨b, o, none⟩ ∧ b < B ∧ w.cell? ⟨b, o + j, none⟩ = some (.int .u8 (x j : Nat)) ∧ x j < 256
theorem RdB.below {w w' : World} {B B' : Nat} {A : Option Addr} {n : Nat} {x : Nat → Nat} (h : RdB w B A n x) (hb : Below B' w w') (hB : B ≤ B') : RdB w' B A n x := by
  intro j hj
  obtain ⟨b, o, h1, h2, h3, h4⟩ := h j hj
  exact ⟨b, o, h1, h2, (hb.cell (p := ⟨b, o + j, none⟩) (by show b < B'; omega)).trans h3, h4⟩
section
variable {H : Type} {enc : TypeId × Value → H} {P : Program} {W : World} {base : Nat} {held : Bool}
end
theorem rdb_of_blk {w : World} {g n : Nat} {X : Nat → Nat} (h : Blk w g 5 (rowArr n X)) (hX : ∀ i, i < n → X i < 256) : RdB w (g + 1) (some ⟨g, 0, none⟩) n X := by
  intro j hj
  refine ⟨g, 0, rfl, by omega, ?_, hX j hj⟩
  rw [Nat.zero_add, h.cell, rowArr_get hj]

theorem Only.cell {g : Nat} {a w : World} (h : Only g a w) {p : Addr} {v : Value} (hc : a.cell? p = some v) (hne : p.block ≠ g) : w.cell? p = some v := by
  rw [← hc]
  exact World.cell?_of_block (h.block p.block (block_lt_of_cell hc) (fun e => hne (by injection e)))
theorem RdB.only {g : Nat} {w w' : World} {B : Nat} {A : Option Addr} {n : Nat} {x : Nat → Nat} (h : RdB w B A n x) (ho : Only g w w') (hne : ∀ b o, A = some ⟨b, o, none⟩ → 0 < n → b ≠ g) : RdB w' B A n x := by
  intro j hj
  obtain ⟨b, o, h1, h2, h3, h4⟩ := h j hj
  exact ⟨b, o, h1, h2, ho.cell h3 (hne b o h1 (by omega)), h4⟩
theorem size_u8 : (Tryz.prog.info? 5).map (·.size) = some 1 := by kernel_rfl
/-- 'copy' of a row of bytes onto the head of a row of the call's own. -/
theorem wpList_copyB {w : World} {ops : Array Oper} {rest : List Oper} {o : Oper} {a : Act} {Q : Exit → Act → World → Prop} (hgd : o.guard = none) (d s : Operand) (dT sT : TypeId)
    (ho : o.op = .call { callee := .builtin .copy, args := #[d, s], argTypes := #[dT, sT] }) (hu : Tryz.prog.underlying dT = some (.slice 5))
    (g n b off sLen sCap : Nat) (hd : a.eval d = .slice (some ⟨g, 0, none⟩) n n) (hs : a.eval s = .slice (some ⟨b, off, none⟩) sLen sCap)
    (f x : Nat → Nat) (hg : Blk w g 5 (rowArr n f)) (hx : ∀ j, j < sLen → w.cell? ⟨b, off + j, none⟩ = some (.int .u8 (x j : Nat))) (hle : sLen ≤ n)
    (h : ∀ w', Blk w' g 5 (rowArr n (fun j => if j < sLen then x j else f j)) → Only g w w' → w'.heap.size = w.heap.size → wpList Tryz.prog ops Q rest (a.put o.dst (goInt sLen)) w') :
    wpList Tryz.prog ops Q (o :: rest) a w := by
  have hrs : (rowArr n f).size = n := by simp [rowArr]
  refine wpList_copy_own hgd d s dT sT ho 5 hu size_u8 g 0 n n ⟨b, off, none⟩ sLen sCap hd hs (rowArr n f) 5 hg ((List.range sLen).map fun j => .int .u8 ((x j : Nat) : Int)) (by simp; exact (Nat.min_eq_left hle).symm) ?_ (by simp [hrs]; exact hle) ?_ ?_
  · intro j v hj
    simp only [List.getElem?_map] at hj
    by_cases hjl : j < sLen
    · simp [hjl] at hj
      subst hj
      have e : (⟨b, off, none⟩ : Addr).add j = ⟨b, off + j, none⟩ := by unfold Addr.add; split <;> simp_all
      rw [e]
      exact hx j hjl
    · simp [hjl] at hj
  · intro v hv
    simp at hv
    obtain ⟨j, _, rfl⟩ := hv
    rfl
  · have e1 : ((rowArr n f).toList.take 0 ++ (((List.range sLen).map fun j => Value.int .u8 ((x j : Nat) : Int)) ++ (rowArr n f).toList.drop (0 + ((List.range sLen).map fun j => Value.int .u8 ((x j : Nat) : Int)).length))).toArray = rowArr n (fun j => if j < sLen then x j else f j) := by
      apply Array.ext_getElem?
      intro j
      by_cases hj : j < n
      · rw [rowArr_get hj]
        by_cases hjl : j < sLen
        · simp only [List.take_zero, List.nil_append, List.getElem?_toArray]
          rw [List.getElem?_append_left (by simp; exact hjl), if_pos hjl]
          simp [hjl]
        · have hgt := rowArr_get (f := f) hj
          have e2 : sLen + (j - sLen) = j := by omega
          simp [hjl, List.getElem?_append, e2, hgt]
      · rw [Array.getElem?_eq_none (by simp [hrs]; omega), Array.getElem?_eq_none (by simp [rowArr]; omega)]
    rw [e1]
    have e3 : ((List.range sLen).map fun j => Value.int .u8 ((x j : Nat) : Int)).length = sLen := by simp
    rw [e3]
    exact h _ (setRow_heap w g _ _ _ _ hg) ⟨rfl, rfl, rfl, by simp, fun k hk hne => setRow_other w g k _ (fun e => hne (by rw [e]))⟩ (by simp)

theorem wpList_copy0 {w : World} {ops : Array Oper} {rest : List Oper} {o : Oper} {a : Act} {Q : Exit → Act → World → Prop} (hgd : o.guard = none) (d s : Operand) (dT sT : TypeId)
    (ho : o.op = .call { callee := .builtin .copy, args := #[d, s], argTypes := #[dT, sT] }) (hu : Tryz.prog.underlying dT = some (.slice 5))
    (g n m sCap c : Nat) (A : Option Addr) (hd : a.eval d = .slice (some ⟨g, 0, none⟩) n c) (hs : a.eval s = .slice A m sCap) (e0 : Nat.min m n = 0)
    (h : wpList Tryz.prog ops Q rest (a.put o.dst (goInt 0)) w) : wpList Tryz.prog ops Q (o :: rest) a w := by
  refine wpList_plain hgd fun K hK => ?_
  have hrun : (Builtin.copy_ #[dT, sT] o.type #[.slice (some ⟨g, 0, none⟩) n c, .slice A m sCap]).run Tryz.prog w = .ok (goInt 0) w := by
    have h0 : ∀ ad : Addr, (loadCells ad 0).run Tryz.prog w = .ok #[] w := fun ad => run_loadCells_list (P := Tryz.prog) w ad [] (fun j v hv => by simp at hv)
    have h1 : (sizeOf 5).run Tryz.prog w = .ok 1 w := by
      unfold sizeOf typeInfo
      cases hq : Tryz.prog.info? 5 with
      | none => have := size_u8; rw [hq] at this; cases this
      | some i => have := size_u8; rw [hq] at this; simp at this; simp [Sem.run_bind, hq, this]
    cases A <;> simp [Builtin.copy_, run_underlying hu, Sem.run_bind, Builtin.lenOf, h1, Builtin.firstCells, storeCells, e0, h0]
  unfold Oper.wp
  simp [execOp, ho, resolve, invoke, builtin, hd, hs, hrun, Result.andThen]
  exact hK _ _ h
set_option maxRecDepth 100000 in
/-- 'copy' of bytes that came in onto the head of a row of the call's own -/
theorem wpList_copyRd {w : World} {ops : Array Oper} {rest : List Oper} {o : Oper} {a : Act} {Q : Exit → Act → World → Prop} (hgd : o.guard = none) (d s : Operand) (dT sT : TypeId)
    (ho : o.op = .call { callee := .builtin .copy, args := #[d, s], argTypes := #[dT, sT] }) (hu : Tryz.prog.underlying dT = some (.slice 5))
    (g n m sCap B : Nat) (A : Option Addr) (hd : a.eval d = .slice (some ⟨g, 0, none⟩) n n) (hs : a.eval s = .slice A m sCap)
    (f x : Nat → Nat) (hg : Blk w g 5 (rowArr n f)) (hx : RdB w B A m x) (hle : m ≤ n)
    (h : ∀ w', Blk w' g 5 (rowArr n (fun j => if j < m then x j else f j)) → Only g w w' → w'.heap.size = w.heap.size → wpList Tryz.prog ops Q rest (a.put o.dst (goInt m)) w') :
    wpList Tryz.prog ops Q (o :: rest) a w := by
  by_cases h0 : m = 0
  · subst h0
    refine wpList_copy0 hgd d s dT sT ho hu g n 0 sCap n A hd hs (Nat.zero_min n) ?_
    exact h w (by rw [show (rowArr n fun j => if j < 0 then x j else f j) = rowArr n f from rowArr_congr fun c _ => if_neg (by omega)]; exact hg) (Only.refl _ _) rfl
  · obtain ⟨b, off, rfl, _⟩ := hx 0 (by omega)
    exact wpList_copyB hgd d s dT sT ho hu g n b off m sCap hd hs f x hg (fun j hj => by
      obtain ⟨b', o', e, _, h3, _⟩ := hx j hj
      injection e with e
      injection e with e1 e2
      subst e1; subst e2
      exact h3) hle h
set_option maxRecDepth 100000 in
/-- 'copy' of the head of bytes that came in onto a whole row of the call's own -/
theorem wpList_copyFull {w : World} {ops : Array Oper} {rest : List Oper} {o : Oper} {a : Act} {Q : Exit → Act → World → Prop} (hgd : o.guard = none) (d s : Operand) (dT sT : TypeId)
    (ho : o.op = .call { callee := .builtin .copy, args := #[d, s], argTypes := #[dT, sT] }) (hu : Tryz.prog.underlying dT = some (.slice 5))
    (g n m sCap B : Nat) (A : Option Addr) (hd : a.eval d = .slice (some ⟨g, 0, none⟩) n n) (hs : a.eval s = .slice A m sCap)
    (f x : Nat → Nat) (hg : Blk w g 5 (rowArr n f)) (hx : RdB w B A m x) (hle : n ≤ m)
    (h : ∀ w', Blk w' g 5 (rowArr n x) → Only g w w' → w'.heap.size = w.heap.size → wpList Tryz.prog ops Q rest (a.put o.dst (goInt n)) w') :
    wpList Tryz.prog ops Q (o :: rest) a w := by
  by_cases h0 : n = 0
  · subst h0
    refine wpList_copy0 hgd d s dT sT ho hu g 0 m sCap 0 A hd hs (Nat.min_zero m) ?_
    exact h w (by rw [show (rowArr 0 x) = rowArr 0 f from rowArr_congr fun c hc => absurd hc (by omega)]; exact hg) (Only.refl _ _) rfl
  · obtain ⟨b, off, rfl, _⟩ := hx 0 (by omega)
    have hrs : (rowArr n f).size = n := by simp [rowArr]
    have hmin : Nat.min m n = n := Nat.min_eq_right hle
    refine wpList_copy_own hgd d s dT sT ho 5 hu size_u8 g 0 n n ⟨b, off, none⟩ m sCap hd hs (rowArr n f) 5 hg ((List.range n).map fun j => .int .u8 ((x j : Nat) : Int)) (by simp only [List.length_map, List.length_range]; exact hmin.symm) ?_ (by simp [hrs]) ?_ ?_
    · intro j v hj
      simp only [List.getElem?_map] at hj
      by_cases hjl : j < n
      · simp [hjl] at hj
        subst hj
        obtain ⟨b', o', e, _, h3, _⟩ := hx j (by omega)
        injection e with e
        injection e with e1 e2
        subst e1; subst e2
        rw [add_plain]
        exact h3
      · simp [hjl] at hj
    · intro v hv
      simp at hv
      obtain ⟨j, _, rfl⟩ := hv
      rfl
    · have e1 : ((rowArr n f).toList.take 0 ++ (((List.range n).map fun j => Value.int .u8 ((x j : Nat) : Int)) ++ (rowArr n f).toList.drop (0 + ((List.range n).map fun j => Value.int .u8 ((x j : Nat) : Int)).length))).toArray = rowArr n x := by
        apply Array.ext_getElem?
        intro j
        by_cases hj : j < n
        · rw [rowArr_get hj]
          simp only [List.take_zero, List.nil_append, List.getElem?_toArray]
          rw [List.getElem?_append_left (by simp; exact hj)]
          simp [hj]
        · rw [Array.getElem?_eq_none (by simp [hrs]; omega), Array.getElem?_eq_none (by simp [rowArr]; omega)]
      rw [e1]
      have e3 : ((List.range n).map fun j => Value.int .u8 ((x j : Nat) : Int)).length = n := by simp
      rw [e3]
      exact h _ (setRow_heap w g _ _ _ _ hg) ⟨rfl, rfl, rfl, by simp, fun k hk hne => setRow_other w g k _ (fun e => hne (by rw [e]))⟩ (by simp)
/-- where 's[lo:]' begins -/
def subA (A : Option Addr) (c lo : Nat) : Option Addr := if c = lo then A else A.map (·.add lo)
theorem RdB.sub {w : World} {B n c lo : Nat} {A : Option Addr} {x : Nat → Nat} (h : RdB w B A n x) (hc : n ≤ c) : RdB w B (subA A c lo) (n - lo) (fun j => x (lo + j)) := fun j hj => by
  obtain ⟨b, o, rfl, h2, h3, h4⟩ := h (lo + j) (by omega)
  refine ⟨b, o + lo, ?_, h2, by rw [Nat.add_assoc]; exact h3, h4⟩
  unfold subA
  rw [if_neg (by omega)]
  simp [add_plain]
theorem sizeOf_u8 (w : World) : (sizeOf 5).run Tryz.prog w = .ok 1 w := by
  unfold sizeOf typeInfo
  cases hq : Tryz.prog.info? 5 with
  | none => have := size_u8; rw [hq] at this; cases this
  | some i => have := size_u8; rw [hq] at this; simp at this; simp [Sem.run_bind, hq, this]
/-- 's[lo:]' -/
theorem slice_from (A : Option Addr) (n c lo : Nat) (L : Int) (hL : L = (lo : Int)) (h : lo ≤ n) (w : World) :
    (Instr.sliceAt 51 (.slice A n c) (some (.int .i64 L)) none none).run Tryz.prog w = .ok (.slice (subA A c lo) (n - lo) (c - lo)) w := by
  subst hL
  have hu : Tryz.prog.underlying 51 = some (.slice (Tryz.prog.elem 51)) := by kernel_rfl
  have he : Tryz.prog.elem 51 = 5 := by kernel_rfl
  rw [run_sliceAt_slice (P := Tryz.prog) (w := w) (h := hu), run_slice_l (P := Tryz.prog) (w := w) 51 A n c hu .i64 (lo : Int) (by omega) (by omega), he, sizeOf_u8]
  simp [sliced, subA]
theorem conv_zero (w : World) (A : Option Addr) (cap : Nat) : (convert 51 9 (.slice A 0 cap)).run Tryz.prog w = .ok (.string ByteArray.empty) w := by
  cases A with
  | none => exact run_convert_bytes_nil w _ _ Tryz.underlying51 Tryz.underlying5 _ _ _ Tryz.underlying9
  | some a =>
    rw [run_convert_bytes_string w _ _ _ _ _ _ Tryz.underlying51 Tryz.underlying5 Tryz.underlying9]
    have h0 : (loadCells a 0).run Tryz.prog w = .ok #[] w := run_loadCells_list (P := Tryz.prog) w a [] (fun j v hv => by simp at hv)
    simp [Conv.bytesToString, h0]
/-- 'string(b)' of bytes that came in -/
theorem conv_rd {w : World} {B : Nat} {A : Option Addr} {n cap : Nat} {x : Nat → Nat} (h : RdB w B A n x) :
    (convert 51 9 (.slice A n cap)).run Tryz.prog w = .ok (.string (strB n x)) w := by
  by_cases h1 : n = 0
  · subst h1; exact conv_zero w A cap
  obtain ⟨b, o, rfl, _⟩ := h 0 (by omega)
  refine run_convert_bytes_arg w 51 5 Tryz.underlying51 Tryz.underlying5 b o n cap _ (by simp) (fun i hi => ?_) _ Tryz.underlying9
  obtain ⟨b', o', e, _, h3, _⟩ := h i hi
  injection e with e
  injection e with e1 e2
  subst e1; subst e2
  rw [h3]
  simp [List.getD, hi]
end Go.Proofs.YthioanenljpclaaGreatDoor
