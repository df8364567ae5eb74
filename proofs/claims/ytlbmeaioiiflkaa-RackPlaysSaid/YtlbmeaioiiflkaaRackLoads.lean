/-
  Loads, stores and new blocks of whole sectors and waiting writes. Conditions: what lies in memory.
-/
import Derived.Test.YtlbmeaioiiflkaaRackPower
namespace Go.Proofs.Ytlbmeaioiiflkaa
open Go.RowKit
set_option linter.unusedVariables false

theorem row_waiting : Try.prog.underlying 59 = Try.prog.underlying 59 := rfl
theorem zero_waiting (w : World) : (Sem.run Try.prog (zeroValue 59) w) = .ok (.agg (waitA ⟨0, 0, zeros⟩)) w := by kernel_rfl
theorem zero_sector (w : World) : (Sem.run Try.prog (zeroValue 57) w) = .ok (.agg (secA zeros)) w := by kernel_rfl
theorem isize_waiting : (Try.prog.info? 59).map (·.size) = some 130 := by kernel_rfl
theorem isize_sector : (Try.prog.info? 57).map (·.size) = some 128 := by kernel_rfl
theorem isize_place : (Try.prog.info? 54).map (·.size) = some 2 := by kernel_rfl

theorem extract_nil {α : Type} (b : Array α) : b.extract 0 b.size = b := by simp
/-- a block read whole -/
theorem load_blk {w : World} {g : Nat} {t : TypeId} {cs : Array Value} (h : Blk w g t cs) {d : TypeDesc} (hu : Try.prog.underlying t = some d) (hd : d.isRow = true) (hi : (Try.prog.info? t).map (·.size) = some cs.size) :
    (Instr.loadAt t (.pointer (some ⟨g, 0, none⟩))).run Try.prog w = .ok (.agg cs) w := by
  have := run_loadAt_mid (P := Try.prog) w g 0 t cs.toList d (fun j v hj => by rw [Nat.zero_add, h.cell, ← Array.getElem?_toList]; exact hj) hu hd (by rw [Array.length_toList]; exact hi)
  rw [Array.toArray_toList] at this
  exact this
/-- a part of a block -/
theorem load_part {w : World} {g o : Nat} {t t' : TypeId} {cs cs' : Array Value} (h : Blk w g t' cs) {d : TypeDesc} (hu : Try.prog.underlying t = some d) (hd : d.isRow = true) (hi : (Try.prog.info? t).map (·.size) = some cs'.size) (hp : ∀ j, j < cs'.size → cs[o + j]? = cs'[j]?) :
    (Instr.loadAt t (.pointer (some ⟨g, o, none⟩))).run Try.prog w = .ok (.agg cs') w := by
  have := run_loadAt_mid (P := Try.prog) w g o t cs'.toList d (fun j v hj => by
    rw [h.cell, hp j (by have := (List.getElem?_eq_some_iff.1 hj).1; simpa using this), ← Array.getElem?_toList]; exact hj) hu hd (by rw [Array.length_toList]; exact hi)
  rw [Array.toArray_toList] at this
  exact this
/-- the cells of the row -/
theorem row_cells {w : World} {B g n c : Nat} {W : Nat → Wt} (h : w.ownsRow B 59 130 (.slice (some ⟨g, 0, none⟩) n c) n (flat W n)) :
    ∃ cur, Blk w g 59 cur ∧ ∀ k j, k < n → j < 130 → cur[k * 130 + j]? = (waitA (W k))[j]? := by
  rcases h.2 with ⟨e, _⟩ | ⟨g', cap, cur, e, _, hg, _, _, hs, ht⟩
  · simp at e
  · simp only [Value.slice.injEq, Option.some.injEq, Addr.mk.injEq] at e
    obtain ⟨⟨e, _⟩, _⟩ := e
    subst e
    refine ⟨cur, hg, fun k j hk hj => ?_⟩
    have h1 := flat_get W hj hk
    rw [← ht, List.getElem?_take_of_lt (by omega), Array.getElem?_toList] at h1
    exact h1
theorem load_row {w : World} {B g n c : Nat} {W : Nat → Wt} (h : w.ownsRow B 59 130 (.slice (some ⟨g, 0, none⟩) n c) n (flat W n)) {k : Nat} (hk : k < n) :
    (Instr.loadAt 59 (.pointer (some ⟨g, k * 130, none⟩))).run Try.prog w = .ok (.agg (waitA (W k))) w := by
  obtain ⟨cur, hb, hc⟩ := row_cells h
  exact load_part hb Try.underlying59 rfl (by rw [waitA_size]; exact isize_waiting) (fun j hj => hc k j hk (by rw [waitA_size] at hj; exact hj))
theorem waitA_head (v : Wt) : ∀ j, j < (#[Value.int .i64 (v.d : Int), .int .i64 (v.a : Int)] : Array Value).size → (waitA v)[0 + j]? = (#[Value.int .i64 (v.d : Int), .int .i64 (v.a : Int)] : Array Value)[j]? := by
  intro j hj
  unfold waitA
  rw [Nat.zero_add, Array.getElem?_append_left hj]
theorem waitA_tail (v : Wt) : ∀ j, j < (secA v.x).size → (waitA v)[2 + j]? = (secA v.x)[j]? := by
  intro j hj
  unfold waitA
  rw [Array.getElem?_append_right (by simp)]
  congr 1
  simp

theorem loadVar_blk {w : World} {g : Nat} {t : TypeId} {cs : Array Value} (h : Blk w g t cs) {d : TypeDesc} (hu : Try.prog.underlying t = some d) (hd : d.isRow = true) (hi : (Try.prog.info? t).map (·.size) = some cs.size) :
    (loadVar t ⟨g, 0, none⟩).run Try.prog w = .ok (.agg cs) w := by
  have := run_loadVar_mid (P := Try.prog) w g 0 t cs.toList d (fun j v hj => by rw [Nat.zero_add, h.cell, ← Array.getElem?_toList]; exact hj) hu hd (by rw [Array.length_toList]; exact hi)
  rw [Array.toArray_toList] at this
  exact this
/-- a block stored whole -/
theorem store_blk {w : World} {g : Nat} {t : TypeId} {cs cs' : Array Value} (h : Blk w g t cs) (hi : (Try.prog.info? t).map (·.size) = some cs'.size) (hs : cs.size = cs'.size) (h1 : cs'.all (·.oneCell') = true) :
    ∃ w', (Instr.storeAt t (.pointer (some ⟨g, 0, none⟩)) (.agg cs')).run Try.prog w = .ok () w' ∧ Blk w' g t cs' ∧ w.grownBy w' (some g) ∧ w'.heap.size = w.heap.size := by
  refine ⟨w.setRow g cs', ?_, ?_, ⟨rfl, rfl, rfl, by simp [World.setRow], fun k hk hne => ?_⟩, by simp [World.setRow]⟩
  · simp only [Instr.storeAt, Instr.sureAddr, Sem.run_bind, Sem.run_pure, Result.andThen_ok]
    rw [run_storeVar_row _ _ t t cs cs' h hi hs h1]
  · unfold Blk at h ⊢
    simp [World.setRow, Array.getElem?_modify, h]
  · simp only [World.setRow, Array.getElem?_modify]
    rw [if_neg (fun e => hne (by rw [e]))]
theorem wpList_loadX {w : World} {ops : Array Oper} {rest : List Oper} {op : Oper} {a : Act} {Q : Exit → Act → World → Prop} (hgd : op.guard = none) (ty : TypeId) (x : Operand) (ho : op.op = .load ty x) (p v : Value) (hx : a.eval x = p)
    (hl : (Instr.loadAt ty p).run Try.prog w = .ok v w) (h : wpList Try.prog ops Q rest (a.put op.dst v) w) : wpList Try.prog ops Q (op :: rest) a w := by
  refine wpList_plain hgd fun K hK => ?_
  unfold Oper.wp execOp
  simp only [ho, hx, hl, Sem.run_bind, Sem.run_pure, Result.andThen_ok]
  exact hK _ _ h
theorem wpList_storeX {w w' : World} {ops : Array Oper} {rest : List Oper} {op : Oper} {a : Act} {Q : Exit → Act → World → Prop} (hgd : op.guard = none) (ty : TypeId) (x y : Operand) (ho : op.op = .store ty x y) (p v : Value) (hx : a.eval x = p) (hy : a.eval y = v)
    (hl : (Instr.storeAt ty p v).run Try.prog w = .ok () w') (h : wpList Try.prog ops Q rest (a.put op.dst undef) w') : wpList Try.prog ops Q (op :: rest) a w := by
  refine wpList_plain hgd fun K hK => ?_
  unfold Oper.wp execOp
  simp only [ho, hx, hy, hl, Sem.run_bind, Sem.run_pure, Result.andThen_ok]
  exact hK _ _ h
theorem wpList_allocX {w w' : World} {ops : Array Oper} {rest : List Oper} {op : Oper} {a : Act} {Q : Exit → Act → World → Prop} (hgd : op.guard = none) (ty : TypeId) (ho : op.op = .alloc ty) (v : Value)
    (hl : (Instr.alloc ty true (.tuple #[])).run Try.prog w = .ok v w') (h : wpList Try.prog ops Q rest (a.put op.dst v) w') : wpList Try.prog ops Q (op :: rest) a w := by
  refine wpList_plain hgd fun K hK => ?_
  unfold Oper.wp execOp
  simp only [ho, hl, Sem.run_bind, Sem.run_pure, Result.andThen_ok]
  exact hK _ _ h
theorem wpList_assignX {w : World} {ops : Array Oper} {rest : List Oper} {op : Oper} {a : Act} {Q : Exit → Act → World → Prop} (hgd : op.guard = none) (x : Operand) (ho : op.op = .assign x) (v : Value) (hx : a.eval x = v)
    (h : wpList Try.prog ops Q rest (a.put op.dst v) w) : wpList Try.prog ops Q (op :: rest) a w := by
  refine wpList_plain hgd fun K hK => ?_
  unfold Oper.wp execOp
  simp only [ho, hx, Sem.run_pure]
  exact hK _ _ h
theorem of_hid {p : Prop} (h : Hid p) : p := h
theorem alloc_waiting (w : World) : (Instr.alloc 59 true (.tuple #[])).run Try.prog w = .ok (.pointer (some ⟨w.heap.size, 0, none⟩)) (w.alloc (.cells (waitA ⟨0, 0, zeros⟩) 59)) := by kernel_rfl
theorem alloc_sector (w : World) : (Instr.alloc 57 true (.tuple #[])).run Try.prog w = .ok (.pointer (some ⟨w.heap.size, 0, none⟩)) (w.alloc (.cells (secA zeros) 57)) := by kernel_rfl
theorem store_newW (w : World) (v v' : Wt) : (Instr.storeAt 59 (.pointer (some ⟨w.heap.size, 0, none⟩)) (.agg (waitA v'))).run Try.prog (w.alloc (.cells (waitA v) 59)) = .ok () (w.alloc (.cells (waitA v') 59)) :=
  run_storeAt_new w _ _ _ (by rw [waitA_size]; exact isize_waiting) (by rw [waitA_size, waitA_size]) (waitA_one v')
theorem store_newS (w : World) (x y : Nat → Nat) : (Instr.storeAt 57 (.pointer (some ⟨w.heap.size, 0, none⟩)) (.agg (secA y))).run Try.prog (w.alloc (.cells (secA x) 57)) = .ok () (w.alloc (.cells (secA y) 57)) :=
  run_storeAt_new w _ _ _ (by rw [secA_size]; exact isize_sector) (by rw [secA_size, secA_size]) (secA_one y)
/-- the place of a waiting write that lies in a block of its own -/
theorem load_wplace {w : World} {g : Nat} {v : Wt} (h : Blk w g 59 (waitA v)) : (Instr.loadAt 54 (.pointer (some ⟨g, 0, none⟩))).run Try.prog w = .ok (pkey v.d v.a) w :=
  load_part h Try.underlying54 rfl (by simpa using isize_place) (waitA_head v)
theorem wplace0 {w : World} {g : Nat} {v : Wt} (h : Blk w g 59 (waitA v)) : w.cell? ⟨g, 0, none⟩ = some (.int .i64 (v.d : Int)) := (h.cell 0).trans (waitA_head v 0 (by simp))
theorem wplace1 {w : World} {g : Nat} {v : Wt} (h : Blk w g 59 (waitA v)) : w.cell? ⟨g, 1, none⟩ = some (.int .i64 (v.a : Int)) := (h.cell 1).trans (waitA_head v 1 (by simp))
theorem load_wsector {w : World} {g : Nat} {v : Wt} (h : Blk w g 59 (waitA v)) : (Instr.loadAt 57 (.pointer (some ⟨g, 2, none⟩))).run Try.prog w = .ok (.agg (secA v.x)) w :=
  load_part h Try.underlying57 rfl (by rw [secA_size]; exact isize_sector) (waitA_tail v)

/-- what 'await' turns of a rack: what waits -/
structure Reset (s s' : RS) : Prop where
  nd : s'.nd = s.nd
  ns : s'.ns = s.ns
  gone : s'.gone = s.gone
  off : s'.off = s.off
  armed : s'.armed = s.armed
  left : s'.left = s.left
theorem Reset.cells {s s' : RS} (h : Reset s s') (m1 m2 m2' : Nat) (v v' : Value) (j : Nat) (h3 : j ≠ 3) (h4 : j ≠ 4) : rackCell s' m1 v' m2' j = rackCell s m1 v m2 j := by
  unfold rackCell
  rw [h.nd, h.ns, h.gone, h.off, h.armed, h.left, if_neg h3, if_neg h4, if_neg h3, if_neg h4]

theorem blk_new2 (w : World) (o : Obj) (cs : Array Value) (t : TypeId) : Blk ((w.alloc o).alloc (.cells cs t)) (w.heap.size + 1) t cs := by
  have := Blk.new (w.alloc o) t cs
  simpa using this
theorem zero_int (w : World) : (Sem.run Try.prog (zeroValue 3) w) = .ok (.int .i64 0) w := by kernel_rfl
theorem wpList_storeBlk {w : World} {ops : Array Oper} {rest : List Oper} {op : Oper} {a : Act} {Q : Exit → Act → World → Prop} (hgd : op.guard = none) (ty : TypeId) (x y : Operand) (ho : op.op = .store ty x y) (g : Nat) (cs cs' : Array Value)
    (hx : a.eval x = .pointer (some ⟨g, 0, none⟩)) (hy : a.eval y = .agg cs') (hb : Blk w g ty cs) (hi : (Try.prog.info? ty).map (·.size) = some cs'.size) (hs : cs.size = cs'.size) (h1 : cs'.all (·.oneCell') = true)
    (h : ∀ w', Blk w' g ty cs' → w.grownBy w' (some g) → w'.heap.size = w.heap.size → wpList Try.prog ops Q rest (a.put op.dst undef) w') : wpList Try.prog ops Q (op :: rest) a w := by
  obtain ⟨w', e1, e2, e3, e4⟩ := store_blk hb hi hs h1
  exact wpList_storeX hgd ty x y ho _ _ hx hy e1 (h w' e2 e3 e4)
/-- the sector of one of the row's elements -/
theorem load_rowS {w : World} {B g n c : Nat} {W : Nat → Wt} (h : w.ownsRow B 59 130 (.slice (some ⟨g, 0, none⟩) n c) n (flat W n)) {k : Nat} (hk : k < n) :
    (Instr.loadAt 57 (.pointer (some ⟨g, k * 130 + 2, none⟩))).run Try.prog w = .ok (.agg (secA (W k).x)) w := by
  obtain ⟨cur, hb, hc⟩ := row_cells h
  exact load_part hb Try.underlying57 rfl (by rw [secA_size]; exact isize_sector) (fun j hj => by
    rw [secA_size] at hj
    rw [Nat.add_assoc, hc k (2 + j) hk (by omega), waitA_tail _ _ (by rw [secA_size]; exact hj)])
theorem own_slice {w : World} {B n : Nat} {e : TypeId} {c : Nat} {v : Value} {xs : List Value} (h : w.ownsRow B e c v n xs) (hn : 0 < n) : ∃ g cap, v = .slice (some ⟨g, 0, none⟩) n cap := by
  rcases h.2 with ⟨_, e⟩ | ⟨g, cap, cur, e, _⟩
  · omega
  · exact ⟨g, cap, e⟩
theorem results_cell {fn : Func} {t : Tmp} {ty : TypeId} (h : fn.results = #[.cell t ty]) {tmps : Array Value} {g : Nat} {v : Value} {w : World} (hp : tmps.getD t undef = .pointer (some ⟨g, 0, none⟩)) (hl : (loadVar ty ⟨g, 0, none⟩).run Try.prog w = .ok v w) :
    (results fn tmps).run Try.prog w = .ok v w := by
  have hp2 : tmps[t]?.getD undef = .pointer (some ⟨g, 0, none⟩) := by rw [← hp]; simp
  simp [results, h]
  rw [hp2]
  simp [asAddr, hl]
end Go.Proofs.Ytlbmeaioiiflkaa
