/-
 Loads and stores of whole blocks, results that lie in a block. Conditions: what lies in memory.
-/
import Derived.Test.YtgbehfkimchglaaGreatDoorRackMapM
import Derived.Lib.Hide
import Derived.Test.YtgbehfkimchglaaGreatDoorRackPowerM
import Derived.WalkSpells
import Derived.Laws.AppendOwn
import Derived.Laws.BytesArg
import Derived.Laws.StructEq
namespace Go.Proofs.YtgbehfkimchglaaGreatDoor
set_option maxRecDepth 100000
open Go.RowKit
set_option linter.unusedVariables false
theorem load_blk {w : World} {g : Nat} {t : TypeId} {cs : Array Value} (h : Blk w g t cs) {d : TypeDesc} (hu : Tryz.prog.underlying t = some d) (hd : d.isRow = true) (hi : (Tryz.prog.info? t).map (·.size) = some cs.size) :
  (Instr.loadAt t (.pointer (some ⟨g, 0, none⟩))).run Tryz.prog w = .ok (.agg cs) w := by
 have := run_loadAt_mid (P := Tryz.prog) w g 0 t cs.toList d (fun j v hj => by rw [Nat.zero_add, h.cell, ← Array.getElem?_toList]; exact hj) hu hd (by rw [Array.length_toList]; exact hi)
 rw [Array.toArray_toList] at this
 exact this
theorem load_part {w : World} {g o : Nat} {t t' : TypeId} {cs cs' : Array Value} (h : Blk w g t' cs) {d : TypeDesc} (hu : Tryz.prog.underlying t = some d) (hd : d.isRow = true) (hi : (Tryz.prog.info? t).map (·.size) = some cs'.size) (hp : ∀ j, j < cs'.size → cs[o + j]? = cs'[j]?) :
  (Instr.loadAt t (.pointer (some ⟨g, o, none⟩))).run Tryz.prog w = .ok (.agg cs') w := by
 have := run_loadAt_mid (P := Tryz.prog) w g o t cs'.toList d (fun j v hj => by
  rw [h.cell, hp j (by have := (List.getElem?_eq_some_iff.1 hj).1; simpa using this), ← Array.getElem?_toList]; exact hj) hu hd (by rw [Array.length_toList]; exact hi)
 rw [Array.toArray_toList] at this
 exact this
theorem loadVar_blk {w : World} {g : Nat} {t : TypeId} {cs : Array Value} (h : Blk w g t cs) {d : TypeDesc} (hu : Tryz.prog.underlying t = some d) (hd : d.isRow = true) (hi : (Tryz.prog.info? t).map (·.size) = some cs.size) :
  (loadVar t ⟨g, 0, none⟩).run Tryz.prog w = .ok (.agg cs) w := by
 have := run_loadVar_mid (P := Tryz.prog) w g 0 t cs.toList d (fun j v hj => by rw [Nat.zero_add, h.cell, ← Array.getElem?_toList]; exact hj) hu hd (by rw [Array.length_toList]; exact hi)
 rw [Array.toArray_toList] at this
 exact this
theorem store_blk {w : World} {g : Nat} {t : TypeId} {cs cs' : Array Value} (h : Blk w g t cs) (hi : (Tryz.prog.info? t).map (·.size) = some cs'.size) (hs : cs.size = cs'.size) (h1 : cs'.all (·.oneCell') = true) :
  ∃ w', (Instr.storeAt t (.pointer (some ⟨g, 0, none⟩)) (.agg cs')).run Tryz.prog w = .ok () w' ∧ Blk w' g t cs' ∧ w.grownBy w' (some g) ∧ w'.heap.size = w.heap.size := by
 refine ⟨w.setRow g cs', ?_, ?_, ⟨rfl, rfl, rfl, by simp [World.setRow], fun k hk hne => ?_⟩, by simp [World.setRow]⟩
 ·simp only [Instr.storeAt, Instr.sureAddr, Sem.run_bind, Sem.run_pure, Result.andThen_ok]
  rw [run_storeVar_row _ _ t t cs cs' h hi hs h1]
 ·unfold Blk at h ⊢
  simp [World.setRow, Array.getElem?_modify, h]
 ·simp only [World.setRow, Array.getElem?_modify]
  rw [if_neg (fun e => hne (by rw [e]))]
theorem wpList_loadX {w : World} {ops : Array Oper} {rest : List Oper} {op : Oper} {a : Act} {Q : Exit → Act → World → Prop} (hgd : op.guard = none) (ty : TypeId) (x : Operand) (ho : op.op = .load ty x) (p v : Value) (hx : a.eval x = p)
  (hl : (Instr.loadAt ty p).run Tryz.prog w = .ok v w) (h : wpList Tryz.prog ops Q rest (a.put op.dst v) w) : wpList Tryz.prog ops Q (op :: rest) a w := by
 refine wpList_plain hgd fun K hK => ?_
 unfold Oper.wp execOp
 simp only [ho, hx, hl, Sem.run_bind, Sem.run_pure, Result.andThen_ok]
 exact hK _ _ h
theorem wpList_storeX {w w' : World} {ops : Array Oper} {rest : List Oper} {op : Oper} {a : Act} {Q : Exit → Act → World → Prop} (hgd : op.guard = none) (ty : TypeId) (x y : Operand) (ho : op.op = .store ty x y) (p v : Value) (hx : a.eval x = p) (hy : a.eval y = v)
  (hl : (Instr.storeAt ty p v).run Tryz.prog w = .ok () w') (h : wpList Tryz.prog ops Q rest (a.put op.dst undef) w') : wpList Tryz.prog ops Q (op :: rest) a w := by
 refine wpList_plain hgd fun K hK => ?_
 unfold Oper.wp execOp
 simp only [ho, hx, hy, hl, Sem.run_bind, Sem.run_pure, Result.andThen_ok]
 exact hK _ _ h
theorem wpList_allocX {w w' : World} {ops : Array Oper} {rest : List Oper} {op : Oper} {a : Act} {Q : Exit → Act → World → Prop} (hgd : op.guard = none) (ty : TypeId) (ho : op.op = .alloc ty) (v : Value)
  (hl : (Instr.alloc ty true (.tuple #[])).run Tryz.prog w = .ok v w') (h : wpList Tryz.prog ops Q rest (a.put op.dst v) w') : wpList Tryz.prog ops Q (op :: rest) a w := by
 refine wpList_plain hgd fun K hK => ?_
 unfold Oper.wp execOp
 simp only [ho, hl, Sem.run_bind, Sem.run_pure, Result.andThen_ok]
 exact hK _ _ h
theorem wpList_assignX {w : World} {ops : Array Oper} {rest : List Oper} {op : Oper} {a : Act} {Q : Exit → Act → World → Prop} (hgd : op.guard = none) (x : Operand) (ho : op.op = .assign x) (v : Value) (hx : a.eval x = v)
  (h : wpList Tryz.prog ops Q rest (a.put op.dst v) w) : wpList Tryz.prog ops Q (op :: rest) a w := by
 refine wpList_plain hgd fun K hK => ?_
 unfold Oper.wp execOp
 simp only [ho, hx, Sem.run_pure]
 exact hK _ _ h
theorem of_hid {p : Prop} (h : Hid p) : p := h
theorem blk_new2 (w : World) (o : Obj) (cs : Array Value) (t : TypeId) : Blk ((w.alloc o).alloc (.cells cs t)) (w.heap.size + 1) t cs := by
 have := Blk.new (w.alloc o) t cs
 simpa using this
theorem wpList_storeBlk {w : World} {ops : Array Oper} {rest : List Oper} {op : Oper} {a : Act} {Q : Exit → Act → World → Prop} (hgd : op.guard = none) (ty : TypeId) (x y : Operand) (ho : op.op = .store ty x y) (g : Nat) (cs cs' : Array Value)
  (hx : a.eval x = .pointer (some ⟨g, 0, none⟩)) (hy : a.eval y = .agg cs') (hb : Blk w g ty cs) (hi : (Tryz.prog.info? ty).map (·.size) = some cs'.size) (hs : cs.size = cs'.size) (h1 : cs'.all (·.oneCell') = true)
  (h : ∀ w', Blk w' g ty cs' → w.grownBy w' (some g) → w'.heap.size = w.heap.size → wpList Tryz.prog ops Q rest (a.put op.dst undef) w') : wpList Tryz.prog ops Q (op :: rest) a w := by
 obtain ⟨w', e1, e2, e3, e4⟩ := store_blk hb hi hs h1
 exact wpList_storeX hgd ty x y ho _ _ hx hy e1 (h w' e2 e3 e4)
theorem results_cell {fn : Func} {t : Tmp} {ty : TypeId} (h : fn.results = #[.cell t ty]) {tmps : Array Value} {g : Nat} {v : Value} {w : World} (hp : tmps.getD t undef = .pointer (some ⟨g, 0, none⟩)) (hl : (loadVar ty ⟨g, 0, none⟩).run Tryz.prog w = .ok v w) :
  (results fn tmps).run Tryz.prog w = .ok v w := by
 have hp2 : tmps[t]?.getD undef = .pointer (some ⟨g, 0, none⟩) := by rw [← hp]; simp
 simp [results, h]
 rw [hp2]
 simp [asAddr, hl]
end Go.Proofs.YtgbehfkimchglaaGreatDoor
namespace Go.Proofs.YtgbehfkimchglaaGreatDoor
set_option maxRecDepth 100000
open Go.RowKit
set_option linter.unusedVariables false
theorem zero_waiting (w : World) : (Sem.run Tryz.prog (zeroValue 176) w) = .ok (.agg (waitA ⟨0, 0, zeros⟩)) w := by kernel_rfl
theorem isize_waiting : (Tryz.prog.info? 176).map (·.size) = some 130 := by kernel_rfl
theorem row_cells {w : World} {B g n c : Nat} {W : Nat → Wt} (h : w.ownsRow B 176 130 (.slice (some ⟨g, 0, none⟩) n c) n (flat W n)) :
  ∃ cur, Blk w g 176 cur ∧ ∀ k j, k < n → j < 130 → cur[k * 130 + j]? = (waitA (W k))[j]? := by
 rcases h.2 with ⟨e, _⟩ | ⟨g', cap, cur, e, _, hg, _, _, hs, ht⟩
 ·simp at e
 ·simp only [Value.slice.injEq, Option.some.injEq, Addr.mk.injEq] at e
  obtain ⟨⟨e, _⟩, _⟩ := e
  subst e
  refine ⟨cur, hg, fun k j hk hj => ?_⟩
  have h1 := flat_get W hj hk
  rw [← ht, List.getElem?_take_of_lt (by omega), Array.getElem?_toList] at h1
  exact h1
theorem load_row {w : World} {B g n c : Nat} {W : Nat → Wt} (h : w.ownsRow B 176 130 (.slice (some ⟨g, 0, none⟩) n c) n (flat W n)) {k : Nat} (hk : k < n) :
  (Instr.loadAt 176 (.pointer (some ⟨g, k * 130, none⟩))).run Tryz.prog w = .ok (.agg (waitA (W k))) w := by
 obtain ⟨cur, hb, hc⟩ := row_cells h
 exact load_part hb Tryz.underlying176 rfl (by rw [waitA_size]; exact isize_waiting) (fun j hj => hc k j hk (by rw [waitA_size] at hj; exact hj))
theorem waitA_head (v : Wt) : ∀ j, j < (#[Value.int .i64 (v.d : Int), .int .i64 (v.a : Int)] : Array Value).size → (waitA v)[0 + j]? = (#[Value.int .i64 (v.d : Int), .int .i64 (v.a : Int)] : Array Value)[j]? := by
 intro j hj
 unfold waitA
 rw [Nat.zero_add, Array.getElem?_append_left hj]
theorem alloc_waiting (w : World) : (Instr.alloc 176 true (.tuple #[])).run Tryz.prog w = .ok (.pointer (some ⟨w.heap.size, 0, none⟩)) (w.alloc (.cells (waitA ⟨0, 0, zeros⟩) 176)) := by kernel_rfl
theorem store_newW (w : World) (v v' : Wt) : (Instr.storeAt 176 (.pointer (some ⟨w.heap.size, 0, none⟩)) (.agg (waitA v'))).run Tryz.prog (w.alloc (.cells (waitA v) 176)) = .ok () (w.alloc (.cells (waitA v') 176)) :=
 run_storeAt_new w _ _ _ (by rw [waitA_size]; exact isize_waiting) (by rw [waitA_size, waitA_size]) (waitA_one v')
theorem wplace0 {w : World} {g : Nat} {v : Wt} (h : Blk w g 176 (waitA v)) : w.cell? ⟨g, 0, none⟩ = some (.int .i64 (v.d : Int)) := (h.cell 0).trans (waitA_head v 0 (by simp))
theorem wplace1 {w : World} {g : Nat} {v : Wt} (h : Blk w g 176 (waitA v)) : w.cell? ⟨g, 1, none⟩ = some (.int .i64 (v.a : Int)) := (h.cell 1).trans (waitA_head v 1 (by simp))
structure Reset (s s' : RS) : Prop where
 nd : s'.nd = s.nd
 ns : s'.ns = s.ns
 gone : s'.gone = s.gone
 off : s'.off = s.off
 armed : s'.armed = s.armed
 left : s'.left = s.left
theorem Reset.cells {s s' : RS} (h : Reset s s') (m1 m2 m2' : Nat) (v v' : Value) (j : Nat) (h3 : j ≠ 3) (h4 : j ≠ 4) : rackCell s' m1 v' m2' j = rackCell s m1 v m2 j := by
 unfold rackCell
 rw [h.nd, h.ns, h.gone, h.off, h.armed, h.left, if_neg h3, if_neg h4, if_neg h3, if_neg h4]
end Go.Proofs.YtgbehfkimchglaaGreatDoor
namespace Go.Proofs.YtgbehfkimchglaaGreatDoor
set_option maxRecDepth 100000
open Go.RowKit
set_option linter.unusedVariables false
set_option maxRecDepth 100000 in
set_option maxHeartbeats 400000 in
theorem await_any (B : Nat) (w : World) (r m1 : Nat) (A : Option Addr) (n c : Nat) (s s' : RS) (hrs : Reset s s') (cs : Array Value) (hb : Blk w r 128 cs) (hcs : cs.size = 24) (hcell : ∀ j, j < 24 → j ≠ 3 → j ≠ 4 → cs[j]? = some (rackCell s m1 (.slice A n c) 0 j)) (hr : B ≤ r) (h1 : B ≤ m1) (hm1 : m1 ≠ r)
  (hn : n = s'.nw) (hl : ∃ n F, n + s'.nw ≤ s'.cost ∧ MapS w m1 n F ∧ ∀ d a, d < 4611686018427387904 → a < 4611686018427387904 → (F d a).getD (.agg (secA zeros)) = .agg (secA (s'.last d a)))
  (hrow : w.ownsRow B 176 130 (.slice A n c) n (flat s'.W n)) (hok : s'.ok) :
  Calls Tryz.prog 55 #[.pointer (some ⟨r, 0, none⟩), .slice A n c] w fun e w' => e = .returned (.tuple #[]) ∧ RackAt B w' r s' ∧ Keep B w w' := by
 have hc3 : ∃ x, w.cell? ⟨r, 3, none⟩ = some x := by
  rw [hb.cell]
  exact ⟨_, Array.getElem?_eq_getElem (by omega)⟩
 have hc4 : ∃ x, w.cell? ⟨r, 4, none⟩ = some x := by
  rw [hb.cell]
  exact ⟨_, Array.getElem?_eq_getElem (by omega)⟩
 obtain ⟨x3, c3⟩ := hc3
 obtain ⟨x4, c4⟩ := hc4
 have f3 := hb.frozen 3
 have f4 := hb.frozen 4
 have hlt := hb.lt
 -- the rack with an empty second map
 have b1 := hb.set_ 3 (.slice A n c)
 have b2 := (b1.set_ 4 (.map (some w.heap.size))).alloc (.map #[] 0)
 have e2 : (cs.setIfInBounds 3 (.slice A n c)).setIfInBounds 4 (.map (some w.heap.size)) = rackA s' m1 (.slice A n c) w.heap.size := by
  apply Array.ext_getElem?
  intro j
  rw [Array.getElem?_setIfInBounds, Array.getElem?_setIfInBounds, Array.size_setIfInBounds, hcs]
  by_cases hj : j < 24
  ·rw [rackA_get _ _ _ _ hj]
   by_cases j4 : 4 = j
   ·subst j4; rfl
   ·rw [if_neg j4]
    by_cases j3 : 3 = j
    ·subst j3; rfl
    ·rw [if_neg j3, hcell j hj (fun e => j3 e.symm) (fun e => j4 e.symm), hrs.cells m1 0 w.heap.size (.slice A n c) (.slice A n c) j (fun e => j3 e.symm) (fun e => j4 e.symm)]
  ·rw [if_neg (by omega), if_neg (by omega), Array.getElem?_eq_none (by omega), Array.getElem?_eq_none (by simp [rackA]; omega)]
 rw [e2] at b2
 obtain ⟨nl, F, g1, g2, g3⟩ := hl
 have hrn : (Value.slice A n c).ownBlock ≠ some r := fun e => by
  obtain ⟨_, cs', hb'⟩ := own_blk hrow e
  exact Blk.ne_ hb' hb (by decide) rfl
 have R0 : RackK B (((w.setCell ⟨r, 3, none⟩ (.slice A n c)).setCell ⟨r, 4, none⟩ (.map (some w.heap.size))).alloc (.map #[] 0)) r m1 w.heap.size (.slice A n c) s' 0 := by
  have hsz : ((w.setCell ⟨r, 3, none⟩ (.slice A n c)).setCell ⟨r, 4, none⟩ (.map (some w.heap.size))).heap.size = w.heap.size := by simp [World.setCell]
  refine ⟨b2, hr, h1, Nat.le_trans hr (Nat.le_of_lt hlt), ?_, ⟨nl, F, g1, (((g2.setCell (p := ⟨r, 3, none⟩) hm1 _).setCell (p := ⟨r, 4, none⟩) hm1 _).alloc _), g3⟩, ?_, ?_⟩
  ·have := g2.lt
   omega
  ·have := MapFp.made (okv := anyV) ((w.setCell ⟨r, 3, none⟩ (.slice A n c)).setCell ⟨r, 4, none⟩ (.map (some w.heap.size)))
   rw [hsz] at this
   exact this
  ·rw [← hn]
   refine ⟨hrow.1, ?_⟩
   rcases hrow.2 with e | ⟨g, cap, cur, e, k1, k2, k3⟩
   ·exact .inl e
   ·refine .inr ⟨g, cap, cur, e, k1, ?_, k3⟩
    have hgr : g ≠ r := fun x => hrn (by rw [e, x]; rfl)
    have hg : Blk w g 176 cur := k2
    exact ((hg.far (p := ⟨r, 3, none⟩) hgr _).far (p := ⟨r, 4, none⟩) hgr _).alloc _
 have K0 : Keep B w (((w.setCell ⟨r, 3, none⟩ (.slice A n c)).setCell ⟨r, 4, none⟩ (.map (some w.heap.size))).alloc (.map #[] 0)) :=
  (((Keep.refl B w).setRack hb hr 3 _).setRack b1 hr 4 _).alloc (by simp [World.setCell]; omega) _
 have R := Lib.hid R0
 have K := Lib.hid K0
 have OK := Lib.hid hok
 have hcost := hok.cost
 have hmk : ∀ w : World, (Instr.makeMap 125 none).run Tryz.prog w = .ok (.map (some w.heap.size)) (w.alloc (.map #[] 0)) := fun w => by kernel_rfl
 have HN := Lib.hid hn
 have hrowA : Hid (0 < n → ∃ g, A = some ⟨g, 0, none⟩) := by
  intro h0
  rcases hrow.2 with ⟨_, e⟩ | ⟨g, cap, cur, e, _⟩
  ·omega
  ·injection e with e _
   exact ⟨g, e⟩
 have hn6 : n ≤ 1000000 := by omega
 clear hn
 clear R0 K0 b1 b2 e2 hrow hb hcell hok g2 g3 hrn
 go_enter Tryz.func55, Tryz.ntmps55
 go_wp2_with fail
 go_loopw [16] (fun x wr => ∃ k : Nat, k ≤ n ∧ x = .int .i64 k ∧ Hid (RackK B wr r m1 w.heap.size (.slice A n c) s' k) ∧ Hid (Keep B w wr)) (fun x _ => n - (intOf x).toNat)
 case atStart => exact ⟨0, by omega, rfl, R, K⟩
 case round =>
  obtain ⟨k, hk, rfl, R1, K1⟩ := hrel
  clear R K
  by_cases hlt2 : k < n
  ·obtain ⟨g, rfl⟩ := hrowA.out (by omega)
   have hld := load_row (W := s'.W) (g := g) (c := c) (n := n) (by have := R1.out.row; rw [← HN.out] at this; exact this) hlt2
   have i1 : (0 : Int) ≤ (k : Int) := by omega
   have i2 : (k : Int) < (n : Int) := by omega
   go_wp2_with (refine wpList_loadX rfl 176 _ rfl _ _ rfl hld ?_; refine of_hid ?_)
   refine Lib.hid ?_
   refine wpList_allocX rfl 176 rfl _ (alloc_waiting _) ?_
   refine wpList_assignX rfl _ rfl _ rfl ?_
   refine wpList_storeX rfl 176 (.tmp 5) (.tmp 20) rfl (.pointer (some ⟨wr.heap.size, 0, none⟩)) (.agg (waitA (s'.W k))) rfl rfl (store_newW wr ⟨0, 0, zeros⟩ (s'.W k)) ?_
   have hbx := Lib.hid (Blk.new wr 176 (waitA (s'.W k)))
   have R2 := Lib.hid (R1.out.alloc (.cells (waitA (s'.W k)) 176))
   have K2 := Lib.hid (K1.out.alloc R1.out.le (.cells (waitA (s'.W k)) 176))
   generalize wr.heap.size = bx at *
   clear R1 K1 hld
   generalize wr.alloc (.cells (waitA (s'.W k)) 176) = w2 at *
   have c4' := R2.out.c4
   have hb0 := wplace0 hbx.out
   have hb1 := wplace1 hbx.out
   have hw := OK.out.wp k (by rw [← HN.out]; exact hlt2)
   go_wp2_with fail
   refine region_quiet_tail 7 (by kernel_rfl) (by kernel_rfl) ?_
   simp only [List.take_succ_cons, List.take_zero, List.drop_succ_cons, List.drop_zero]
   repeat (quiet_step (fail))
   refine wpQuiet_nil ?_
   rintro _ ⟨nq, rfl⟩
   refine wpList_mapPut rfl _ _ _ 125 3 rfl Tryz.underlying125 w.heap.size k _ rfl (R2.out.newest.drewN nq) (by simp only [maxLen]; have := R2.out.nw_le; rw [← HN.out] at this; omega) (s'.W k).d (s'.W k).a (by have := OK.out.nd2; omega) (by have := OK.out.ns2; omega) (.int .i64 (k : Int)) rfl rfl rfl ?_
   intro w3 hm3 hg3 hs3
   have R3 : Hid (RackK B w3 r m1 w.heap.size (.slice (some ⟨g, 0, none⟩) n c) s' (k + 1)) := (R2.out.drewN nq).step hg3 hm3
   have K3 : Hid (Keep B w w3) := (K2.out.drewN nq).ofMap (R2.out.newest.drewN nq) hg3 R2.out.h2
   clear hm3 hg3
   go_wp2_with fail
   go_roundw
   case rel => exact ⟨k + 1, by omega, by go_num, R3, K3⟩
   case measure => simp [intOf]; omega
  ·have e : k = n := by omega
   subst e
   go_wp2_with fail
   go_end0
   rw [HN.out] at R1
   exact ⟨rfl, ⟨OK.out, m1, w.heap.size, _, R1.out⟩, K1.out⟩
end Go.Proofs.YtgbehfkimchglaaGreatDoor
namespace Go.Proofs.YtgbehfkimchglaaGreatDoor
set_option maxRecDepth 100000
open Go.RowKit
set_option linter.unusedVariables false
def RS.new (nd ns : Nat) : RS := ⟨nd, ns, fun _ _ => zeros, 0, fun _ => ⟨0, 0, zeros⟩, fun _ => false, false, false, 0, 0⟩
set_option maxRecDepth 100000 in
set_option maxHeartbeats 1600000 in
theorem new_any (w : World) (nd ns : Nat) (h1 : 1 ≤ nd) (h2 : nd ≤ 16) (h3 : 1 ≤ ns) (h4 : ns ≤ 2000) :
  Calls Tryz.prog 17 #[.int .i64 (nd : Int), .int .i64 (ns : Int)] w fun e w' => (∃ r, e = .returned (.tuple #[.pointer (some ⟨r, 0, none⟩), .int .i64 0]) ∧ RackAt w.heap.size w' r (RS.new nd ns)) ∧ Keep w.heap.size w w' := by
 have t1 : ((nd : Int) < 1) = False := by simp; omega
 have t2 : ((16 : Int) < (nd : Int)) = False := by simp; omega
 have t3 : ((ns : Int) < 1) = False := by simp; omega
 have t4 : ((2000 : Int) < (ns : Int)) = False := by simp; omega
 have d1 : decide ((nd : Int) < 1) = false := by simp; omega
 have d2 : decide ((16 : Int) < (nd : Int)) = false := by simp; omega
 have d3 : decide ((ns : Int) < 1) = false := by simp; omega
 have d4 : decide ((2000 : Int) < (ns : Int)) = false := by simp; omega
 have hmk : ∀ w : World, (Instr.makeMap 123 none).run Tryz.prog w = .ok (.map (some w.heap.size)) (w.alloc (.map #[] 0)) := fun w => by kernel_rfl
 go_enter Tryz.func17, Tryz.ntmps17
 go_wp2_with fail
 refine (await_any w.heap.size _ (w.heap.size + 1) w.heap.size none 0 0 (RS.new nd ns) (RS.new nd ns) ⟨rfl, rfl, rfl, rfl, rfl, rfl⟩ _ (blk_new2 w (.map #[] 0) _ _) rfl ?_ (by omega) (by omega) (by omega) rfl ⟨0, _, Nat.le_refl _, (MapFp.made w).alloc _, fun d a _ _ => rfl⟩ ⟨rfl, .inl ⟨rfl, rfl⟩⟩
  ⟨h1, h2, h3, h4, by show 0 ≤ _; omega, by show 0 ≤ _; omega, fun i hi => absurd hi (Nat.not_lt_zero _), fun d a j hj => by show 0 < 256; omega⟩).mono ?_
 ·intro j hj j3 j4
  repeat (rcases j with _ | j; · first | rfl | exact absurd rfl j4)
  omega
 rintro e w2 ⟨rfl, hra, hk⟩
 have HR := Lib.hid hra
 have HK := Lib.hid hk
 clear hra hk
 go_wp2_with fail
 go_ret2
 exact ⟨⟨_, rfl, HR.out⟩, (((Keep.refl _ w).alloc (Nat.le_refl _) _).alloc (by simp) _).trans HK.out⟩
end Go.Proofs.YtgbehfkimchglaaGreatDoor
namespace Go.Proofs.YtgbehfkimchglaaGreatDoor
set_option maxRecDepth 100000
open Go.RowKit
set_option linter.unusedVariables false
theorem own_base {w : World} {B B' n c : Nat} {e : TypeId} {v : Value} {xs : List Value} (h : w.ownsRow B e c v n xs) (hb : B' ≤ B) : w.ownsRow B' e c v n xs := by
 refine ⟨h.1, ?_⟩
 rcases h.2 with e | ⟨g, cap, cur, e, h1, h2⟩
 ·exact .inl e
 ·exact .inr ⟨g, cap, cur, e, by omega, h2⟩
def rowL (n : Nat) (X : Nat → Nat) : List Value := (List.range n).map fun j => Value.int .u8 ((X j : Nat) : Int)
theorem rowL_length (n : Nat) (X : Nat → Nat) : (rowL n X).length = n := by simp [rowL]
theorem rowL_get {n j : Nat} (X : Nat → Nat) (h : j < n) : (rowL n X)[j]? = some (.int .u8 ((X j : Nat) : Int)) := by simp [rowL, h]
end Go.Proofs.YtgbehfkimchglaaGreatDoor
namespace Go.Proofs.YtgbehfkimchglaaGreatDoor
set_option maxRecDepth 100000
open Go Go.RowKit
set_option linter.unusedVariables false
def strB (n : Nat) (X : Nat → Nat) : ByteArray := strOfNums ((List.range n).map fun j => ((X j : Nat) : Int))
theorem strB_list (n : Nat) (X : Nat → Nat) : (strB n X).toList = (List.range n).map fun j => UInt8.ofNat (X j) := by
 rw [ByteArray.toList_eq]
 show ((List.map (fun j => ((X j : Nat) : Int)) (List.range n)).map fun n => UInt8.ofNat n.toNat) = _
 rw [List.map_map]
 rfl
theorem conv_bytes {w : World} {g o n c : Nat} {X : Nat → Nat} {t : TypeId} {cs : Array Value} (h : Blk w g t cs) (hX : ∀ j, j < n → cs[o + j]? = some (.int .u8 ((X j : Nat) : Int))) :
  (convert 76 9 (.slice (some ⟨g, o, none⟩) n c)).run Tryz.prog w = .ok (.string (strB n X)) w :=
 run_convert_bytes_arg w 76 5 Tryz.underlying76 Tryz.underlying5 g o n c _ (by simp) (fun i hi => by
  rw [h.cell, hX i hi]
  simp [List.getD_eq_getElem?_getD, hi]) 9 Tryz.underlying9
end Go.Proofs.YtgbehfkimchglaaGreatDoor
