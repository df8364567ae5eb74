/-
  What 'parity.fault' refuses beside the order of the bad ones, and 'Rebuild' without a bad column, whatever the empty list is. Conditions: columns read as rows of bytes, the bad ones as a row of numbers.
-/
import Derived.Test.YtkbndlnmbbbohaaGreatDoorParHealAll
import Derived.Test.YtkbndlnmbbbohaaGreatDoorParityBoundsWalkM
import Derived.Test.YtkbndlnmbbbohaaGreatDoorArrListsM
import Derived.Test.YtkbndlnmbbbohaaGreatDoorSpcPartM
import Derived.Test.YtkbndlnmbbbohaaGreatDoorRackWriteM
import Derived.Test.YtkbndlnmbbbohaaGreatDoorFieldSumsM
namespace Go.Proofs.YtkbndlnmbbbohaaGreatDoor
open Go Go.RowKit
set_option maxRecDepth 100000
set_option linter.unusedVariables false

end Go.Proofs.YtkbndlnmbbbohaaGreatDoor
namespace Go.Proofs.YtkbndlnmbbbohaaGreatDoor
open Go Go.RowKit
set_option maxRecDepth 100000
set_option linter.unusedVariables false

end Go.Proofs.YtkbndlnmbbbohaaGreatDoor
namespace Go.Proofs.YtkbndlnmbbbohaaGreatDoor
open Go Go.RowKit refRack
set_option maxRecDepth 100000
set_option linter.unusedVariables false
namespace Arr
theorem exec_ext {P : Program} {a : Act} {o : Oper} {x : Operand} {k : Nat} {vs : Array Value} {v : Value} (w : World) (e : o.op = .extract x k) (hx : a.eval x = .tuple vs) (hv : vs[k]? = some v) : (execOp a.eval o).run P w = .ok (.value v) w := by
  unfold execOp; simp only [e, hx, Instr.extract, hv, Sem.run_bind, Sem.run_pure, Result.andThen_ok]
section
variable {B a r f : Nat} {w w' : World} {s s' : RS}
theorem cell_in (h : At B w a r f s) {c : Nat} (hc : c < cells s f) : c % s.nd < s.nd ∧ f + c / s.nd < s.ns := by
  have h5 := h.five
  have hf := h.first
  refine ⟨Nat.mod_lt _ (by omega), ?_⟩
  have : c / s.nd < s.ns - f := by
    rw [Nat.div_lt_iff_lt_mul (by omega), Nat.mul_comm]
    exact hc
  omega
/-- what a cell holds -/
def holdsC (s : RS) (f c : Nat) : Nat → Nat := s.holds (c % s.nd) (f + c / s.nd)
def goneC (s : RS) (c : Nat) : Bool := s.gone (c % s.nd)
/-- so many bytes a read answers -/
def lenC (s : RS) (c : Nat) : Nat := if goneC s c = true then 0 else 128
end
end Arr
end Go.Proofs.YtkbndlnmbbbohaaGreatDoor
namespace Go.Proofs.YtkbndlnmbbbohaaGreatDoor
set_option maxRecDepth 100000
open Go.RowKit
set_option linter.unusedVariables false
set_option linter.unusedSimpArgs false

set_option maxHeartbeats 1600000 in
theorem write_goF {B : Nat} (w : World) (r : Nat) (s S' : RS) (E : Int) (d a gb o c : Nat) (X : Nat → Nat) (t : TypeId) (cs : Array Value) (h : RackAt B w r s) (hd : d < s.nd) (ha : a < s.ns) (hgone : s.gone d = false) {fr : Nat × Nat} (hb : w.heap[gb]? = some (.cells cs t fr)) (ht : (t == 68 || t == 124) = false)
    (hX : ∀ j, j < 128 → cs[o + j]? = some (.int .u8 ((X j : Nat) : Int)) ∧ X j < 256) (hcost : s.cost + 1 ≤ 1000000) (hE : E = if s.pow then 0 else 16) (hS : S' = if s.pow then s.spent.wrote d a X else s.spent) :
    Calls Tryz.prog 102 #[.pointer (some ⟨r, 0, none⟩), .int .i64 (d : Int), .int .i64 (a : Int), .slice (some ⟨gb, o, none⟩) 128 c] w fun e w' => e = .returned (.int .i64 E) ∧ RackAt B w' r S' ∧ Keep B w w' := by
  have HE := Lib.hid hE
  have HS := Lib.hid hS
  clear hE hS
  have hwhy : s.why (d : Int) (a : Int) = 0 := by
    have e : s.isP (d : Int) (a : Int) = true := by simp [RS.isP, RS.isD]; omega
    unfold RS.why
    rw [if_pos e, Int.toNat_natCast, hgone]
    rfl
  have H1 := Lib.hid (h.alloc (.cells (waitI d a zeros) 124))
  have K1 := Lib.hid ((Keep.refl B w).alloc h.le (.cells (waitI d a zeros) 124))
  have b1 := Blk.new w 124 (waitI d a zeros)
  have BX1 := Lib.hid b1
  have p0 : (w.alloc (.cells (waitI d a zeros) 124)).cell? ⟨w.heap.size, 0, none⟩ = some (.int .i64 (d : Int)) := (b1.cell 0).trans (waitI_0 _ _ _)
  have p1 : (w.alloc (.cells (waitI d a zeros) 124)).cell? ⟨w.heap.size, 1, none⟩ = some (.int .i64 (a : Int)) := (b1.cell 1).trans (waitI_1 _ _ _)
  obtain ⟨h0, m1, m2, v, hw⟩ := h
  have H0 := Lib.hid h0
  have HW1 := Lib.hid (hw.alloc (.cells (waitI d a zeros) 124))
  obtain ⟨l0, l1, l2, l3⟩ := hw.lts
  have HB := Lib.hid hb
  have hgs := (Array.getElem?_eq_some_iff.1 hb).1
  have HX := Lib.hid hX
  have hB := hw.le
  clear b1 h0 hw hb hX
  obtain ⟨Z, hZs, hz, hst⟩ := new_waiting w d a
  go_enter Tryz.func102, Tryz.ntmps102
  go_wp2_with fail
  refine (reach_any _ r s d a H1.out).mono ?_
  rintro e w2 ⟨rfl, _, k2, _, n2⟩
  have K2 := Lib.hid (K1.out.trans k2)
  have HW2 := Lib.hid (HW1.out.below n2)
  have BX2 := Lib.hid (BX1.out.new_ n2)
  clear k2 n2 p0 p1 hst
  rw [hwhy]
  clear hwhy
  go_wp2_with fail
  refine (powered_w _ r s H0.out HW2.out).mono ?_
  rintro e w3 ⟨rfl, ⟨h3, hw3⟩, k3, g3⟩
  have K3 := Lib.hid (K2.out.trans k3)
  have BX3 := Lib.hid (BX2.out.grown g3 (fun e => by injection e with e; omega))
  have HW3 := Lib.hid hw3
  have OK3 := Lib.hid h3
  clear hw3 k3 g3 h3
  by_cases hp : s.pow = true
  rotate_left
  · have hp' : s.pow = false := by simpa using hp
    rw [hp']
    have HP := Lib.hid hp'
    clear hp hp'
    go_wp2_with fail
    go_ret
    rw [HE.out, HS.out, HP.out]
    exact ⟨rfl, ⟨OK3.out, m1, m2, v, HW3.out⟩, K3.out⟩
  rw [hp]
  have HP := Lib.hid hp
  clear hp
  have HB3 := Lib.hid (K3.out.kept gb _ HB.out ht)
  have hcp := run_copy_row (P := Tryz.prog) w3 41 41 3 5 w.heap.size 2 128 128 ⟨gb, o, none⟩ 128 c (waitI d a zeros) 124 (rowL 128 X) Tryz.underlying41 (by kernel_rfl) BX3.out (by rw [rowL_length]; rfl) (fun j u hj => by
    have hjn : j < 128 := by have := (List.getElem?_eq_some_iff.1 hj).1; rw [rowL_length] at this; exact this
    rw [rowL_get X hjn] at hj
    injection hj with hj
    subst hj
    rw [add_plain]
    exact (cell_of_row w3 gb _ cs t fr HB3.out).trans (HX.out j hjn).1) (by rw [rowL_length, waitI_size]; omega) (fun u hu => by
    simp only [rowL, List.mem_map] at hu
    obtain ⟨j, _, rfl⟩ := hu
    rfl)
  rw [List.append_assoc, copyW, rowL_length] at hcp
  have BX4 : Hid (Blk (w3.setRow w.heap.size (waitI d a X)) w.heap.size 124 (waitI d a X)) := by
    have h := BX3.out
    unfold Blk at h
    show (w3.setRow w.heap.size (waitI d a X)).heap[w.heap.size]? = _
    simp [World.setRow, Array.getElem?_modify, h]
  have g4 : w3.grownBy (w3.setRow w.heap.size (waitI d a X)) (some w.heap.size) := ⟨rfl, rfl, rfl, by simp [World.setRow], fun k hk hne => by
    simp only [World.setRow, Array.getElem?_modify]
    rw [if_neg (fun e => hne (by rw [e]))]⟩
  have hz3 : w.heap.size ≤ w3.heap.size := K3.out.below.size
  have HW4 := Lib.hid (HW3.out.grownOut g4 (by omega) (by omega) (by omega) (fun e => by have := l3 _ e; omega))
  have K4 := Lib.hid (K3.out.grownNew g4 hB (by omega) (Nat.le_refl _))
  generalize w3.setRow w.heap.size (waitI d a X) = w4 at *
  clear g4 HW3 K3 BX3
  have EE := Lib.hid (spent_same s)
  have c3 := HW4.out.c3
  have c4 := HW4.out.c4
  obtain ⟨A3, c3n, hv3⟩ : ∃ A3 c3n, v = .slice A3 s.spent.nw c3n := by
    rcases HW4.out.row.2 with ⟨rfl, e⟩ | ⟨g, cap, cur, rfl, _⟩
    · exact ⟨none, 0, by rw [e]⟩
    · exact ⟨_, _, rfl⟩
  subst hv3
  have q0 : w4.cell? ⟨w.heap.size, 0, none⟩ = some (.int .i64 (d : Int)) := (BX4.out.cell 0).trans (waitI_0 _ _ _)
  have q1 : w4.cell? ⟨w.heap.size, 1, none⟩ = some (.int .i64 (a : Int)) := (BX4.out.cell 1).trans (waitI_1 _ _ _)
  go_wp2_with fail
  refine region_quiet_tail 11 (by kernel_rfl) (by kernel_rfl) ?_
  simp only [List.take_succ_cons, List.take_zero, List.drop_succ_cons, List.drop_zero]
  repeat (quiet_step (fail))
  refine wpQuiet_nil ?_
  rintro _ ⟨nq, rfl⟩
  refine wpList_mapPut rfl _ _ _ 65 3 rfl Tryz.underlying65 m2 s.spent.nw _ rfl (HW4.out.newest.drewN nq) (by simp only [maxLen]; have := HW4.out.nw_le; have := EE.out; omega) d a (by have := H0.out.nd2; omega) (by have := H0.out.ns2; omega) (.int .i64 (s.spent.nw : Int)) rfl rfl rfl ?_
  intro w5 hm5 hg5 hs5
  have M5 := Lib.hid hm5
  have G5 := Lib.hid hg5
  clear hm5 hg5
  go_wp2_with fail
  have hc35 : w5.cell? ⟨r, 3, none⟩ = some (.slice A3 s.spent.nw c3n) := (((HW4.out.drewN nq).blk.grown G5.out (fun e => HW4.out.ne2 (by injection e with e; exact e.symm))).cell 3).trans (rackA_get _ _ _ _ (by omega))
  have bx5 : Blk w5 w.heap.size 124 (waitI d a X) := (BX4.out.drewN nq).grown G5.out (fun e => by injection e with e; omega)
  have HS5 := Lib.hid (⟨hc35, bx5⟩ : AppS r w.heap.size (.slice A3 s.spent.nw c3n) (waitI d a X) w5)
  clear hc35 bx5
  refine region_anyZ (AppS r w.heap.size (.slice A3 s.spent.nw c3n) (waitI d a X)) 10 (by kernel_rfl) ?_
  refine AnyZ.take (i := 0) rfl (by kernel_rfl) (by kernel_rfl) (by kernel_rfl) (by kernel_rfl) (fun _ _ _ h => h) (yields_if rfl (fun w hS => rfl)) HS5.out ?_
  refine AnyZ.take (i := 1) rfl (by kernel_rfl) (by kernel_rfl) (by kernel_rfl) (by kernel_rfl) (fun _ _ _ h => h) (yields_if rfl (fun w hS => rfl)) HS5.out ?_
  refine AnyZ.take (i := 2) rfl (by kernel_rfl) (by kernel_rfl) (by kernel_rfl) (by kernel_rfl) (fun _ _ _ h => h) (yields_if rfl (fun w hS => rfl)) HS5.out ?_
  refine AnyZ.take (i := 3) (v := .pointer (some ⟨r, 3, none⟩)) rfl (by kernel_rfl) (by kernel_rfl) (by kernel_rfl) (by kernel_rfl) (fun _ _ _ h => h) (yields_if rfl (fun w hS => by kernel_rfl)) HS5.out ?_
  refine AnyZ.take (i := 4) rfl (by kernel_rfl) (by kernel_rfl) (by kernel_rfl) (by kernel_rfl) (fun _ _ _ h => h) (yields_if rfl (fun w hS => exec_load (x := .tmp 47) (v := .slice A3 s.spent.nw c3n) rfl (by kernel_rfl) (load_one Tryz.underlying64 rfl hS.1))) HS5.out ?_
  refine AnyZ.take (i := 5) rfl (by kernel_rfl) (by kernel_rfl) (by kernel_rfl) (by kernel_rfl) (fun _ _ _ h => h) (yields_if rfl (fun w hS => exec_load (x := .tmp 9) (v := .agg (waitI d a X)) rfl (by kernel_rfl) (load_blk hS.2 Tryz.underlying124 rfl (by rw [waitI_size]; exact isize_waiting)))) HS5.out ?_
  have EV : Hid (S' = s.spent.wrote d a X ∧ E = 0) := Lib.hid ⟨by rw [HS.out, HP.out]; rfl, by rw [HE.out, HP.out]; rfl⟩
  refine AnyZ.one (i := 6) (by kernel_rfl) ?_
  refine wpOp_val rfl rfl (exec_buildSlice1 (x := .tmp 49) (u := .agg (waitI d a X)) rfl (by kernel_rfl) (bs_waiting d a X w5.drew)) ⟨fun _ => ?_, ?_⟩
  · exact ⟨(World.cell?_of_block (Below.heap_alloc w5.drew _ r (by have := HW4.out.lts.1; have := G5.out.size; exact Nat.lt_of_lt_of_le ‹_› this))).trans HS5.out.1, Blk.alloc (w := w5.drew) HS5.out.2 _⟩
  refine AnyZ.one (i := 7) (by kernel_rfl) ?_
  refine wpOp_op rfl rfl ?_
  have R6 : Hid (RackK B ((w4.drewN nq)) r m1 m2 (.slice A3 s.spent.nw c3n) s.spent s.spent.nw) := Lib.hid (HW4.out.drewN nq)
  have row6 : (w5.drew.alloc (.cells (waitI d a X) 124)).ownsRow B 124 130 (.slice A3 s.spent.nw c3n) s.spent.nw (flat s.spent.W s.spent.nw) := by
    refine ⟨R6.out.row.1, ?_⟩
    rcases R6.out.row.2 with e | ⟨g, cap, cur, e, k1, k2, k3⟩
    · exact .inl e
    · have hgg : w5.heap[g]? = some (.cells cur 124 (0, 0)) := (G5.out.block g (Array.getElem?_eq_some_iff.1 k2).1 (fun x => R6.out.row_ne2 (by rw [← x, e]; rfl))).trans k2
      exact .inr ⟨g, cap, cur, e, k1, (Below.heap_alloc w5.drew _ g (Array.getElem?_eq_some_iff.1 hgg).1).trans hgg, k3⟩
  refine wp_append_wait (.tmp 48) (.tmp 50) (by kernel_rfl) B (.slice A3 s.spent.nw c3n) s.spent.nw (flat s.spent.W s.spent.nw) (by kernel_rfl) row6 w5.heap.size d a X (by kernel_rfl) (Blk.new w5.drew _ _) ?_ ?_ ?_
  · have := R6.out.nw_le
    have := EE.out
    omega
  · have := G5.out.size
    have := HW4.out.le
    simp
    have : w4.heap.size ≤ w5.heap.size := G5.out.size
    omega
  intro g7 cap7 w7 hr7 hg7 ho7 hl7
  have n6 : Below w5.heap.size w5 (w5.drew.alloc (.cells (waitI d a X) 124)) := ((Below.refl w5.heap.size w5).drew).alloc (Nat.le_refl _) _
  have R8 := Lib.hid (R6.out.wrote G5.out M5.out n6 hg7 hr7)
  have hB6 : B ≤ (w5.drew.alloc (.cells (waitI d a X) 124)).heap.size := by
    have := HW4.out.le
    have : w4.heap.size ≤ w5.heap.size := G5.out.size
    simp
    omega
  have K5 := (K4.out.drewN nq).ofMap (HW4.out.newest.drewN nq) G5.out HW4.out.h2
  have K7 := ((K5.new n6 (by have := HW4.out.le; have : w4.heap.size ≤ w5.heap.size := G5.out.size; omega))).grownRow row6 hB6 hg7
  have b7 : Blk w7 r 68 (rackA s.spent m1 (.slice A3 s.spent.nw c3n) m2) := ((R6.out.blk.grown G5.out (fun e => R6.out.ne2 (by injection e with e; exact e.symm))).new_ n6).grown hg7 (fun e => R6.out.row_ne e.symm)
  have K8 := Lib.hid (K7.setRack b7 R6.out.hr 3 (.slice (some ⟨g7, 0, none⟩) (s.spent.nw + 1) cap7))
  have c7 : (w7.cell? ⟨r, 3, none⟩).isSome = true := by
    rw [b7.cell, rackA_get _ _ _ _ (by omega)]
    rfl
  have f7 := b7.frozen 3
  have hst : (Instr.storeAt 64 (.pointer (some ⟨r, 3, none⟩)) (.slice (some ⟨g7, 0, none⟩) (s.spent.nw + 1) cap7)).run Tryz.prog w7 = .ok () (w7.setCell ⟨r, 3, none⟩ (.slice (some ⟨g7, 0, none⟩) (s.spent.nw + 1) cap7)) :=
    store_one isize_waits rfl rfl c7 f7 (add_plain _ _ _)
  have hS7 : AppS r w.heap.size (.slice A3 s.spent.nw c3n) (waitI d a X) w7 := by
    refine ⟨(b7.cell 3).trans (rackA_get _ _ _ _ (by omega)), ?_⟩
    exact (HS5.out.2.new_ n6).grown hg7 (fun e => by have := l3 _ e.symm; omega)
  clear hr7 hg7 ho7 hl7 K5 K7 b7 c7 f7 n6 row6
  refine ⟨fun _ => hS7, ?_⟩
  refine AnyZ.one (i := 8) (by kernel_rfl) ?_
  refine wpOp_val (v := .pointer (some ⟨r, 0, none⟩)) (w' := w7) rfl rfl (by kernel_rfl) ⟨fun _ => hS7, ?_⟩
  refine AnyZ.one (i := 9) (by kernel_rfl) ?_
  refine wpOp_val (v := .pointer (some ⟨r, 3, none⟩)) (w' := w7) rfl rfl (by kernel_rfl) ⟨fun _ => hS7, ?_⟩
  refine AnyZ.last_ (by kernel_rfl) (by kernel_rfl) rfl ?_
  refine wpOp_skip rfl rfl (exec_store (x := .tmp 53) (y := .tmp 51) rfl (by kernel_rfl) (by kernel_rfl) hst) ?_
  have OKW := Lib.hid (OK3.out.wrote (X := X) (by rw [EE.out.1]; exact hd) (by rw [EE.out.2.1]; exact ha) (fun j hj => (HX.out j hj).2) (by rw [EE.out.2.2.2.2.1]; exact hcost))
  generalize w7.setCell ⟨r, 3, none⟩ (.slice (some ⟨g7, 0, none⟩) (s.spent.nw + 1) cap7) = w8 at *
  clear hst hS7
  clear c4 c3 q0 q1 hcp hz hs5 l3
  go_wp2_with fail
  go_ret
  rw [EV.out.1, EV.out.2]
  exact ⟨by kernel_rfl, ⟨OKW.out, m1, m2, _, R8.out⟩, K8.out⟩
end Go.Proofs.YtkbndlnmbbbohaaGreatDoor
namespace Go.Proofs.YtkbndlnmbbbohaaGreatDoor
set_option maxRecDepth 100000
open Go Go.RowKit
set_option linter.unusedVariables false

/-- the power is on, and stays -/
def RS.calm (s : RS) : Prop := s.off = false ∧ s.armed = false
theorem RS.calm.pow {s : RS} (h : s.calm) : s.pow = true := by unfold RS.pow; rw [h.1, h.2]; rfl
theorem RS.calm.spent {s : RS} (h : s.calm) : s.spent = s := by unfold RS.spent; rw [h.1, h.2]; rfl
theorem RS.calm.wrote {s : RS} (h : s.calm) (d a : Nat) (X : Nat → Nat) : (s.wrote d a X).calm := h
theorem RS.calm.laid {s : RS} (h : s.calm) (P : Nat → Bool) : (s.laid P).calm := h
section
variable {B : Nat} {w w' : World} {r : Nat} {s : RS}
theorem RackAt.ok (h : RackAt B w r s) : s.ok := h.1
end
end Go.Proofs.YtkbndlnmbbbohaaGreatDoor
