/-
 'rack.Write' of bytes whose block may bear a mark, by a contract. Conditions: the rack is one, the place can be reached.
-/
import Derived.Test.YtgbehfkimchglaaGreatDoorDrawDeepM
import Derived.Test.YtgbehfkimchglaaGreatDoorArrMathM
import Derived.Test.YtgbehfkimchglaaGreatDoorArrCellM
namespace Go.Proofs.YtgbehfkimchglaaGreatDoor
set_option maxRecDepth 100000
open Go.RowKit
set_option linter.unusedVariables false
set_option linter.unusedSimpArgs false
set_option maxHeartbeats 1600000 in
theorem write_goF {B : Nat} (w : World) (r : Nat) (s S' : RS) (E : Int) (d a gb o c : Nat) (X : Nat → Nat) (t : TypeId) (cs : Array Value) (h : RackAt B w r s) (hd : d < s.nd) (ha : a < s.ns) (hgone : s.gone d = false) {fr : Nat × Nat} (hb : w.heap[gb]? = some (.cells cs t fr)) (ht : (t == 128 || t == 176) = false)
  (hX : ∀ j, j < 128 → cs[o + j]? = some (.int .u8 ((X j : Nat) : Int)) ∧ X j < 256) (hcost : s.cost + 1 ≤ 1000000) (hE : E = if s.pow then 0 else 16) (hS : S' = if s.pow then s.spent.wrote d a X else s.spent) :
  Calls Tryz.prog 168 #[.pointer (some ⟨r, 0, none⟩), .int .i64 (d : Int), .int .i64 (a : Int), .slice (some ⟨gb, o, none⟩) 128 c] w fun e w' => e = .returned (.int .i64 E) ∧ RackAt B w' r S' ∧ Keep B w w' := by
 have HE := Lib.hid hE
 have HS := Lib.hid hS
 clear hE hS
 have hwhy : s.why (d : Int) (a : Int) = 0 := by
  have e : s.isP (d : Int) (a : Int) = true := by simp [RS.isP, RS.isD]; omega
  unfold RS.why
  rw [if_pos e, Int.toNat_natCast, hgone]
  rfl
 have H1 := Lib.hid (h.alloc (.cells (waitI d a zeros) 176))
 have K1 := Lib.hid ((Keep.refl B w).alloc h.le (.cells (waitI d a zeros) 176))
 have b1 := Blk.new w 176 (waitI d a zeros)
 have BX1 := Lib.hid b1
 have p0 : (w.alloc (.cells (waitI d a zeros) 176)).cell? ⟨w.heap.size, 0, none⟩ = some (.int .i64 (d : Int)) := (b1.cell 0).trans (waitI_0 _ _ _)
 have p1 : (w.alloc (.cells (waitI d a zeros) 176)).cell? ⟨w.heap.size, 1, none⟩ = some (.int .i64 (a : Int)) := (b1.cell 1).trans (waitI_1 _ _ _)
 obtain ⟨h0, m1, m2, v, hw⟩ := h
 have H0 := Lib.hid h0
 have HW1 := Lib.hid (hw.alloc (.cells (waitI d a zeros) 176))
 obtain ⟨l0, l1, l2, l3⟩ := hw.lts
 have HB := Lib.hid hb
 have hgs := (Array.getElem?_eq_some_iff.1 hb).1
 have HX := Lib.hid hX
 have hB := hw.le
 clear b1 h0 hw hb hX
 obtain ⟨Z, hZs, hz, hst⟩ := new_waiting w d a
 go_enter Tryz.func168, Tryz.ntmps168
 go_wp2_with fail
 refine (reach_any _ r s d a H1.out).mono ?_
 rintro e w2 ⟨rfl, _, k2, _, n2⟩
 have K2 := Lib.hid (K1.out.trans k2)
 have HW2 := Lib.hid (HW1.out.below n2)
 have BX2 := Lib.hid (BX1.out.new_ n2)
 clear k2 n2 p0 p1 hst
 rw [hwhy]
 clear hwhy
 go_wp2_with fail
 refine (powered_w _ r s H0.out HW2.out).mono ?_
 rintro e w3 ⟨rfl, ⟨h3, hw3⟩, k3, g3⟩
 have K3 := Lib.hid (K2.out.trans k3)
 have BX3 := Lib.hid (BX2.out.grown g3 (fun e => by injection e with e; omega))
 have HW3 := Lib.hid hw3
 have OK3 := Lib.hid h3
 clear hw3 k3 g3 h3
 by_cases hp : s.pow = true
 rotate_left
 ·have hp' : s.pow = false := by simpa using hp
  rw [hp']
  have HP := Lib.hid hp'
  clear hp hp'
  go_wp2_with fail
  go_ret
  rw [HE.out, HS.out, HP.out]
  exact ⟨rfl, ⟨OK3.out, m1, m2, v, HW3.out⟩, K3.out⟩
 rw [hp]
 have HP := Lib.hid hp
 clear hp
 have HB3 := Lib.hid (K3.out.kept gb _ HB.out ht)
 have hcp := run_copy_row (P := Tryz.prog) w3 76 76 3 5 w.heap.size 2 128 128 ⟨gb, o, none⟩ 128 c (waitI d a zeros) 176 (rowL 128 X) Tryz.underlying76 (by kernel_rfl) BX3.out (by rw [rowL_length]; rfl) (fun j u hj => by
  have hjn : j < 128 := by have := (List.getElem?_eq_some_iff.1 hj).1; rw [rowL_length] at this; exact this
  rw [rowL_get X hjn] at hj
  injection hj with hj
  subst hj
  rw [add_plain]
  exact (cell_of_row w3 gb _ cs t fr HB3.out).trans (HX.out j hjn).1) (by rw [rowL_length, waitI_size]; omega) (fun u hu => by
  simp only [rowL, List.mem_map] at hu
  obtain ⟨j, _, rfl⟩ := hu
  rfl)
 rw [List.append_assoc, copyW, rowL_length] at hcp
 have BX4 : Hid (Blk (w3.setRow w.heap.size (waitI d a X)) w.heap.size 176 (waitI d a X)) := by
  have h := BX3.out
  unfold Blk at h
  show (w3.setRow w.heap.size (waitI d a X)).heap[w.heap.size]? = _
  simp [World.setRow, Array.getElem?_modify, h]
 have g4 : w3.grownBy (w3.setRow w.heap.size (waitI d a X)) (some w.heap.size) := ⟨rfl, rfl, rfl, by simp [World.setRow], fun k hk hne => by
  simp only [World.setRow, Array.getElem?_modify]
  rw [if_neg (fun e => hne (by rw [e]))]⟩
 have hz3 : w.heap.size ≤ w3.heap.size := K3.out.below.size
 have HW4 := Lib.hid (HW3.out.grownOut g4 (by omega) (by omega) (by omega) (fun e => by have := l3 _ e; omega))
 have K4 := Lib.hid (K3.out.grownNew g4 hB (by omega) (Nat.le_refl _))
 generalize w3.setRow w.heap.size (waitI d a X) = w4 at *
 clear g4 HW3 K3 BX3
 have EE := Lib.hid (spent_same s)
 have c3 := HW4.out.c3
 have c4 := HW4.out.c4
 obtain ⟨A3, c3n, hv3⟩ : ∃ A3 c3n, v = .slice A3 s.spent.nw c3n := by
  rcases HW4.out.row.2 with ⟨rfl, e⟩ | ⟨g, cap, cur, rfl, _⟩
  ·exact ⟨none, 0, by rw [e]⟩
  ·exact ⟨_, _, rfl⟩
 subst hv3
 have q0 : w4.cell? ⟨w.heap.size, 0, none⟩ = some (.int .i64 (d : Int)) := (BX4.out.cell 0).trans (waitI_0 _ _ _)
 have q1 : w4.cell? ⟨w.heap.size, 1, none⟩ = some (.int .i64 (a : Int)) := (BX4.out.cell 1).trans (waitI_1 _ _ _)
 go_wp2_with fail
 refine region_quiet_tail 11 (by kernel_rfl) (by kernel_rfl) ?_
 simp only [List.take_succ_cons, List.take_zero, List.drop_succ_cons, List.drop_zero]
 repeat (quiet_step (fail))
 refine wpQuiet_nil ?_
 rintro _ ⟨nq, rfl⟩
 refine wpList_mapPut rfl _ _ _ 125 3 rfl Tryz.underlying125 m2 s.spent.nw _ rfl (HW4.out.newest.drewN nq) (by simp only [maxLen]; have := HW4.out.nw_le; have := EE.out; omega) d a (by have := H0.out.nd2; omega) (by have := H0.out.ns2; omega) (.int .i64 (s.spent.nw : Int)) rfl rfl rfl ?_
 intro w5 hm5 hg5 hs5
 have M5 := Lib.hid hm5
 have G5 := Lib.hid hg5
 clear hm5 hg5
 go_wp2_with fail
 have hc35 : w5.cell? ⟨r, 3, none⟩ = some (.slice A3 s.spent.nw c3n) := (((HW4.out.drewN nq).blk.grown G5.out (fun e => HW4.out.ne2 (by injection e with e; exact e.symm))).cell 3).trans (rackA_get _ _ _ _ (by omega))
 have bx5 : Blk w5 w.heap.size 176 (waitI d a X) := (BX4.out.drewN nq).grown G5.out (fun e => by injection e with e; omega)
 have HS5 := Lib.hid (⟨hc35, bx5⟩ : AppS r w.heap.size (.slice A3 s.spent.nw c3n) (waitI d a X) w5)
 clear hc35 bx5
 refine region_anyZ (AppS r w.heap.size (.slice A3 s.spent.nw c3n) (waitI d a X)) 10 (by kernel_rfl) ?_
 refine AnyZ.take (i := 0) rfl (by kernel_rfl) (by kernel_rfl) (by kernel_rfl) (by kernel_rfl) (fun _ _ _ h => h) (yields_if rfl (fun w hS => rfl)) HS5.out ?_
 refine AnyZ.take (i := 1) rfl (by kernel_rfl) (by kernel_rfl) (by kernel_rfl) (by kernel_rfl) (fun _ _ _ h => h) (yields_if rfl (fun w hS => rfl)) HS5.out ?_
 refine AnyZ.take (i := 2) rfl (by kernel_rfl) (by kernel_rfl) (by kernel_rfl) (by kernel_rfl) (fun _ _ _ h => h) (yields_if rfl (fun w hS => rfl)) HS5.out ?_
 refine AnyZ.take (i := 3) (v := .pointer (some ⟨r, 3, none⟩)) rfl (by kernel_rfl) (by kernel_rfl) (by kernel_rfl) (by kernel_rfl) (fun _ _ _ h => h) (yields_if rfl (fun w hS => by kernel_rfl)) HS5.out ?_
 refine AnyZ.take (i := 4) rfl (by kernel_rfl) (by kernel_rfl) (by kernel_rfl) (by kernel_rfl) (fun _ _ _ h => h) (yields_if rfl (fun w hS => exec_load (x := .tmp 47) (v := .slice A3 s.spent.nw c3n) rfl (by kernel_rfl) (load_one Tryz.underlying124 rfl hS.1))) HS5.out ?_
 refine AnyZ.take (i := 5) rfl (by kernel_rfl) (by kernel_rfl) (by kernel_rfl) (by kernel_rfl) (fun _ _ _ h => h) (yields_if rfl (fun w hS => exec_load (x := .tmp 9) (v := .agg (waitI d a X)) rfl (by kernel_rfl) (load_blk hS.2 Tryz.underlying176 rfl (by rw [waitI_size]; exact isize_waiting)))) HS5.out ?_
 have EV : Hid (S' = s.spent.wrote d a X ∧ E = 0) := Lib.hid ⟨by rw [HS.out, HP.out]; rfl, by rw [HE.out, HP.out]; rfl⟩
 refine AnyZ.one (i := 6) (by kernel_rfl) ?_
 refine wpOp_val rfl rfl (exec_buildSlice1 (x := .tmp 49) (u := .agg (waitI d a X)) rfl (by kernel_rfl) (bs_waiting d a X w5.drew)) ⟨fun _ => ?_, ?_⟩
 ·exact ⟨(World.cell?_of_block (Below.heap_alloc w5.drew _ r (by have := HW4.out.lts.1; have := G5.out.size; exact Nat.lt_of_lt_of_le ‹_› this))).trans HS5.out.1, Blk.alloc (w := w5.drew) HS5.out.2 _⟩
 refine AnyZ.one (i := 7) (by kernel_rfl) ?_
 refine wpOp_op rfl rfl ?_
 have R6 : Hid (RackK B ((w4.drewN nq)) r m1 m2 (.slice A3 s.spent.nw c3n) s.spent s.spent.nw) := Lib.hid (HW4.out.drewN nq)
 have row6 : (w5.drew.alloc (.cells (waitI d a X) 176)).ownsRow B 176 130 (.slice A3 s.spent.nw c3n) s.spent.nw (flat s.spent.W s.spent.nw) := by
  refine ⟨R6.out.row.1, ?_⟩
  rcases R6.out.row.2 with e | ⟨g, cap, cur, e, k1, k2, k3⟩
  ·exact .inl e
  ·have hgg : w5.heap[g]? = some (.cells cur 176 (0, 0)) := (G5.out.block g (Array.getElem?_eq_some_iff.1 k2).1 (fun x => R6.out.row_ne2 (by rw [← x, e]; rfl))).trans k2
   exact .inr ⟨g, cap, cur, e, k1, (Below.heap_alloc w5.drew _ g (Array.getElem?_eq_some_iff.1 hgg).1).trans hgg, k3⟩
 refine wp_append_wait (.tmp 48) (.tmp 50) (by kernel_rfl) B (.slice A3 s.spent.nw c3n) s.spent.nw (flat s.spent.W s.spent.nw) (by kernel_rfl) row6 w5.heap.size d a X (by kernel_rfl) (Blk.new w5.drew _ _) ?_ ?_ ?_
 ·have := R6.out.nw_le
  have := EE.out
  omega
 ·have := G5.out.size
  have := HW4.out.le
  simp
  have : w4.heap.size ≤ w5.heap.size := G5.out.size
  omega
 intro g7 cap7 w7 hr7 hg7 ho7 hl7
 have n6 : Below w5.heap.size w5 (w5.drew.alloc (.cells (waitI d a X) 176)) := ((Below.refl w5.heap.size w5).drew).alloc (Nat.le_refl _) _
 have R8 := Lib.hid (R6.out.wrote G5.out M5.out n6 hg7 hr7)
 have hB6 : B ≤ (w5.drew.alloc (.cells (waitI d a X) 176)).heap.size := by
  have := HW4.out.le
  have : w4.heap.size ≤ w5.heap.size := G5.out.size
  simp
  omega
 have K5 := (K4.out.drewN nq).ofMap (HW4.out.newest.drewN nq) G5.out HW4.out.h2
 have K7 := ((K5.new n6 (by have := HW4.out.le; have : w4.heap.size ≤ w5.heap.size := G5.out.size; omega))).grownRow row6 hB6 hg7
 have b7 : Blk w7 r 128 (rackA s.spent m1 (.slice A3 s.spent.nw c3n) m2) := ((R6.out.blk.grown G5.out (fun e => R6.out.ne2 (by injection e with e; exact e.symm))).new_ n6).grown hg7 (fun e => R6.out.row_ne e.symm)
 have K8 := Lib.hid (K7.setRack b7 R6.out.hr 3 (.slice (some ⟨g7, 0, none⟩) (s.spent.nw + 1) cap7))
 have c7 : (w7.cell? ⟨r, 3, none⟩).isSome = true := by
  rw [b7.cell, rackA_get _ _ _ _ (by omega)]
  rfl
 have f7 := b7.frozen 3
 have hst : (Instr.storeAt 124 (.pointer (some ⟨r, 3, none⟩)) (.slice (some ⟨g7, 0, none⟩) (s.spent.nw + 1) cap7)).run Tryz.prog w7 = .ok () (w7.setCell ⟨r, 3, none⟩ (.slice (some ⟨g7, 0, none⟩) (s.spent.nw + 1) cap7)) :=
  store_one isize_waits rfl rfl c7 f7 (add_plain _ _ _)
 have hS7 : AppS r w.heap.size (.slice A3 s.spent.nw c3n) (waitI d a X) w7 := by
  refine ⟨(b7.cell 3).trans (rackA_get _ _ _ _ (by omega)), ?_⟩
  exact (HS5.out.2.new_ n6).grown hg7 (fun e => by have := l3 _ e.symm; omega)
 clear hr7 hg7 ho7 hl7 K5 K7 b7 c7 f7 n6 row6
 refine ⟨fun _ => hS7, ?_⟩
 refine AnyZ.one (i := 8) (by kernel_rfl) ?_
 refine wpOp_val (v := .pointer (some ⟨r, 0, none⟩)) (w' := w7) rfl rfl (by kernel_rfl) ⟨fun _ => hS7, ?_⟩
 refine AnyZ.one (i := 9) (by kernel_rfl) ?_
 refine wpOp_val (v := .pointer (some ⟨r, 3, none⟩)) (w' := w7) rfl rfl (by kernel_rfl) ⟨fun _ => hS7, ?_⟩
 refine AnyZ.last_ (by kernel_rfl) (by kernel_rfl) rfl ?_
 refine wpOp_skip rfl rfl (exec_store (x := .tmp 53) (y := .tmp 51) rfl (by kernel_rfl) (by kernel_rfl) hst) ?_
 have OKW := Lib.hid (OK3.out.wrote (X := X) (by rw [EE.out.1]; exact hd) (by rw [EE.out.2.1]; exact ha) (fun j hj => (HX.out j hj).2) (by rw [EE.out.2.2.2.2.1]; exact hcost))
 generalize w7.setCell ⟨r, 3, none⟩ (.slice (some ⟨g7, 0, none⟩) (s.spent.nw + 1) cap7) = w8 at *
 clear hst hS7
 clear c4 c3 q0 q1 hcp hz hs5 l3
 go_wp2_with fail
 go_ret
 rw [EV.out.1, EV.out.2]
 exact ⟨by kernel_rfl, ⟨OKW.out, m1, m2, _, R8.out⟩, K8.out⟩
end Go.Proofs.YtgbehfkimchglaaGreatDoor
namespace Go.Proofs.YtgbehfkimchglaaGreatDoor
set_option maxRecDepth 100000
open Go Go.RowKit
set_option linter.unusedVariables false
def RS.calm (s : RS) : Prop := s.off = false ∧ s.armed = false
theorem RS.calm.pow {s : RS} (h : s.calm) : s.pow = true := by unfold RS.pow; rw [h.1, h.2]; rfl
theorem RS.calm.spent {s : RS} (h : s.calm) : s.spent = s := by unfold RS.spent; rw [h.1, h.2]; rfl
section
variable {B : Nat} {w w' : World} {r : Nat} {s : RS}
end
end Go.Proofs.YtgbehfkimchglaaGreatDoor
namespace Go.Proofs.YtgbehfkimchglaaGreatDoor
open Go Go.RowKit refRack
set_option maxRecDepth 100000
set_option linter.unusedVariables false
namespace Arr
section
variable {B a r f : Nat} {w w' : World} {s s' : RS}
theorem wrC (h : At B w a r f s) (hcal : s.calm) {c : Nat} (hc : c < cells s f) (hg : goneC s c = false) {gb cc : Nat} {X : Nat → Nat} (hb : RowG w gb 128 X) (hX : ∀ j, j < 128 → X j < 256) (hcost : s.cost + 1 ≤ 1000000) :
  Calls Tryz.prog 168 #[.pointer (some ⟨r, 0, none⟩), .int .i64 ((c % s.nd : Nat) : Int), .int .i64 ((f + c / s.nd : Nat) : Int), .slice (some ⟨gb, 0, none⟩) 128 cc] w fun e w' => e = .returned (.int .i64 0) ∧ RackAt B w' r (s.wrote (c % s.nd) (f + c / s.nd) X) ∧ Keep B w w' := by
 obtain ⟨h1, h2⟩ := cell_in h hc
 obtain ⟨cs, fr, hh, _, hcs⟩ := hb
 exact write_goF w r s _ 0 _ _ gb 0 cc X 5 cs h.rack h1 h2 hg hh rfl (fun j hj => ⟨by rw [Nat.zero_add]; exact hcs j hj, hX j hj⟩) hcost (by rw [hcal.pow]; rfl) (by rw [hcal.pow, hcal.spent]; rfl)
theorem _root_.Go.Proofs.YtgbehfkimchglaaGreatDoor.RowG.keepK {B : Nat} {w w' : World} {g n : Nat} {X : Nat → Nat} (h : RowG w g n X) (hk : Keep B w w') : RowG w' g n X := by
 obtain ⟨cs, fr, hb, h1⟩ := h
 exact ⟨cs, fr, hk.kept g _ hb rfl, h1⟩
set_option maxHeartbeats 800000 in
theorem write_any (w : World) (h : At B w a r f s) (hcal : s.calm) (c : Nat) (hc : c < cells s f) (hg : goneC s c = false) (gb cc : Nat) (X : Nat → Nat) (hb : RowG w gb 128 X) (hX : ∀ j, j < 128 → X j < 256) (hcost : s.cost + 1 ≤ 1000000) :
  Calls Tryz.prog 111 #[.pointer (some ⟨a, 0, none⟩), .int .i64 (c : Int), .slice (some ⟨gb, 0, none⟩) 128 cc] w fun e w' => e = .returned (.int .i64 0) ∧ RackAt B w' r (s.wrote (c % s.nd) (f + c / s.nd) X) ∧ Keep B w w' := by
 have hle := cells_le h
 have HC : Hid (c ≤ 100000) := Lib.hid (by omega)
 have HL := Lib.hid hc
 have HO : Hid (s.calm ∧ goneC s c = false ∧ (∀ j, j < 128 → X j < 256) ∧ s.cost + 1 ≤ 1000000) := Lib.hid ⟨hcal, hg, hX, hcost⟩
 have H0 : Hid (At B w.drew a r f s) := Lib.hid (h.drewN 1)
 have HB : Hid (RowG w.drew gb 128 X) := Lib.hid (hb.drewN 1)
 have HS0 : Hid (w.drew.cell? ⟨a, 0, none⟩ = some (.pointer (some ⟨r, 0, none⟩))) := Lib.hid H0.out.c0
 clear h hle hc hcal hg hb hX hcost
 go_enter Tryz.func111, Tryz.ntmps111
 go_wp2_with fail
 refine region_anyZ (fun W => W.cell? ⟨a, 0, none⟩ = some (.pointer (some ⟨r, 0, none⟩))) 13 (by kernel_rfl) ?_
 refine takeG 0 (.move (.tmp 0)) (some 7) none (.pointer (some ⟨a, 0, none⟩)) (by kernel_rfl) (by kernel_rfl) (by kernel_rfl) (fun _ _ _ h => h) (fun o' wq e hS => exec_move wq e (by kernel_rfl)) HS0.out ?_
 refine takeG 1 (.nilCheck (.tmp 7)) (some 8) none (.pointer (some ⟨a, 0, none⟩)) (by kernel_rfl) (by kernel_rfl) (by kernel_rfl) (fun _ _ _ h => h) (fun o' wq e hS => exec_nil wq e (by kernel_rfl)) HS0.out ?_
 refine takeG 2 (.fieldAddr 131 (.tmp 8) 0) (some 9) none (.pointer (some ⟨a, 0, none⟩)) (by kernel_rfl) (by kernel_rfl) (by kernel_rfl) (fun _ _ _ h => h) (fun o' wq e hS => exec_field (u := .pointer (some ⟨a, 0, none⟩)) wq e (by kernel_rfl) (by kernel_rfl)) HS0.out ?_
 refine takeG 3 (.load 39 (.tmp 9)) (some 10) none (.pointer (some ⟨r, 0, none⟩)) (by kernel_rfl) (by kernel_rfl) (by kernel_rfl) (fun _ _ _ h => h) (fun o' wq e hS => exec_load (x := (.tmp 9)) e (by kernel_rfl) (load_one Tryz.underlying39 (by kernel_rfl) hS)) HS0.out ?_
 refine takeG 4 (.move (.tmp 0)) (some 11) none (.pointer (some ⟨a, 0, none⟩)) (by kernel_rfl) (by kernel_rfl) (by kernel_rfl) (fun _ _ _ h => h) (fun o' wq e hS => exec_move wq e (by kernel_rfl)) HS0.out ?_
 refine takeG 5 (.move (.tmp 1)) (some 12) none (.int .i64 (c : Int)) (by kernel_rfl) (by kernel_rfl) (by kernel_rfl) (fun _ _ _ h => h) (fun o' wq e hS => exec_move wq e (by kernel_rfl)) HS0.out ?_
 refine takeG 7 (.move (.tmp 0)) (some 14) none (.pointer (some ⟨a, 0, none⟩)) (by kernel_rfl) (by kernel_rfl) (by kernel_rfl) (fun _ _ _ h => h) (fun o' wq e hS => exec_move wq e (by kernel_rfl)) HS0.out ?_
 refine takeG 8 (.move (.tmp 1)) (some 15) none (.int .i64 (c : Int)) (by kernel_rfl) (by kernel_rfl) (by kernel_rfl) (fun _ _ _ h => h) (fun o' wq e hS => exec_move wq e (by kernel_rfl)) HS0.out ?_
 refine takeG 10 (.move (.tmp 2)) (some 17) none (.slice (some ⟨gb, 0, none⟩) 128 cc) (by kernel_rfl) (by kernel_rfl) (by kernel_rfl) (fun _ _ _ h => h) (fun o' wq e hS => exec_move wq e (by kernel_rfl)) HS0.out ?_
 refine loneG 6 (.call ⟨.value (.func 110), #[(.tmp 11), (.tmp 12)], #[67, 3]⟩) (some 13) none (by kernel_rfl) (by kernel_rfl) (by kernel_rfl) ?_
 intro o' ho hod
 refine wp_callC (f := 110) (args := #[.pointer (some ⟨a, 0, none⟩), .int .i64 (c : Int)]) (by cases o'; cases ho; kernel_rfl) (drive_any _ H0.out c HC.out) ?_
 rintro e wq ⟨rfl, rfl⟩
 refine ⟨_, rfl, ?_⟩
 rw [hod]
 clear hod ho
 refine ⟨fun _ => HS0.out, ?_⟩
 refine loneG 9 (.call ⟨.value (.func 169), #[(.tmp 14), (.tmp 15)], #[67, 3]⟩) (some 16) none (by kernel_rfl) (by kernel_rfl) (by kernel_rfl) ?_
 intro o' ho hod
 refine wp_callC (f := 169) (args := #[.pointer (some ⟨a, 0, none⟩), .int .i64 (c : Int)]) (by cases o'; cases ho; kernel_rfl) (sector_any _ H0.out c HC.out) ?_
 rintro e wq ⟨rfl, d2, rfl⟩
 refine ⟨_, rfl, ?_⟩
 rw [hod]
 clear hod ho
 have H2 := Lib.hid (H0.out.drewN d2)
 have HS2 : Hid ((w.drew.drewN d2).cell? ⟨a, 0, none⟩ = some (.pointer (some ⟨r, 0, none⟩))) := Lib.hid H2.out.c0
 refine ⟨fun _ => HS2.out, ?_⟩
 refine loneG 11 (.call ⟨.value (.func 168), #[(.tmp 10), (.tmp 13), (.tmp 16), (.tmp 17)], #[39, 3, 3, 76]⟩) (some 18) none (by kernel_rfl) (by kernel_rfl) (by kernel_rfl) ?_
 intro o' ho hod
 refine wp_callC (f := 168) (args := #[.pointer (some ⟨r, 0, none⟩), .int .i64 ((c % s.nd : Nat) : Int), .int .i64 ((f + c / s.nd : Nat) : Int), .slice (some ⟨gb, 0, none⟩) 128 cc]) (by cases o'; cases ho; kernel_rfl) (wrC H2.out HO.out.1 HL.out HO.out.2.1 (HB.out.drewN d2) HO.out.2.2.1 HO.out.2.2.2) ?_
 rintro e wq ⟨rfl, h3, k3⟩
 refine ⟨_, rfl, ?_⟩
 rw [hod]
 clear hod ho
 have H3 := Lib.hid (⟨h3, (((Keep.refl B w).drew).drewN d2).trans k3⟩ : _ ∧ _)
 have HS3 : Hid (wq.cell? ⟨a, 0, none⟩ = some (.pointer (some ⟨r, 0, none⟩))) := Lib.hid (k3.block H2.out.blk rfl |>.cell 0)
 clear h3 k3
 refine ⟨fun _ => HS3.out, ?_⟩
 refine lastS 12 (.assign (.tmp 18)) (some 6) (.int .i64 0) (by kernel_rfl) (by kernel_rfl) (by kernel_rfl) HS3.out (fun o' e => exec_assign _ e (by kernel_rfl)) ?_
 simp only [put_some, put_none, List.setIfInBounds_toArray, List.set_cons_succ, List.set_cons_zero]
 go_wp2_with fail
 go_ret
 exact ⟨rfl, H3.out.1, H3.out.2⟩
theorem goneDC (w : World) (h : At B w a r f s) {d : Nat} (hd : d < s.nd) :
  Calls Tryz.prog 109 #[.pointer (some ⟨r, 0, none⟩), .int .i64 (d : Int)] w fun e w' => e = .returned (.bool (s.gone d)) ∧ w' = w := by
 have h1 := gone_any w r s (d : Int) h.rack
 have e : s.isD (d : Int) = true := by simp [RS.isD]; omega
 rw [e, Int.toNat_natCast, Bool.true_and] at h1
 exact h1
def goneL (s : RS) (l : List Nat) : List Nat := l.filter fun d => s.gone d
def hereL (s : RS) (l : List Nat) : List Nat := l.filter fun d => !s.gone d
theorem take_next {l : List Nat} {k : Nat} (hk : k < l.length) : l.take (k + 1) = l.take k ++ [l[k]] := by rw [List.take_add_one, List.getElem?_eq_getElem hk]; rfl
set_option maxHeartbeats 1600000 in
theorem gone_split (w : World) (h : At B w a r f s) (sv : Value) (l : List Nat) (hI : Sq.Ints w.heap.size w sv (Sq.ints l)) (hl : ∀ d ∈ l, d < s.nd) (hlen : l.length ≤ 1000) :
  Calls Tryz.prog 107 #[.pointer (some ⟨a, 0, none⟩), sv] w fun e w' => ∃ v1 v2, e = .returned (.tuple #[v1, v2]) ∧ Nr.OwnN w' w.heap.size v1 (goneL s l) ∧ Nr.OwnN w' w.heap.size v2 (hereL s l) ∧ (∀ g, v1.ownBlock = some g → v2.ownBlock ≠ some g) ∧ Below w.heap.size w w' := by
 obtain ⟨A, c, rfl, hcell⟩ : ∃ A c, sv = .slice A l.length c ∧ ∀ k, (hk : k < l.length) → ∃ b o, A = some ⟨b, o, none⟩ ∧ b < w.heap.size ∧ w.cell? ⟨b, o + k, none⟩ = some (.int .i64 ((l[k] : Nat) : Int)) := by
  rcases hI with ⟨rfl, h0⟩ | ⟨b, o, c, rfl, hb, hc⟩
  ·have hl0 : l = [] := by simpa [Sq.ints] using h0
   subst hl0
   exact ⟨none, 0, rfl, fun k hk => absurd hk (by simp)⟩
  ·refine ⟨some ⟨b, o, none⟩, c, by rw [Sq.ints_length], fun k hk => ⟨b, o, rfl, hb, ?_⟩⟩
   rw [hc k (by rw [Sq.ints_length]; exact hk)]
   simp [Sq.ints, hk]
 have HA := Lib.hid h
 have HC := Lib.hid hcell
 have HL := Lib.hid hl
 clear h hcell hl hI
 go_enter Tryz.func107, Tryz.ntmps107
 go_wp2_with fail
 go_loopw [4, 5, 10] (fun y1 y2 y wr => ∃ k : Nat, k ≤ l.length ∧ y = .int .i64 (k : Int) ∧ Hid (Nr.OwnN wr w.heap.size y1 (goneL s (l.take k)) ∧ Nr.OwnN wr w.heap.size y2 (hereL s (l.take k)) ∧ (∀ g, y1.ownBlock = some g → y2.ownBlock ≠ some g) ∧ Below w.heap.size w wr)) (fun _ _ y _ => l.length - (intOf y).toNat)
 case atStart => exact ⟨0, Nat.zero_le _, rfl, Lib.hid ⟨Gr.OwnG.nil _ _, Gr.OwnG.nil _ _, fun g hg => (by cases hg), Below.refl _ _⟩⟩
 case round =>
  obtain ⟨k, hk, rfl, HR⟩ := hrel
  by_cases hlt : k < l.length
  ·obtain ⟨b, o, hA, hb, hcl⟩ := HC.out k hlt
   have hcw : wr.cell? ⟨b, o + k, none⟩ = some (.int .i64 ((l[k] : Nat) : Int)) := (HR.out.2.2.2.cell (p := ⟨b, o + k, none⟩) hb).trans hcl
   have hdn := HL.out l[k] (List.getElem_mem hlt)
   have HT := Lib.hid (take_next hlt)
   have A1 := HA.out.grown_ HR.out.2.2.2
   have c0 := A1.c0
   have HG := Lib.hid (goneDC wr A1 hdn)
   have HD16 : Hid (l[k] < s.nd ∧ s.nd ≤ 16) := Lib.hid ⟨hdn, A1.bounds.1⟩
   have hl16 : l[k] < 16 := by have := HD16.out; omega
   have HLn : Hid ((goneL s (l.take k)).length ≤ 1000000 ∧ (hereL s (l.take k)).length ≤ 1000000) := Lib.hid (by
    have h1 := List.length_filter_le (fun d => s.gone d) (l.take k)
    have h2 := List.length_filter_le (fun d => !s.gone d) (l.take k)
    rw [List.length_take] at h1 h2
    unfold goneL hereL
    omega)
   generalize hd : l[k] = d at *
   have HDD := Lib.hid hd
   subst hA
   clear A1 hdn hcl hb hd
   go_wp2_with fail
   refine HG.out.mono ?_
   rintro e w2 ⟨rfl, rfl⟩
   cases hg : s.gone d with
   | true =>
    have HGD := Lib.hid hg
    clear hg HG
    go_wp2_with (at_builtin; refine wpList_app_g rfl 64 (.tmp 20) (.tmp 22) rfl rfl rfl (fun ty => appN HR.out.1 d HLn.out.1 HR.out.2.2.2.size ty) ?_; intro v5 W5 h5; refine of_hid ?_)
    refine Lib.hid ?_
    have H5 := Lib.hid h5
    clear h5
    go_wp2_with fail
    go_roundw
    case rel =>
     refine ⟨k + 1, by omega, by simp, Lib.hid ⟨?_, ?_, ?_, HR.out.2.2.2.trans H5.out.2.1⟩⟩
     ·have : goneL s (l.take (k + 1)) = goneL s (l.take k) ++ [d] := by
       unfold goneL
       rw [HT.out, List.filter_append]
       simp [HGD.out]
      rw [this]
      exact H5.out.1
     ·have : hereL s (l.take (k + 1)) = hereL s (l.take k) := by
       unfold hereL
       rw [HT.out, List.filter_append]
       simp [HGD.out]
      rw [this]
      exact own_keepN HR.out.2.1 fun g hg => H5.out.2.2.2.1 g (own_ltN HR.out.2.1 hg).1 (fun e => HR.out.2.2.1 g e hg)
     ·intro g hg hg2
      have hlt2 := (own_ltN HR.out.2.1 hg2).1
      rcases H5.out.2.2.2.2 with e | e | e
      ·exact HR.out.2.2.1 g (e.symm.trans hg) hg2
      ·rw [e] at hg; injection hg with hg; omega
      ·rw [e] at hg; injection hg with hg; omega
    case measure => simp [intOf]; omega
   | false =>
    have HGD := Lib.hid hg
    clear hg HG
    go_wp2_with (at_builtin; refine wpList_app_g rfl 64 (.tmp 24) (.tmp 26) rfl rfl rfl (fun ty => appN HR.out.2.1 d HLn.out.2 HR.out.2.2.2.size ty) ?_; intro v5 W5 h5; refine of_hid ?_)
    refine Lib.hid ?_
    have H5 := Lib.hid h5
    clear h5
    go_wp2_with fail
    go_roundw
    case rel =>
     refine ⟨k + 1, by omega, by simp, Lib.hid ⟨?_, ?_, ?_, HR.out.2.2.2.trans H5.out.2.1⟩⟩
     ·have : goneL s (l.take (k + 1)) = goneL s (l.take k) := by
       unfold goneL
       rw [HT.out, List.filter_append]
       simp [HGD.out]
      rw [this]
      exact own_keepN HR.out.1 fun g hg => H5.out.2.2.2.1 g (own_ltN HR.out.1 hg).1 (fun e => HR.out.2.2.1 g hg e)
     ·have : hereL s (l.take (k + 1)) = hereL s (l.take k) ++ [d] := by
       unfold hereL
       rw [HT.out, List.filter_append]
       simp [HGD.out]
      rw [this]
      exact H5.out.1
     ·intro g hg hg2
      have hlt2 := (own_ltN HR.out.1 hg).1
      rcases H5.out.2.2.2.2 with e | e | e
      ·exact HR.out.2.2.1 g hg (e.symm.trans hg2)
      ·rw [e] at hg2; injection hg2 with hg2; omega
      ·rw [e] at hg2; injection hg2 with hg2; omega
    case measure => simp [intOf]; omega
  ·obtain rfl : k = l.length := by omega
   have HT : Hid (l.take l.length = l) := Lib.hid (List.take_length)
   go_wp2_with fail
   go_ret2
   have h := HR.out
   rw [HT.out] at h
   exact ⟨_, _, rfl, h.1, h.2.1, h.2.2.1, h.2.2.2⟩
end
end Arr
end Go.Proofs.YtgbehfkimchglaaGreatDoor
