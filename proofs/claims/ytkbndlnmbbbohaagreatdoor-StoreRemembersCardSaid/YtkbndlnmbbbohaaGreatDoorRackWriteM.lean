/-
 'rack.New' and 'rack.holds' by contracts. Conditions: the rack is one, the place is one of its own.
-/
import Derived.Test.YtkbndlnmbbbohaaGreatDoorRackAwaitM
import Derived.WalkSpells
import Derived.Laws.AppendOwn
import Derived.OrdersHeld
import Derived.StillTail
import Derived.Test.YtkbndlnmbbbohaaGreatDoorRackMapM
import Derived.Laws.CopyOwn
import Derived.Deep.RegionHeld3
import Derived.Deep.AppendLies
namespace Go.Proofs.YtkbndlnmbbbohaaGreatDoor
set_option maxRecDepth 100000
open Go.RowKit
set_option linter.unusedVariables false
def RS.new (nd ns : Nat) : RS := ⟨nd, ns, fun _ _ => zeros, 0, fun _ => ⟨0, 0, zeros⟩, fun _ => false, false, false, 0, 0⟩
set_option maxRecDepth 100000 in
set_option maxHeartbeats 1600000 in
theorem new_any (w : World) (nd ns : Nat) (h1 : 1 ≤ nd) (h2 : nd ≤ 16) (h3 : 1 ≤ ns) (h4 : ns ≤ 2000) :
  Calls Tryz.prog 7 #[.int .i64 (nd : Int), .int .i64 (ns : Int)] w fun e w' => (∃ r, e = .returned (.tuple #[.pointer (some ⟨r, 0, none⟩), .int .i64 0]) ∧ RackAt w.heap.size w' r (RS.new nd ns)) ∧ Keep w.heap.size w w' := by
 have t1 : ((nd : Int) < 1) = False := by simp; omega
 have t2 : ((16 : Int) < (nd : Int)) = False := by simp; omega
 have t3 : ((ns : Int) < 1) = False := by simp; omega
 have t4 : ((2000 : Int) < (ns : Int)) = False := by simp; omega
 have d1 : decide ((nd : Int) < 1) = false := by simp; omega
 have d2 : decide ((16 : Int) < (nd : Int)) = false := by simp; omega
 have d3 : decide ((ns : Int) < 1) = false := by simp; omega
 have d4 : decide ((2000 : Int) < (ns : Int)) = false := by simp; omega
 have hmk : ∀ w : World, (Instr.makeMap 63 none).run Tryz.prog w = .ok (.map (some w.heap.size)) (w.alloc (.map #[] 0)) := fun w => by kernel_rfl
 go_enter Tryz.func7, Tryz.ntmps7
 go_wp2_with fail
 refine (await_any w.heap.size _ (w.heap.size + 1) w.heap.size none 0 0 (RS.new nd ns) (RS.new nd ns) ⟨rfl, rfl, rfl, rfl, rfl, rfl⟩ _ (blk_new2 w (.map #[] 0) _ _) rfl ?_ (by omega) (by omega) (by omega) rfl ⟨0, _, Nat.le_refl _, (MapFp.made w).alloc _, fun d a _ _ => rfl⟩ ⟨rfl, .inl ⟨rfl, rfl⟩⟩
  ⟨h1, h2, h3, h4, by show 0 ≤ _; omega, by show 0 ≤ _; omega, fun i hi => absurd hi (Nat.not_lt_zero _), fun d a j hj => by show 0 < 256; omega⟩).mono ?_
 ·intro j hj j3 j4
  repeat (rcases j with _ | j; · first | rfl | exact absurd rfl j4)
  omega
 rintro e w2 ⟨rfl, hra, hk⟩
 have HR := Lib.hid hra
 have HK := Lib.hid hk
 clear hra hk
 go_wp2_with fail
 go_ret2
 exact ⟨⟨_, rfl, HR.out⟩, (((Keep.refl _ w).alloc (Nat.le_refl _) _).alloc (by simp) _).trans HK.out⟩
set_option maxRecDepth 100000 in
set_option maxHeartbeats 1600000 in
theorem holds_any {B : Nat} (w : World) (r : Nat) (s : RS) (d a : Nat) (h : RackAt B w r s) (hd : d < s.nd) (ha : a < s.ns) :
  Calls Tryz.prog 146 #[.pointer (some ⟨r, 0, none⟩), placeV d a] w fun e w' => e = .returned (.agg (secA (s.holds d a))) ∧ RackAt B w' r s ∧ Keep B w w' := by
 have H2 := (h.alloc (.cells #[.int .i64 (d : Int), .int .i64 (a : Int)] 119)).alloc (.cells (secA zeros) 122)
 have K2 := Lib.hid (((Keep.refl B w).alloc h.le (.cells #[.int .i64 (d : Int), .int .i64 (a : Int)] 119)).alloc (h.alloc _).le (.cells (secA zeros) 122))
 have b1 := (Blk.new w 119 #[.int .i64 (d : Int), .int .i64 (a : Int)]).alloc (.cells (secA zeros) 122)
 have b2 := blk_new2 w (.cells #[.int .i64 (d : Int), .int .i64 (a : Int)] 119) (secA zeros) 122
 have hB := h.le
 have hz := zero_sector
 unfold placeV
 clear h
 go_enter Tryz.func146, Tryz.ntmps146
 go_wp2_with fail
 generalize (w.alloc (.cells #[.int .i64 (d : Int), .int .i64 (a : Int)] 119)).alloc (.cells (secA zeros) 122) = w2 at *
 obtain ⟨h0, m1, m2, v, hw⟩ := H2
 have HW := Lib.hid hw
 have H0 := Lib.hid h0
 have B1 := Lib.hid b1
 have B2 := Lib.hid b2
 have c2 := hw.c2
 have c3 := hw.c3
 have c4 := hw.c4
 have p0 : w2.cell? ⟨w.heap.size, 0, none⟩ = some (.int .i64 (d : Int)) := b1.cell 0
 have p1 : w2.cell? ⟨w.heap.size, 1, none⟩ = some (.int .i64 (a : Int)) := b1.cell 1
 have hlk := fun n => (hw.newest.drewN n).look Tryz.underlying65 (zero_int _) (show d < 4611686018427387904 by have := h0.nd2; omega) (show a < 4611686018427387904 by have := h0.ns2; omega) true
 simp only [if_true, pkey] at hlk
 clear hw h0 b1 b2
 cases hni : newIn s.W d a s.nw with
 | some i =>
  have eh : s.holds d a = (s.W i).x := by unfold RS.holds; rw [hni]
  have EH := Lib.hid eh
  simp only [hni, Option.map_some, Option.getD_some, Option.isSome_some, iv] at hlk
  have hi := (newIn_lt hni).1
  obtain ⟨g, cap, rfl⟩ := own_slice HW.out.row (by omega)
  have hls := fun n => load_rowS (HW.out.drewN n).row hi
  have hnw := HW.out.nw_le
  have hcost := H0.out.cost
  have i1 : (0 : Int) ≤ (i : Int) := by omega
  have i2 : (i : Int) < (s.nw : Int) := by omega
  clear hni eh
  go_quiet (fail)
  go_wp2_with (refine wpList_loadX rfl 122 _ rfl _ _ rfl (hls _) ?_; refine of_hid ?_)
  refine Lib.hid ?_
  refine wpList_storeBlk rfl 122 (.tmp 4) (.tmp 24) rfl (w.heap.size + 1) (secA zeros) (secA (s.W i).x) rfl rfl (B2.out.drewN _) (by rw [secA_size]; exact isize_sector) (by rw [secA_size, secA_size]) (secA_one _) ?_
  intro w4 hb4 hg4 hs4
  have H4 := Lib.hid ((HW.out.drewN _).grownFar (B2.out.drewN _) rfl hg4)
  have K4 := Lib.hid ((K2.out.drewN _).grownNew hg4 (by omega) (Nat.le_trans HW.out.le (Nat.le_refl _)) (by omega))
  have hlv := loadVar_blk hb4 Tryz.underlying122 rfl (by rw [secA_size]; exact isize_sector)
  clear hb4 hg4 hs4 hls hlk
  have HL := Lib.hid hlv
  clear hlv
  go_wp2_with fail
  refine bodyPost_ret (results_cell rfl rfl HL.out) rfl ?_
  rw [EH.out]
  exact ⟨rfl, ⟨H0.out, m1, m2, _, H4.out⟩, K4.out⟩
 | none =>
  have eh : s.holds d a = s.last d a := by unfold RS.holds; rw [hni]
  have EH := Lib.hid eh
  simp only [hni, Option.map_none, Option.getD_none, Option.isSome_none] at hlk
  obtain ⟨nl, F, f1, f2, f3⟩ := HW.out.last
  have hl1 : ∀ n, (Instr.lookup 63 (.map (some m1)) (.agg #[.int .i64 (d : Int), .int .i64 (a : Int)]) false).run Tryz.prog (w2.drewN n) = .ok (.agg (secA (s.last d a))) (w2.drewN n) := by
   intro n
   have := (f2.drewN n).look Tryz.underlying63 (zero_sector _) (show d < 4611686018427387904 by have := H0.out.nd2; omega) (show a < 4611686018427387904 by have := H0.out.ns2; omega) false
   rw [f3 d a (by have := H0.out.nd2; omega) (by have := H0.out.ns2; omega)] at this
   exact this
  clear hni eh f1 f2 f3
  go_quiet (fail)
  go_wp2_with fail
  refine region_quiet_tail 6 (by kernel_rfl) (by kernel_rfl) ?_
  simp only [List.take_succ_cons, List.take_zero, List.drop_succ_cons, List.drop_zero]
  simp only [World.drewN_drewN]
  repeat (quiet_step (fail))
  refine wpQuiet_nil ?_
  rintro _ ⟨nq, rfl⟩
  refine wpList_storeBlk rfl 122 (.tmp 4) (.tmp 30) rfl (w.heap.size + 1) (secA zeros) (secA (s.last d a)) rfl rfl (B2.out.drewN _) (by rw [secA_size]; exact isize_sector) (by rw [secA_size, secA_size]) (secA_one _) ?_
  intro w4 hb4 hg4 hs4
  have H4 := Lib.hid ((HW.out.drewN _).grownFar (B2.out.drewN _) rfl hg4)
  have K4 := Lib.hid ((K2.out.drewN _).grownNew hg4 (by omega) (Nat.le_trans HW.out.le (Nat.le_refl _)) (by omega))
  have HL := Lib.hid (loadVar_blk hb4 Tryz.underlying122 rfl (by rw [secA_size]; exact isize_sector))
  clear hb4 hg4 hs4 hl1 hlk
  go_wp2_with fail
  refine bodyPost_ret (results_cell rfl rfl HL.out) rfl ?_
  rw [EH.out]
  exact ⟨rfl, ⟨H0.out, m1, m2, _, H4.out⟩, K4.out⟩
end Go.Proofs.YtkbndlnmbbbohaaGreatDoor
namespace Go.Proofs.YtkbndlnmbbbohaaGreatDoor
set_option maxRecDepth 100000
open Go.RowKit
set_option linter.unusedVariables false
theorem own_base {w : World} {B B' n c : Nat} {e : TypeId} {v : Value} {xs : List Value} (h : w.ownsRow B e c v n xs) (hb : B' ≤ B) : w.ownsRow B' e c v n xs := by
 refine ⟨h.1, ?_⟩
 rcases h.2 with e | ⟨g, cap, cur, e, h1, h2⟩
 ·exact .inl e
 ·exact .inr ⟨g, cap, cur, e, by omega, h2⟩
def rowL (n : Nat) (X : Nat → Nat) : List Value := (List.range n).map fun j => Value.int .u8 ((X j : Nat) : Int)
theorem rowL_length (n : Nat) (X : Nat → Nat) : (rowL n X).length = n := by simp [rowL]
theorem rowL_get {n j : Nat} (X : Nat → Nat) (h : j < n) : (rowL n X)[j]? = some (.int .u8 ((X j : Nat) : Int)) := by simp [rowL, h]
set_option maxRecDepth 100000 in
set_option maxHeartbeats 1600000 in
theorem clone_any (w : World) (g n c : Nat) (X : Nat → Nat) (hx : ∀ j, j < n → w.cell? ⟨g, j, none⟩ = some (.int .u8 ((X j : Nat) : Int))) (hn : n ≤ 70000) :
  Calls Tryz.prog 69 #[.slice (some ⟨g, 0, none⟩) n c] w fun e w' => ∃ v, e = .returned v ∧ w'.ownsRow w.heap.size 5 1 v n (rowL n X) ∧ Below w.heap.size w w' := by
 obtain ⟨i0, hi, hz0, hz1, hz2⟩ := info_parts info_u8
 have HX := Lib.hid hx
 clear hx
 have he : ∀ w : World, (binOp .eql 41 (.slice (some ⟨g, 0, none⟩) n c) (.slice none 0 0)).run Tryz.prog w = .ok (.bool false) w := by
  intro w
  simp only [binOp]
  simp [Op.equal, Op.maxDepth, Lib.run_equalIn_slice_nil w 9999 41 _ _ n c 0 0 Tryz.underlying41]
 go_enter Tryz.func69, Tryz.ntmps69
 have OW : Hid ((w.alloc (.cells #[] 5)).ownsRow w.heap.size 5 1 (.slice (some ⟨w.heap.size, 0, none⟩) 0 0) 0 []) :=
  ⟨rfl, .inr ⟨w.heap.size, 0, #[], rfl, Nat.le_refl _, (Blk.new w 5 #[]), Nat.le_refl _, by simp [maxLen], rfl, rfl⟩⟩
 go_wp2_with (at_builtin; refine wpList_append_own _ rfl (.tmp 5) (.tmp 6) 41 rfl w.heap.size 5 i0 (.int .u8 0) 1 1 Tryz.underlying41 hi hz0 hz1 hz2 rfl (by decide) _ _ _ rfl OW.out ⟨g, 0, none⟩ n c (rowL n X) rfl (by simp [rowL_length]) ?_ ?_ (by simp only [maxLen]; omega) (by omega) (by simp) ?_)
 ·intro j u hj
  have hjn : j < n := by have := (List.getElem?_eq_some_iff.1 hj).1; rw [rowL_length] at this; exact this
  rw [rowL_get X hjn] at hj
  injection hj with hj
  subst hj
  have h1 := HX.out j hjn
  rw [add_plain, Nat.zero_add]
  exact ((w.cell?_alloc_old _ _ (Nat.ne_of_lt (block_lt_of_cell h1))).trans h1)
 ·intro u hu
  simp only [rowL, List.mem_map] at hu
  obtain ⟨j, _, rfl⟩ := hu
  rfl
 ·intro v' w2 hv2 hg2 _
  have HV := Lib.hid hv2
  have HG := Lib.hid hg2
  clear hv2 hg2
  go_wp2_with fail
  go_ret
  refine ⟨v', rfl, ?_, ?_⟩
  ·exact HV.out
  ·exact ((Below.refl _ w).alloc (Nat.le_refl _) _).grown HG.out (by simp) (fun k hk => by
    injection hk with hk
    exact Nat.le_of_eq hk)
def RS.deny (s : RS) (D A : Int) : Int := if s.why D A = 0 then (if s.off then 16 else 0) else s.why D A
set_option maxRecDepth 100000 in
set_option maxHeartbeats 1600000 in
theorem read_no {B : Nat} (w : World) (r : Nat) (s : RS) (D A : Int) (h : RackAt B w r s) (hd : s.deny D A ≠ 0) :
  Calls Tryz.prog 120 #[.pointer (some ⟨r, 0, none⟩), .int .i64 D, .int .i64 A] w fun e w' => e = .returned (.tuple #[.slice none 0 0, .int .i64 (s.deny D A)]) ∧ RackAt B w' r s ∧ Keep B w w' := by
 have H1 := Lib.hid (h.alloc (.cells #[.int .i64 D, .int .i64 A] 119))
 have K1 := Lib.hid ((Keep.refl B w).alloc h.le (.cells #[.int .i64 D, .int .i64 A] 119))
 clear h
 go_enter Tryz.func120, Tryz.ntmps120
 go_wp2_with fail
 refine (reach_any _ r s D A H1.out).mono ?_
 rintro e w1 ⟨rfl, h2, k2, _, _⟩
 have H2 := Lib.hid h2
 have K2 := Lib.hid (K1.out.trans k2)
 clear h2 k2
 by_cases hw : s.why D A = 0
 ·have ed : s.deny D A = 16 := by
   unfold RS.deny at hd ⊢
   rw [if_pos hw] at hd ⊢
   by_cases ho : s.off = true
   ·rw [if_pos ho]
   ·rw [if_neg ho] at hd; exact absurd rfl hd
  have ho : s.off = true := by
   unfold RS.deny at ed
   rw [if_pos hw] at ed
   by_cases ho : s.off = true
   ·exact ho
   ·rw [if_neg ho] at ed; cases ed
  rw [hw]
  have ED := Lib.hid ed
  obtain ⟨_, m1, m2, v, hw2⟩ := H2.out
  have c21 := hw2.c21
  simp only [ho] at c21
  clear ed hd hw ho hw2
  go_wp2_with fail
  go_ret2
  rw [ED.out]
  exact ⟨rfl, H2.out, K2.out⟩
 ·have ed : s.deny D A = s.why D A := by unfold RS.deny; rw [if_neg hw]
  have ED := Lib.hid ed
  generalize s.why D A = y at *
  clear ed hd
  have t1 : (y = 0) = False := by simp [hw]
  go_wp2_with fail
  go_ret2
  rw [ED.out]
  exact ⟨rfl, H2.out, K2.out⟩
set_option maxRecDepth 100000 in
set_option maxHeartbeats 1600000 in
theorem read_ok {B : Nat} (w : World) (r : Nat) (s : RS) (d a : Nat) (h : RackAt B w r s) (hd : d < s.nd) (ha : a < s.ns) (hg : s.gone d = false) (ho : s.off = false) :
  Calls Tryz.prog 120 #[.pointer (some ⟨r, 0, none⟩), .int .i64 (d : Int), .int .i64 (a : Int)] w fun e w' => (∃ v, e = .returned (.tuple #[v, .int .i64 0]) ∧ w'.ownsRow w.heap.size 5 1 v 128 (rowL 128 (s.holds d a))) ∧ RackAt B w' r s ∧ Keep B w w' := by
 have H1 := Lib.hid (h.alloc (.cells #[.int .i64 (d : Int), .int .i64 (a : Int)] 119))
 have K1 := Lib.hid ((Keep.refl B w).alloc h.le (.cells #[.int .i64 (d : Int), .int .i64 (a : Int)] 119))
 have hwhy : s.why (d : Int) (a : Int) = 0 := by
  have e : s.isP (d : Int) (a : Int) = true := by simp [RS.isP, RS.isD]; omega
  unfold RS.why
  rw [if_pos e, Int.toNat_natCast, hg]
  rfl
 have b0 := Lib.hid (Blk.new w 119 #[.int .i64 (d : Int), .int .i64 (a : Int)])
 have hz := zero_sector
 clear h
 go_enter Tryz.func120, Tryz.ntmps120
 go_wp2_with fail
 refine (reach_any _ r s d a H1.out).mono ?_
 rintro e w1 ⟨rfl, h2, k2, _, _⟩
 have H2 := Lib.hid h2
 have K2 := Lib.hid (K1.out.trans k2)
 have b1 := k2.block b0.out rfl
 have hs1 : w.heap.size ≤ w1.heap.size := K2.out.below.size
 obtain ⟨_, m1, m2, v, hw2⟩ := h2
 have c21 := hw2.c21
 simp only [ho] at c21
 have p0 : w1.cell? ⟨w.heap.size, 0, none⟩ = some (.int .i64 (d : Int)) := b1.cell 0
 have p1 : w1.cell? ⟨w.heap.size, 1, none⟩ = some (.int .i64 (a : Int)) := b1.cell 1
 clear k2 hw2 b1
 rw [hwhy]
 clear hwhy
 go_wp2_with fail
 refine (holds_any _ r s d a H2.out hd ha).mono ?_
 rintro e w2 ⟨rfl, h3, k3⟩
 have H3 := Lib.hid h3
 have K3 := Lib.hid (K2.out.trans k3)
 have hs2 : w.heap.size ≤ w2.heap.size := K3.out.below.size
 clear h3 k3 p0 p1 c21
 go_wp2_with (with_reducible refine wpList_allocX ?_ 122 ?_ _ (alloc_sector _) ?_; rfl; rfl; refine of_hid ?_)
 refine Lib.hid ?_
 refine wpList_storeBlk rfl 122 (.tmp 10) (.tmp 26) rfl w2.heap.size (secA zeros) (secA (s.holds d a)) rfl rfl (Blk.new _ _ _) (by rw [secA_size]; exact isize_sector) (by rw [secA_size, secA_size]) (secA_one _) ?_
 intro w4 hb4 hg4 hs4
 have hs4' : w2.heap.size + 1 = w4.heap.size := by rw [hs4]; simp
 have H4 := Lib.hid ((H3.out.alloc _).grownFar (Blk.new _ _ _) rfl hg4)
 have K4 := Lib.hid ((K3.out.alloc H3.out.le _).grownNew hg4 (Nat.le_trans H3.out.le (Nat.le_refl _)) (H3.out.alloc _).le hs2)
 have hx : Hid (∀ j, j < 128 → w4.cell? ⟨w2.heap.size, j, none⟩ = some (.int .u8 ((s.holds d a j : Nat) : Int))) := fun j hj => (hb4.cell j).trans (rowArr_get hj)
 clear hb4 hg4 hs4
 go_wp2_with fail
 refine (clone_any _ _ 128 _ (s.holds d a) hx.out (by omega)).mono ?_
 rintro e w5 ⟨v5, rfl, ho5, hb5⟩
 have H5 := Lib.hid (H4.out.below hb5)
 have K5 := Lib.hid (K4.out.new hb5 H4.out.le)
 have O5 := Lib.hid (own_base ho5 (B' := w.heap.size) (by omega))
 clear ho5 hb5
 go_wp2_with fail
 go_ret2
 exact ⟨⟨_, rfl, O5.out⟩, H5.out, K5.out⟩
end Go.Proofs.YtkbndlnmbbbohaaGreatDoor
namespace Go.Proofs.YtkbndlnmbbbohaaGreatDoor
set_option maxRecDepth 100000
open Go
section
variable {P : Program} {md : Region.Mode} {ops : Array Oper} {Q : Exit → Act → World → Prop} {S : World → Prop} {z : Nat}
def AnyZ (P : Program) (md : Region.Mode) (ops : Array Oper) (Q : Exit → Act → World → Prop) (S : World → Prop) (z : Nat) : Nat → Array Bool → Act → World → Prop
 | 0, listed, a, w => Region.ready md ops listed = [] ∧ Q .normal a w
 | n + 1, listed, a, w => (Region.ready md ops listed = [] → Q .normal a w) ∧
  ∀ i ∈ Region.ready md ops listed, wpOp P ops Q i (fun a' w' => (i ≠ z → S w') ∧ AnyZ P md ops Q S z n (listed.setIfInBounds i true) a' w') a w
theorem AnyZ.any : ∀ (n : Nat) (listed : Array Bool) (a : Act) (w : World), AnyZ P md ops Q S z n listed a w → wpAny P md ops Q n listed a w
 | 0, _, _, _, h => h
 | n + 1, _, _, _, h => ⟨h.1, fun i hi => wpOp_mono (fun a' w' h' => AnyZ.any n _ a' w' h'.2) (h.2 i hi)⟩
theorem AnyZ.first {i : Nat} {oi : Oper} {v : Value} (hi : ops[i]? = some oi) (hsel : ∀ (j : Nat) (o : Oper) cs b, ops[j]? = some o → o.op ≠ .select cs b)
  (hQ : ∀ c a w, Q (.panic c) (a.put oi.dst v) w → Q (.panic c) a w) (hz : (Region.waitsFor md ops z i || decide (ops.size ≤ z)) = true) :
  ∀ (n : Nat) (listed : Array Bool) (a : Act) (w : World),
   (∀ j oj, ops[j]? = some oj → j ≠ i → listed.getD j true = false → (∀ e ∈ oj.after, Region.binds md e = true → e.on ≠ i) → oi.apart ops oj = true) →
   i ∈ Region.ready md ops listed → YieldsIf P ops S oi v a → S w →
   AnyZ P md ops Q S z n (listed.setIfInBounds i true) (a.put oi.dst v) w → AnyZ P md ops Q S z (n + 1) listed a w := by
 intro n
 induction n with
 | zero =>
  intro listed a w _ hr hy hS H
  refine ⟨fun h => (by rw [h] at hr; cases hr), fun j hj => ?_⟩
  by_cases hji : j = i
  ·subst hji
   exact hy.wpOp hi hS ⟨fun _ => hS, H⟩
  ·have h0 := ready_mono hj hji
   rw [H.1] at h0
   cases h0
 | succ n ih =>
  intro listed a w hfree hr hy hS H
  refine ⟨fun h => (by rw [h] at hr; cases hr), fun j hj => ?_⟩
  by_cases hji : j = i
  ·subst hji
   exact hy.wpOp hi hS ⟨fun _ => hS, H⟩
  ·have h1 := H.2 j (ready_mono hj hji)
   have hun := (mem_ready.1 hr).1
   obtain ⟨hjun, oj, hoj, hall⟩ := mem_ready.1 hj
   have hnot : ∀ e ∈ oj.after, Region.binds md e = true → e.on ≠ i := fun e he hb heq => by
    have h4 := hall e he hb
    rw [heq, getD_both hun] at h4
    cases h4
   have hjz : j ≠ z := by
    rintro rfl
    rcases Bool.or_eq_true _ _ |>.mp hz with hz | hz
    rotate_left
    ·have h1 := (Array.getElem?_eq_some_iff.1 hoj).1
     have h2 := of_decide_eq_true hz
     omega
    obtain ⟨o', ho', e, he, hb, hon⟩ := Region.waitsFor_spec hz
    rw [hoj] at ho'
    injection ho' with ho'
    subst ho'
    exact hnot e he hb hon
   have h2 := wpOp_putIf hoj (hfree j oj hoj hji hjun hnot) (fun cs b => hsel i oi cs b hi) (fun cs b => hsel j oj cs b hoj) hQ hy h1
   refine wpOp_mono (fun a' w' h3 => ⟨fun _ => h3.2.1 hjz, ih (listed.setIfInBounds j true) a' w' (fun k ok hk hki hunk hno => ?_) (ready_mono hr (Ne.symm hji)) h3.1 (h3.2.1 hjz) ?_⟩) h2
   ·refine hfree k ok hk hki ?_ hno
    by_cases hjk : j = k
    ·subst hjk
     exact hjun
    ·rw [getD_set_ne true hjk] at hunk
     exact hunk
   ·rw [Array.setIfInBounds_comm _ _ hji]
    exact h3.2.2
theorem AnyZ.take {i : Nat} {oi : Oper} {v : Value} {n : Nat} {listed : Array Bool} {a : Act} {w : World} (hi : ops[i]? = some oi)
  (hs : Region.noSelect ops = true) (hf : Region.free md ops listed i = true) (hr : (Region.ready md ops listed).contains i = true) (hz : (Region.waitsFor md ops z i || decide (ops.size ≤ z)) = true)
  (hQ : ∀ c a w, Q (.panic c) (a.put oi.dst v) w → Q (.panic c) a w) (hy : YieldsIf P ops S oi v a) (hS : S w)
  (h : AnyZ P md ops Q S z n (listed.setIfInBounds i true) (a.put oi.dst v) w) : AnyZ P md ops Q S z (n + 1) listed a w :=
 AnyZ.first hi (Region.noSelect_spec hs) hQ hz n listed a w (Region.free_spec hi hf) (by simpa using hr) hy hS h
theorem AnyZ.one {i : Nat} {n : Nat} {listed : Array Bool} {a : Act} {w : World} (hr : Region.ready md ops listed = [i])
  (h : wpOp P ops Q i (fun a' w' => (i ≠ z → S w') ∧ AnyZ P md ops Q S z n (listed.setIfInBounds i true) a' w') a w) : AnyZ P md ops Q S z (n + 1) listed a w :=
 ⟨fun h0 => (by rw [hr] at h0; cases h0), fun j hj => by
  rw [hr] at hj
  simp at hj
  subst hj
  exact h⟩
theorem AnyZ.done {n : Nat} {listed : Array Bool} {a : Act} {w : World} (hr : Region.ready md ops listed = []) (h : Q .normal a w) : AnyZ P md ops Q S z n listed a w := by
 cases n with
 | zero => exact ⟨hr, h⟩
 | succ n => exact ⟨fun _ => h, fun i hi => (by rw [hr] at hi; cases hi)⟩
theorem region_anyZ (S : World → Prop) (z : Nat) {id : Nat} {a : Act} {w : World} (hm : P.follows .mixedOrders = true) (h : AnyZ P .any ops Q S z ops.size (Array.replicate ops.size false) a w.drew) : (Code.region id ops true).wp P Q a w :=
 wp_region_any hm (AnyZ.any _ _ _ _ h)
theorem yields_if {o : Oper} {v : Value} {a : Act} (hg : o.guard = none) (h : ∀ w, S w → (execOp a.eval o).run P w = .ok (.value v) w) : YieldsIf P ops S o v a :=
 .inl ⟨by simp [Region.wanted, hg], fun w hw => h w hw⟩
theorem wpOp_val {i : Nat} {o : Oper} {v : Value} {a : Act} {w w' : World} {K : Act → World → Prop} (hi : ops[i]? = some o) (hg : o.guard = none) (hl : (execOp a.eval o).run P w = .ok (.value v) w') (h : K (a.put o.dst v) w') : wpOp P ops Q i K a w := by
 have hw : Region.wanted o (yielded ops a.tmps) = true := by simp [Region.wanted, hg]
 unfold wpOp
 simp only [hi, hw, if_true, Oper.wp, hl, Oper.upon]
 exact .inl h
theorem wpOp_skip {i : Nat} {o : Oper} {a : Act} {w w' : World} {K : Act → World → Prop} (hi : ops[i]? = some o) (hg : o.guard = none) (hl : (execOp a.eval o).run P w = .ok .skip w') (h : K (a.put o.dst undef) w') : wpOp P ops Q i K a w := by
 have hw : Region.wanted o (yielded ops a.tmps) = true := by simp [Region.wanted, hg]
 unfold wpOp
 simp only [hi, hw, if_true, Oper.wp, hl, Oper.upon]
 exact .inl h
theorem wpOp_op {i : Nat} {o : Oper} {a : Act} {w : World} {K : Act → World → Prop} (hi : ops[i]? = some o) (hg : o.guard = none) (h : o.wp P a w K Q) : wpOp P ops Q i K a w := by
 have hw : Region.wanted o (yielded ops a.tmps) = true := by simp [Region.wanted, hg]
 unfold wpOp
 simp only [hi, hw, if_true]
 exact .inl h
end
end Go.Proofs.YtkbndlnmbbbohaaGreatDoor
namespace Go.Proofs.YtkbndlnmbbbohaaGreatDoor
open Go Go.RowKit
set_option maxRecDepth 100000
section
variable {P : Program} {md : Region.Mode} {ops : Array Oper} {Q : Exit → Act → World → Prop} {S : World → Prop} {z : Nat}
theorem load_one {w : World} {p : Addr} {v : Value} {t : TypeId} {d : TypeDesc} (hu : P.underlying t = some d) (hd : d.isRow = false) (hc : w.cell? p = some v) : (Instr.loadAt t (.pointer (some p))).run P w = .ok v w := by
 have hagg : (isAgg t).run P w = .ok false w := by
  unfold isAgg
  rw [Sem.run_bind, run_underlying hu w]
  cases d <;> simp_all
 simp [Instr.loadAt, Instr.sureAddr, loadVar, Sem.run_bind, hagg, hc]
theorem store_one {w : World} {p : Addr} {v : Value} {t : TypeId} (hi : (P.info? t).map (·.size) = some 1) (hv : v.cells = #[v]) (h1 : v.oneCell' = true) (hc : (w.cell? p).isSome = true) (hf : w.frozen? p = false) (ha : p.add 0 = p) : (Instr.storeAt t (.pointer (some p)) v).run P w = .ok () (w.setCell p v) := by
 cases hq : P.info? t with
 | none => simp [hq] at hi
 | some i =>
  have hs : i.size = 1 := by simpa [hq] using hi
  obtain ⟨x, hx⟩ := Option.isSome_iff_exists.1 hc
  simp [Instr.storeAt, Instr.sureAddr, storeVar, Sem.run_bind, sizeOf, typeInfo, hq, hs, hv, storeCells, run_store P w p v .plain h1, hx, hf, ha]
theorem exec_load {w : World} {o : Oper} {a : Act} {ty : TypeId} {x : Operand} {p v : Value} (ho : o.op = .load ty x) (hx : a.eval x = p) (hl : (Instr.loadAt ty p).run P w = .ok v w) : (execOp a.eval o).run P w = .ok (.value v) w := by
 unfold execOp
 simp only [ho, hx, hl, Sem.run_bind, Sem.run_pure, Result.andThen_ok]
theorem exec_store {w w' : World} {o : Oper} {a : Act} {ty : TypeId} {x y : Operand} {p v : Value} (ho : o.op = .store ty x y) (hx : a.eval x = p) (hy : a.eval y = v) (hl : (Instr.storeAt ty p v).run P w = .ok () w') : (execOp a.eval o).run P w = .ok .skip w' := by
 unfold execOp
 simp only [ho, hx, hy, hl, Sem.run_bind, Sem.run_pure, Result.andThen_ok]
theorem exec_buildSlice1 {w w' : World} {o : Oper} {a : Act} {ty : TypeId} {n i : Nat} {x : Operand} {u v : Value} (ho : o.op = .buildSlice ty n #[(i, x)]) (hx : a.eval x = u) (hl : (Instr.buildSlice ty n #[(i, u)]).run P w = .ok v w') : (execOp a.eval o).run P w = .ok (.value v) w' := by
 unfold execOp
 simp only [ho, List.map_toArray, List.map_cons, List.map_nil, hx, hl, Sem.run_bind, Sem.run_pure, Result.andThen_ok]
theorem AnyZ.last_ {i n : Nat} {listed : Array Bool} {a : Act} {w : World} (hr : Region.ready md ops listed = [i]) (hd : Region.ready md ops (listed.setIfInBounds i true) = [])
  (hz : i = z) (h : wpOp P ops Q i (fun a' w' => Q .normal a' w') a w) : AnyZ P md ops Q S z (n + 1) listed a w :=
 AnyZ.one hr (wpOp_mono (fun _ _ h' => ⟨fun hne => absurd hz hne, AnyZ.done hd h'⟩) h)
end
end Go.Proofs.YtkbndlnmbbbohaaGreatDoor
namespace Go.Proofs.YtkbndlnmbbbohaaGreatDoor
set_option maxRecDepth 100000
open Go.RowKit
set_option linter.unusedVariables false
def waitI (D A : Int) (x : Nat → Nat) : Array Value := #[.int .i64 D, .int .i64 A] ++ secA x
theorem waitI_size (D A : Int) (x : Nat → Nat) : (waitI D A x).size = 130 := by simp [waitI, secA, rowArr_size]
theorem waitI_one (D A : Int) (x : Nat → Nat) : (waitI D A x).all (·.oneCell') = true := by
 unfold waitI
 rw [Array.all_append, secA_one]
 simp [Value.oneCell']
theorem waitI_0 (D A : Int) (x : Nat → Nat) : (waitI D A x)[0]? = some (.int .i64 D) := by
 unfold waitI
 rw [Array.getElem?_append_left (by simp)]
 rfl
theorem waitI_1 (D A : Int) (x : Nat → Nat) : (waitI D A x)[1]? = some (.int .i64 A) := by
 unfold waitI
 rw [Array.getElem?_append_left (by simp)]
 rfl
theorem zset (D A : Int) : ((waitA ⟨0, 0, zeros⟩).toList.set 0 (.int .i64 D)).set 1 (.int .i64 A) = (waitI D A zeros).toList := by
 unfold waitA waitI
 rw [Array.toList_append, Array.toList_append]
 rfl
theorem new_waiting (w : World) (D A : Int) : ∃ Z : Array Value, Z.size = 130 ∧ (∀ w, (Sem.run Tryz.prog (zeroValue 124) w) = .ok (.agg Z) w) ∧
  (storeCells ⟨w.heap.size, 0, none⟩ ((Z.toList.set 0 (.int .i64 D)).set 1 (.int .i64 A)) 0).run Tryz.prog (w.alloc (.cells Z 124)) = .ok () (w.alloc (.cells (waitI D A zeros) 124)) := by
 refine ⟨waitA ⟨0, 0, zeros⟩, waitA_size _, zero_waiting, ?_⟩
 rw [zset]
 exact run_storeCells_new w _ _ _ (by rw [waitI_size]; exact isize_waiting) (by rw [waitA_size, waitI_size]) (waitI_one D A zeros)
def RS.wrote (s : RS) (d a : Nat) (X : Nat → Nat) : RS := { s with nw := s.nw + 1, W := fun i => if i = s.nw then ⟨d, a, X⟩ else s.W i, cost := s.cost + 1 }
theorem copyW (D A : Int) (X : Nat → Nat) : ((waitI D A zeros).toList.take 2 ++ (rowL 128 X ++ (waitI D A zeros).toList.drop (2 + (rowL 128 X).length))).toArray = waitI D A X := by
 have e1 : (waitI D A zeros).toList.take 2 = [.int .i64 D, .int .i64 A] := by
  unfold waitI
  rw [Array.toList_append, List.take_append_of_le_length (by simp)]
  rfl
 have e2 : (waitI D A zeros).toList.drop (2 + (rowL 128 X).length) = [] := by
  rw [List.drop_eq_nil_iff, Array.length_toList, waitI_size, rowL_length]
  omega
 have e3 : (secA X).toList = rowL 128 X := by
  apply List.ext_getElem?
  intro j
  rw [Array.getElem?_toList]
  by_cases hj : j < 128
  ·rw [rowL_get X hj]
   exact rowArr_get hj
  ·rw [Array.getElem?_eq_none (by rw [secA_size]; omega), List.getElem?_eq_none (by rw [rowL_length]; omega)]
 rw [e1, e2, List.append_nil, ← e3]
 unfold waitI
 apply Array.toList_inj.1
 simp
theorem spent_same (s : RS) : s.spent.nd = s.nd ∧ s.spent.ns = s.ns ∧ s.spent.nw = s.nw ∧ s.spent.W = s.W ∧ s.spent.cost = s.cost ∧ s.spent.last = s.last ∧ s.spent.gone = s.gone := by
 unfold RS.spent
 split
 ·exact ⟨rfl, rfl, rfl, rfl, rfl, rfl, rfl⟩
 ·split
  ·exact ⟨rfl, rfl, rfl, rfl, rfl, rfl, rfl⟩
  ·split <;> exact ⟨rfl, rfl, rfl, rfl, rfl, rfl, rfl⟩
section
variable {B : Nat} {a w w' w4 w5 w6 w7 : World} {r m1 m2 : Nat} {v v' : Value} {s : RS}
theorem Keep.grownRow (h : Keep B a w) {n c : Nat} {xs : List Value} (hr : w.ownsRow B 124 c v n xs) (hB : B ≤ w.heap.size) (hg : w.grownBy w' v.ownBlock) : Keep B a w' := by
 cases hv : v.ownBlock with
 | none =>
  rw [hv] at hg
  exact h.new ⟨hg.os, hg.tape, hg.output, hg.size, fun k hk => hg.block k hk (fun e => by cases e)⟩ hB
 | some g =>
  rw [hv] at hg
  obtain ⟨h1, cs, h2⟩ := own_blk hr hv
  exact h.of_grown hg h1 hB (fun o ho => by
   unfold Blk at h2
   rw [h2] at ho
   injection ho with ho
   subst ho
   rfl)
theorem RackK.wrote (h : RackK B w4 r m1 m2 v s s.nw) {d a : Nat} {X : Nat → Nat} (hg5 : w4.grownBy w5 (some m2)) (hm5 : MapF w5 m2 (s.nw + 1) (putF (fun d a => (newIn s.W d a s.nw).map iv) d a (.int .i64 (s.nw : Int)))) (n6 : Below w5.heap.size w5 w6)
  (hg7 : w6.grownBy w7 v.ownBlock) (hr7 : w7.ownsRow B 124 130 v' (s.nw + 1) (flat s.W s.nw ++ (waitI d a X).toList)) : RackW B (w7.setCell ⟨r, 3, none⟩ v') r m1 m2 v' (s.wrote d a X) := by
 obtain ⟨n, F, f1, f2, f3⟩ := h.last
 have b5 := h.blk.grown hg5 (fun e => h.ne2 (by injection e with e; exact e.symm))
 have b7 := (b5.new_ n6).grown hg7 (fun e => h.row_ne e.symm)
 have l5 := f2.grown hg5 (fun e => h.ne (by injection e))
 have l7 := (l5.block (n6.block m1 l5.lt)).grown hg7 (fun e => h.row_ne1 e.symm)
 have k7 := (hm5.block (n6.block m2 hm5.lt)).grown hg7 (fun e => h.row_ne2 e.symm)
 have hne : v'.ownBlock ≠ some r := fun e => by
  obtain ⟨_, cs, hb⟩ := own_blk hr7 e
  exact Blk.ne_ hb b7 (by decide) rfl
 have eW : (s.wrote d a X).W s.nw = ⟨d, a, X⟩ := if_pos rfl
 have eV : ∀ i, i < s.nw → (s.wrote d a X).W i = s.W i := fun i hi => if_neg (Nat.ne_of_lt hi)
 refine ⟨?_, h.hr, h.h1, h.h2, h.ne, ⟨n, F, ?_, l7.setCell (p := ⟨r, 3, none⟩) h.ne1 _, f3⟩, ?_, ?_⟩
 ·have := b7.set_ 3 v'
  rw [rackA_set (s' := s.wrote d a X) (m1' := m1) (m2' := m2) (v' := v') (u := v') (by omega) rfl (fun j hj hn => by
   unfold rackCell
   simp only [RS.wrote, if_neg hn])] at this
  exact this
 ·show n + (s.nw + 1) ≤ s.cost + 1
  omega
 ·refine (k7.setCell (p := ⟨r, 3, none⟩) h.ne2 _).congr fun d' a' _ _ => ?_
  have h1 := newIn_put (s.wrote d a X).W s.nw d' a'
  rw [eW] at h1
  refine Eq.trans ?_ h1
  unfold putF
  dsimp only
  rw [newIn_congr (W := (s.wrote d a X).W) (V := s.W) (fun i hi => by rw [eV i hi]; exact ⟨rfl, rfl⟩)]
 ·have e : flat (s.wrote d a X).W (s.wrote d a X).nw = flat s.W s.nw ++ (waitI d a X).toList := by
   show flat (s.wrote d a X).W s.nw ++ (waitA ((s.wrote d a X).W s.nw)).toList = _
   rw [eW, flat_congr eV]
   rfl
  rw [e]
  refine ⟨hr7.1, ?_⟩
  rcases hr7.2 with e | ⟨g, cap, cur, rfl, g1, g2, g3⟩
  ·exact .inl e
  ·exact .inr ⟨g, cap, cur, rfl, g1, (Below.heap_setCell w7 ⟨r, 3, none⟩ _ g (fun e => hne (by rw [e]; rfl))).trans g2, g3⟩
theorem RS.ok.wrote (h : s.ok) {d a : Nat} {X : Nat → Nat} (hd : d < s.nd) (ha : a < s.ns) (hX : ∀ j, j < 128 → X j < 256) (hc : s.cost + 1 ≤ 1000000) : (s.wrote d a X).ok := by
 refine ⟨h.nd1, h.nd2, h.ns1, h.ns2, h.left, hc, fun i hi => ?_, h.lp⟩
 by_cases e : i = s.nw
 ·have : (s.wrote d a X).W i = ⟨d, a, X⟩ := if_pos e
  rw [this]
  exact ⟨hd, ha, hX⟩
 ·have : (s.wrote d a X).W i = s.W i := if_neg e
  rw [this]
  exact h.wp i (by have : i < s.nw + 1 := hi; omega)
end
theorem info_waiting : (Tryz.prog.info? 124).map (fun i => (i.zero, i.size, i.bytes)) = some (some (.agg (waitI 0 0 zeros)), 130, 144) := by kernel_rfl
theorem isize_waits : (Tryz.prog.info? 64).map (·.size) = some 1 := by kernel_rfl
theorem bs_waiting (D A : Int) (X : Nat → Nat) (w : World) : (Instr.buildSlice 64 1 #[(0, .agg (waitI D A X))]).run Tryz.prog w = .ok (.slice (some ⟨w.heap.size, 0, none⟩) 1 1) (w.alloc (.cells (waitI D A X) 124)) := by kernel_rfl
theorem waitI_cells1 (D A : Int) (X : Nat → Nat) : (waitI D A X).toList.length = 1 * 130 := by rw [Array.length_toList, waitI_size]
theorem wp_append_wait {w : World} {o : Oper} {a : Act} {K : Act → World → Prop} {Q : Exit → Act → World → Prop} (s x : Operand) (ho : o.op = .call { callee := .builtin .append, args := #[s, x], argTypes := #[64, 64] })
  (B : Nat) (v : Value) (n : Nat) (xs : List Value) (hs : a.eval s = v) (hown : w.ownsRow B 124 130 v n xs) (g : Nat) (D A : Int) (X : Nat → Nat) (hx : a.eval x = .slice (some ⟨g, 0, none⟩) 1 1) (hb : Blk w g 124 (waitI D A X))
  (hn : n ≤ 1000000) (hB : B ≤ w.heap.size)
  (h : ∀ g' cap w', w'.ownsRow B 124 130 (.slice (some ⟨g', 0, none⟩) (n + 1) cap) (n + 1) (xs ++ (waitI D A X).toList) → w.grownBy w' v.ownBlock → (v.ownBlock = some g' ∨ g' = w.heap.size) → g' < w'.heap.size → K (a.put o.dst (.slice (some ⟨g', 0, none⟩) (n + 1) cap)) w') : o.wp Tryz.prog a w K Q := by
 obtain ⟨i0, hi, hz0, hz1, hz2⟩ := info_parts info_waiting
 have hl : (Value.agg (waitI 0 0 zeros)).cells.size = 130 := waitI_size 0 0 zeros
 exact wp_append_lies w s x 64 ho B 124 i0 (.agg (waitI 0 0 zeros)) 130 144 Tryz.underlying64 hi hz0 hz1 hz2 hl (by omega) v n xs hs hown ⟨g, 0, none⟩ 1 1 (waitI D A X).toList hx (waitI_cells1 D A X) (World.news_of_block hb) (fun u hu => (Array.all_eq_true_iff_forall_mem.1 (waitI_one D A X)) u (by simpa using hu)) (by omega) (by simp only [maxLen]; omega) (by omega) hB _ rfl h
def AppS (r wx : Nat) (v : Value) (cs : Array Value) (w : World) : Prop := w.cell? ⟨r, 3, none⟩ = some v ∧ Blk w wx 124 cs
end Go.Proofs.YtkbndlnmbbbohaaGreatDoor
