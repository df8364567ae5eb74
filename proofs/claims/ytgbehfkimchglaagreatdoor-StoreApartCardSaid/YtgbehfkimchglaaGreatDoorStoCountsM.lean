/-
 What a store counts is told. The condition: the store stands.
-/
import Derived.Test.YtgbehfkimchglaaGreatDoorDrawSplitM
import Derived.Test.YtgbehfkimchglaaGreatDoorStoPut
import Derived.Test.YtgbehfkimchglaaGreatDoorRackPowerM
import Derived.BigQuiet
namespace Go.Proofs.YtgbehfkimchglaaGreatDoor
open Go Go.RowKit refRack
set_option maxRecDepth 100000
set_option linter.unusedVariables false
namespace Sto
open Sp Arr
theorem size_counts : (Tryz.prog.info? 31).map (·.size) = some 5 := by kernel_rfl
section
variable {B : Nat} {w w' : World} {p a r sp m : Nat} {lk : Int} {v : Value} {S : St}
def cntV (S : St) : Array Value := #[.int .i64 ((S.c0 : Int) + (S.c1 : Int)), .int .i64 (S.c0 : Int), .int .i64 (S.c1 : Int), .int .i64 (S.c2 : Int), .int .i64 (S.c3 : Int)]
theorem told_pre {w : World} {q : Nat} {S : St} (X : Blk w q 31 #[.int .i64 0, .int .i64 0, .int .i64 0, .int .i64 0, .int .i64 0]) :
  Blk (((((w.setCell ⟨q, 0, none⟩ (.int .i64 ((S.c0 : Int) + (S.c1 : Int)))).setCell ⟨q, 1, none⟩ (.int .i64 (S.c0 : Int))).setCell ⟨q, 2, none⟩ (.int .i64 (S.c1 : Int))).setCell ⟨q, 3, none⟩ (.int .i64 (S.c2 : Int))).setCell ⟨q, 4, none⟩ (.int .i64 (S.c3 : Int))) q 31 (cntV S) ∧
  Only q w (((((w.setCell ⟨q, 0, none⟩ (.int .i64 ((S.c0 : Int) + (S.c1 : Int)))).setCell ⟨q, 1, none⟩ (.int .i64 (S.c0 : Int))).setCell ⟨q, 2, none⟩ (.int .i64 (S.c1 : Int))).setCell ⟨q, 3, none⟩ (.int .i64 (S.c2 : Int))).setCell ⟨q, 4, none⟩ (.int .i64 (S.c3 : Int))) :=
 ⟨((((X.set_ 0 _).set_ 1 _).set_ 2 _).set_ 3 _).set_ 4 _, (((((Only.refl q w).setCell 0 _).setCell 1 _).setCell 2 _).setCell 3 _).setCell 4 _⟩
set_option maxHeartbeats 1600000 in
theorem told_any (w : World) (h : StoV B w p a r sp m lk v S) (hs : S.c0 + S.c1 ≤ 1000000) :
  Calls Tryz.prog 29 #[.pointer (some ⟨p, 6, none⟩)] w fun e w' => e = .returned (.agg (cntV S)) ∧ Below w.heap.size w w' := by
 obtain ⟨q, hq⟩ : ∃ q, q = w.heap.size := ⟨_, rfl⟩
 obtain ⟨wa, hwa⟩ : ∃ wa, wa = w.alloc (.cells #[.int .i64 0, .int .i64 0, .int .i64 0, .int .i64 0, .int .i64 0] 31) := ⟨_, rfl⟩
 have hba : Below w.heap.size w wa := by rw [hwa]; exact (Below.refl _ _).alloc (Nat.le_refl _) _
 have XQ : Hid (Blk wa q 31 #[.int .i64 0, .int .i64 0, .int .i64 0, .int .i64 0, .int .i64 0]) := Lib.hid (by rw [hwa, hq]; exact Blk.new _ _ _)
 have XP := Lib.hid (h.below hba).blk
 have HB := Lib.hid hba
 have LDH : Hid (∀ (i x : Nat), (stA a sp lk S.tx v S.c0 S.c1 S.c2 S.c3)[i]? = some (.int .i64 ((x : Nat) : Int)) → ∀ n, Calls Tryz.prog 78 #[.pointer (some ⟨p, i, none⟩)] (wa.drewN n) fun e w' => e = .returned (.int .i64 (x : Int)) ∧ w' = wa.drewN n) := Lib.hid fun i x hx n => load_cnt (wa.drewN n) p i x ((XP.out.cell i).trans hx)
 have HQ := Lib.hid hq
 have HWA := Lib.hid hwa
 have L6 := Lib.hid (LDH.out 6 S.c0 rfl)
 have L7 := Lib.hid (LDH.out 7 S.c1 rfl)
 have L8 := Lib.hid (load_cnt wa p 8 S.c2 ((XP.out.cell 8).trans rfl))
 have L9 := Lib.hid (LDH.out 9 S.c3 rfl)
 clear h hba hq hwa
 go_enter Tryz.func29, Tryz.ntmps29
 go_wp2_with fail
 rw [← HWA.out, ← HQ.out]
 refine L8.out.mono ?_
 rintro e w1 ⟨rfl, hw⟩
 have hw := hw.symm
 subst hw
 go_wp2_with fail
 go_quiet ((first | (go_at_call 78; first | exact Calls.quiet_of_same (L6.out _) | exact Calls.quiet_of_same (L7.out _) | exact Calls.quiet_of_same (L9.out _))))
 have XN := Lib.hid (XQ.out.below (below_drewN (Below.refl wa.heap.size wa) nq) XQ.out.lt)
 have q0 := XN.out.cell 0
 have q1 := XN.out.cell 1
 have q2 := XN.out.cell 2
 have q3 := XN.out.cell 3
 have q4 := XN.out.cell 4
 have z0 := XN.out.frozen 0
 have z1 := XN.out.frozen 1
 have z2 := XN.out.frozen 2
 have z3 := XN.out.frozen 3
 have z4 := XN.out.frozen 4
 have HT := Lib.hid (told_pre (S := S) XN.out)
 go_wp2_with fail
 refine bodyPost_ret (results_cell rfl rfl (loadVar_blk HT.out.1 Tryz.underlying31 rfl size_counts)) rfl ?_
 refine ⟨rfl, only_below HT.out.2 (HB.out.trans ((below_drewN (Below.refl wa.heap.size wa) nq).mono HB.out.size)) (by rw [HQ.out]; exact Nat.le_refl _) (Nat.le_refl _)⟩
end
end Sto
end Go.Proofs.YtgbehfkimchglaaGreatDoor
namespace Go.Proofs.YtgbehfkimchglaaGreatDoor
open Go Go.RowKit refRack
set_option maxRecDepth 100000
set_option linter.unusedVariables false
namespace Sto
open Sp Arr
section
variable {B : Nat} {w w' : World} {p a r sp m : Nat} {lk : Int} {v : Value} {S : St}
set_option maxHeartbeats 1600000 in
theorem counts_any (w : World) (h : StoV B w p a r sp m lk v S) (hs : S.c0 + S.c1 ≤ 1000000) :
  Calls Tryz.prog 10 #[.pointer (some ⟨p, 0, none⟩)] w fun e w' => e = .returned (.agg (cntV S)) ∧ Below w.heap.size w w' := by
 obtain ⟨q, hq⟩ : ∃ q, q = w.heap.size := ⟨_, rfl⟩
 obtain ⟨wa, hwa⟩ : ∃ wa, wa = w.alloc (.cells #[.int .i64 0, .int .i64 0, .int .i64 0, .int .i64 0, .int .i64 0] 31) := ⟨_, rfl⟩
 have hba : Below w.heap.size w wa := by rw [hwa]; exact (Below.refl _ _).alloc (Nat.le_refl _) _
 have XQ : Hid (Blk wa q 31 #[.int .i64 0, .int .i64 0, .int .i64 0, .int .i64 0, .int .i64 0]) := Lib.hid (by rw [hwa, hq]; exact Blk.new _ _ _)
 have HT := Lib.hid (told_any wa (h.below hba) hs)
 have HB := Lib.hid hba
 have HQ := Lib.hid hq
 have HWA := Lib.hid hwa
 clear h hba hq hwa
 go_enter Tryz.func10, Tryz.ntmps10
 go_wp2_with fail
 rw [← HWA.out, ← HQ.out]
 refine HT.out.mono ?_
 rintro e w1 ⟨rfl, hb⟩
 have XN := Lib.hid (XQ.out.below hb XQ.out.lt)
 have HB1 := Lib.hid (HB.out.trans (hb.mono HB.out.size))
 have q0 := XN.out.cell 0
 have q1 := XN.out.cell 1
 have q2 := XN.out.cell 2
 have q3 := XN.out.cell 3
 have q4 := XN.out.cell 4
 have z0 := XN.out.frozen 0
 have z1 := XN.out.frozen 1
 have z2 := XN.out.frozen 2
 have z3 := XN.out.frozen 3
 have z4 := XN.out.frozen 4
 have HP := Lib.hid (told_pre (S := S) XN.out)
 clear hb
 unfold cntV
 go_wp2_with fail
 refine bodyPost_ret (results_cell rfl rfl (loadVar_blk HP.out.1 Tryz.underlying31 rfl size_counts)) rfl ?_
 refine ⟨rfl, only_below HP.out.2 HB1.out (by rw [HQ.out]; exact Nat.le_refl _) (Nat.le_refl _)⟩
end
end Sto
end Go.Proofs.YtgbehfkimchglaaGreatDoor
