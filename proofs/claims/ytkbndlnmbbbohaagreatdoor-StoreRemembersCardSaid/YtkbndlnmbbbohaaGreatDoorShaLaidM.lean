/-
 The law's block on a rack, in plain words; and a struct of the law's from its box. No conditions beyond those that each theorem types.
-/
import Derived.Test.YtkbndlnmbbbohaaGreatDoorArrLawLayM
import Derived.Test.YtkbndlnmbbbohaaGreatDoorStoFrontM
import Derived.Test.YtkbndlnmbbbohaaGreatDoorStoReadM
import Derived.Test.YtkbndlnmbbbohaaGreatDoorRefAnewM
import Derived.Test.YtkbndlnmbbbohaaGreatDoorArrWriteM
import Derived.ProofKit
import Derived.ChangeArms
import Derived.WideShapes
import Derived.ChangeSlices
import Derived.Lib.SmallJoins
import Derived.Test.YtkbndlnmbbbohaaGreatDoorArrFitsM
import Derived.Test.YtkbndlnmbbbohaaGreatDoorArrCallsM
import Derived.Test.YtkbndlnmbbbohaaGreatDoorRows
import Derived.Test.YtkbndlnmbbbohaaGreatDoorChecked
import Derived.LaidMore
import Derived.OpenShut
import Derived.Stop.Joined
namespace Go.Proofs.YtkbndlnmbbbohaaGreatDoor
open Go Go.RowKit refRack
set_option maxRecDepth 100000
set_option linter.unusedVariables false
namespace Arr
structure LB (s : RS) (N n ad : Nat) (X : Nat → Nat) : Prop where
 nd : s.nd = N
 ns : s.ns = 9
 calm : s.calm
 gone : ∀ d, s.gone d = false
 cost : s.cost ≤ 32
 sound : Sound s 2 ad n X
theorem Sound.apart {s : RS} {f ad n at_ k : Nat} {X : Nat → Nat} {Y : Nat → Nat → Nat} (h : Sound s f ad n X) (hd : ad + cost s.nd n ≤ at_ ∨ at_ + k ≤ ad) : Sound (Arr.wrAll s f at_ Y k) f ad n X := fun i hi hg v hv => by
 have hl := (wrAll_like s f at_ Y k).1
 rw [hl.nd] at hi
 rw [hl.goneC] at hg
 rw [wrAll_holds, if_neg (by omega), hl.nd]
 exact h i hi hg v hv
end Arr
end Go.Proofs.YtkbndlnmbbbohaaGreatDoor
namespace Go.Proofs.YtkbndlnmbbbohaaGreatDoor
open Go Go.RowKit refRack
set_option maxRecDepth 100000
set_option linter.unusedVariables false
namespace Sto
open Sp Arr
def abcL : List Nat := [97, 98, 99]
theorem abc_str : strB 3 (fun j => abcL.getD j 0) = ⟨#[97, 98, 99]⟩ := by decide +kernel
theorem abc_cost : Arr.cost 5 3 = 4 := by decide
section
variable {B : Nat} {w w' : World}
theorem own_convS {n : Nat} {v : Value} {X : Nat → Nat} (h : w.ownsRow B 5 1 v n (rowL n X)) (hn : 0 < n) : (convert 41 9 v).run Tryz.prog w = .ok (.string (strB n X)) w := (Row8.of_own h hn).conv
def KPost (B : Nat) (w' : World) (p a r sp m : Nat) (sm : ByteArray) : Prop := ∃ v' S' x, StoV B w' p a r sp m 0 v' S' ∧ S'.c0 = 0 ∧ S'.c1 = 0 ∧ S'.c2 = 0 ∧ S'.c3 = 1 ∧ x.addr = 0 ∧ x.sum = sm ∧ x.dat = abcL ∧ S'.mem = [x]
set_option maxHeartbeats 3200000 in
theorem known_sto (w : World) (hl : Laid w) : Calls Tryz.prog 6 #[] w fun e w' => e = .returned (.bool true) ∧ Below w.heap.size w w' := by
 have HF : Hid (Calls Tryz.prog 19 #[.int .i64 5, .int .i64 9, .slice none 0 0, .int .i64 1] w fun e w' => ∃ g r a p sp m wd, e = .returned (.tuple #[.pointer (some ⟨g, 0, none⟩), .bool true, .bool true]) ∧
   Blk w' g 60 #[.pointer (some ⟨r, 0, none⟩), .pointer (some ⟨p, 0, none⟩), .pointer (some ⟨wd, 0, none⟩), .slice none 0 0] ∧ StoV w.heap.size w' p a r sp m 0 (.slice none 0 0) (new0 (RS.new 5 9) 1 1) ∧ Keep w.heap.size w w') := Lib.hid (fresh_any w 5 9 1 (by omega) (by omega) (by omega) (by omega) (by omega) (by omega))
 have HL := Lib.hid hl
 have hbs : ∀ W : World, (Instr.buildSlice 41 3 #[(0, .int .u8 97), (1, .int .u8 98), (2, .int .u8 99)]).run Tryz.prog W = .ok (.slice (some ⟨W.heap.size, 0, none⟩) 3 3) (W.alloc (.cells #[.int .u8 97, .int .u8 98, .int .u8 99] 5)) := fun W => by kernel_rfl
 have hcv : ∀ W : World, (convert 41 41 (.slice (some ⟨W.heap.size, 0, none⟩) 3 3)).run Tryz.prog (W.alloc (.cells #[.int .u8 97, .int .u8 98, .int .u8 99] 5)) = .ok (.slice (some ⟨W.heap.size, 0, none⟩) 3 3) (W.alloc (.cells #[.int .u8 97, .int .u8 98, .int .u8 99] 5 (3, 4))) := fun W => Lib.run_convert_bytes_const W 41 5 #[.int .u8 97, .int .u8 98, .int .u8 99] 3 3 Tryz.underlying41 Tryz.underlying5
 clear hl
 go_enter Tryz.func6, Tryz.ntmps6
 go_wp2_with fail
 refine HF.out.mono ?_
 rintro e w1 ⟨rg, r, a, p, sp, m, wd, rfl, x1, s1, k1⟩
 have S1 := Lib.hid s1
 have X1 := Lib.hid x1
 have K1 := Lib.hid k1
 have q1 : w1.cell? ⟨rg, 1, none⟩ = some (.pointer (some ⟨p, 0, none⟩)) := x1.cell 1
 have hcv1 := hcv w1
 obtain ⟨gd, hgd⟩ : ∃ gd, gd = w1.heap.size := ⟨_, rfl⟩
 obtain ⟨w2, hw2⟩ : ∃ w2, w2 = w1.alloc (.cells #[.int .u8 97, .int .u8 98, .int .u8 99] 5 (3, 4)) := ⟨_, rfl⟩
 have hb2 : Below w1.heap.size w1 w2 := by rw [hw2]; exact (Below.refl _ _).alloc (Nat.le_refl _) _
 have hd2 : Byt w2 (some ⟨gd, 0, none⟩) abcL := ⟨by decide, .inr ⟨gd, 0, #[.int .u8 97, .int .u8 98, .int .u8 99], (3, 4), rfl, by rw [hw2, hgd]; exact heap_alloc_new w1 _, fun j x hj => by
  have hj3 : j < 3 := (List.getElem?_eq_some_iff.1 hj).1
  rw [Nat.zero_add]
  rcases (show j = 0 ∨ j = 1 ∨ j = 2 by omega) with rfl | rfl | rfl <;> (injection hj with hj; subst hj; rfl)⟩⟩
 have S2 := Lib.hid (S1.out.below hb2)
 have K2 := Lib.hid (K1.out.new hb2 S1.out.le)
 have X2 := Lib.hid (X1.out.below hb2 X1.out.lt)
 have HR2 : Hid (Run (new0 (RS.new 5 9) 1 1) 5 9 0 0) := Lib.hid (Run.new 5 9 1 (by omega) (by omega) (by omega) (by omega) S1.out.spc.good)
 obtain ⟨sm, hsm⟩ : ∃ sm, sm = sumS 3 (fun j => abcL.getD j 0) := ⟨_, rfl⟩
 have HPU : Hid (Calls Tryz.prog 11 #[.pointer (some ⟨p, 0, none⟩), .slice (some ⟨gd, 0, none⟩) 3 3] w2 fun e w' => e = .returned (.tuple #[.agg #[.int .i64 0, .int .i64 3, .int .i64 1, .string sm], .int .i64 0]) ∧ KPost w.heap.size w' p a r sp m sm ∧ KeepT w.heap.size w2 w') := Lib.hid (by
  refine (put_run w2 S2.out (HL.out.below K2.out.below HL.out.pos) HL.out.pos HR2.out (by show 1 ≤ 1000000000; omega) (by show 0 ≤ 1000000; omega) gd 0 3 3 abcL hd2 rfl (by omega) (by omega) (Nat.le_refl _) (by decide) (by rw [abc_cost]; omega) (by rw [abc_cost]; omega) (by rw [abc_cost]; omega)).mono ?_
  rintro e w' ⟨rfl, ⟨v3, S', x, s3, r3, e1, e2, e3, e4, e5, ex, em, _⟩, k3⟩
  rw [hsm]
  exact ⟨rfl, ⟨v3, S', x, s3, e2, e3, e4, e5, ex.1, ex.2.1, ex.2.2, em⟩, k3⟩)
 clear hsm
 have HW2 := Lib.hid hw2
 have HGD := Lib.hid hgd
 clear hb2 hd2 hcv hw2 S1 X1 K1 x1 s1 k1 HF
 go_wp2_with fail
 rw [← HW2.out, ← HGD.out]
 refine HPU.out.mono ?_
 rintro e w3 ⟨rfl, ⟨v3, S', x, s3, e2, e3, e4, e5, x1, x2, x3, em⟩, k3⟩
 have hxm : x ∈ S'.mem := by rw [em]; exact List.mem_singleton.2 rfl
 have hx3 : x.hn = 3 := by rw [(s3.row.ok x hxm).len, x3]; rfl
 have HXX := Lib.hid (⟨x1, x2, x3, em, hx3, e2, e3, e4, e5⟩ : _ ∧ _ ∧ _ ∧ _ ∧ _ ∧ _ ∧ _ ∧ _ ∧ _)
 have S3 := Lib.hid s3
 have K3 : Hid (Below w.heap.size w w3) := Lib.hid (K2.out.below.trans k3.below)
 have X3 : Hid (Blk w3 rg 60 #[.pointer (some ⟨r, 0, none⟩), .pointer (some ⟨p, 0, none⟩), .pointer (some ⟨wd, 0, none⟩), .slice none 0 0]) := Lib.hid (k3.kept _ _ X2.out rfl)
 have hnew := Blk.new w3 38 #[.int .i64 0, .int .i64 0, .int .i64 0, .string ⟨#[]⟩]
 have d0 := hnew.cell 0
 have d1 := hnew.cell 1
 have d2 := hnew.cell 2
 have d3 := hnew.cell 3
 have z0 := hnew.frozen 0
 have z1 := hnew.frozen 1
 have z2 := hnew.frozen 2
 have z3 := hnew.frozen 3
 have HNEW := Lib.hid hnew
 clear hnew hxm hx3 x1 x2 x3 em e2 e3 e4 e5 s3 k3 HPU S2 K2 X2 HR2 hcv1 q1 hgd
 go_upto_region 5 with (fail)
 obtain ⟨pb, hpb⟩ : ∃ pb, pb = w3.heap.size := ⟨_, rfl⟩
 rw [← hpb] at HNEW ⊢
 obtain ⟨w4, hw4⟩ : ∃ w4, w4 = w3.alloc (.cells #[.int .i64 0, .int .i64 3, .int .i64 1, .string sm] 38) := ⟨_, rfl⟩
 have hb4 : Blk w4 pb 38 #[.int .i64 0, .int .i64 3, .int .i64 1, .string sm] := by rw [hw4, hpb]; exact Blk.new _ _ _
 rw [← hw4]
 have hb34 : Below w3.heap.size w3 w4.drew := by
  rw [hw4]
  exact ((Below.refl w3.heap.size w3).alloc (Nat.le_refl _) _).drew
 have S4 := Lib.hid (S3.out.below hb34)
 have K4 := Lib.hid (K3.out.trans (hb34.mono K3.out.size))
 have HRG := Lib.hid (X3.out.below hb34 X3.out.lt)
 have HS0 : Hid (w4.drew.cell? ⟨rg, 1, none⟩ = some (.pointer (some ⟨p, 0, none⟩)) ∧ Blk w4.drew pb 38 #[.int .i64 0, .int .i64 3, .int .i64 1, .string sm]) := Lib.hid ⟨HRG.out.cell 1, hb4⟩
 have HGE : Hid (Calls Tryz.prog 18 #[.pointer (some ⟨p, 0, none⟩), .agg #[.int .i64 0, .int .i64 3, .int .i64 1, .string sm]] w4.drew fun e w' => ∃ vb, e = .returned (.tuple #[vb, .int .i64 0]) ∧ w'.ownsRow w4.drew.heap.size 5 1 vb 3 (rowL 3 fun j => abcL.getD j 0) ∧
   (∃ v', StoV w.heap.size w' p a r sp m 0 v' { S' with mem := Sto.cut 0 S'.mem ++ [x], c0 := S'.c0 + 1 }) ∧ KeepM w.heap.size w4.drew w') := Lib.hid (by
  have h := get_hit w4.drew S4.out (by rw [HXX.out.2.2.2.1]; show 1 ≤ 64; omega) (by rw [HXX.out.2.2.2.2.2.1]; omega) 0 1 x (by
   have hi : idx 0 [x] = 0 := by unfold idx; rw [List.findIdx_cons]; simp [HXX.out.1]
   rw [HXX.out.2.2.2.1, hi]
   rfl) (by rw [HXX.out.2.2.1]; decide)
  rw [HXX.out.2.1, HXX.out.2.2.1, HXX.out.2.2.2.2.1] at h
  exact h)
 clear hb4 hb34 hw4 hpb HNEW d0 d1 d2 d3 z0 z1 z2 z3 S3 X3
 refine region_anyZ (fun W => W.cell? ⟨rg, 1, none⟩ = some (.pointer (some ⟨p, 0, none⟩)) ∧ Blk W pb 38 #[.int .i64 0, .int .i64 3, .int .i64 1, .string sm]) 11 (by kernel_rfl) ?_
 refine takeG 0 (.move (.tmp 1)) (some 30) none (.pointer (some ⟨rg, 0, none⟩)) (by kernel_rfl) (by kernel_rfl) (by kernel_rfl) (fun _ _ _ h => h) (fun o' wq e hS => exec_move wq e (by kernel_rfl)) HS0.out ?_
 refine takeG 1 (.nilCheck (.tmp 30)) (some 31) none (.pointer (some ⟨rg, 0, none⟩)) (by kernel_rfl) (by kernel_rfl) (by kernel_rfl) (fun _ _ _ h => h) (fun o' wq e hS => exec_nil wq e (by kernel_rfl)) HS0.out ?_
 refine takeG 2 (.fieldAddr 60 (.tmp 31) 1) (some 32) none (.pointer (some ⟨rg, 1, none⟩)) (by kernel_rfl) (by kernel_rfl) (by kernel_rfl) (fun _ _ _ h => h) (fun o' wq e hS => exec_field (u := .pointer (some ⟨rg, 0, none⟩)) wq e (by kernel_rfl) (by kernel_rfl)) HS0.out ?_
 refine takeG 3 (.load 32 (.tmp 32)) (some 33) none (.pointer (some ⟨p, 0, none⟩)) (by kernel_rfl) (by kernel_rfl) (by kernel_rfl) (fun _ _ _ h => h) (fun o' wq e hS => exec_load (x := (.tmp 32)) e (by kernel_rfl) (load_one Tryz.underlying32 (by kernel_rfl) hS.1)) HS0.out ?_
 refine takeG 4 (.load 38 (.tmp 4)) (some 34) none (.agg #[.int .i64 0, .int .i64 3, .int .i64 1, .string sm]) (by kernel_rfl) (by kernel_rfl) (by kernel_rfl) (fun _ _ _ h => h) (fun o' wq e hS => exec_load (x := (.tmp 4)) e (by kernel_rfl) (load_blk hS.2 Tryz.underlying38 rfl size_ptr)) HS0.out ?_
 refine loneG 5 (.call ⟨.value (.func 18), #[(.tmp 33), (.tmp 34)], #[32, 38]⟩) (some 35) none (by kernel_rfl) (by kernel_rfl) (by kernel_rfl) ?_
 intro o' ho hod
 refine wp_callC (f := 18) (args := #[.pointer (some ⟨p, 0, none⟩), .agg #[.int .i64 0, .int .i64 3, .int .i64 1, .string sm]]) (by cases o'; cases ho; kernel_rfl) HGE.out ?_
 rintro ee w6 ⟨vb, rfl, ow, ⟨v6, s6⟩, k6⟩
 refine ⟨_, rfl, ?_⟩
 rw [hod]
 clear hod ho
 have HOW := Lib.hid ow
 have S6 := Lib.hid s6
 have K6 := Lib.hid k6
 have HS1 : Hid (w6.cell? ⟨rg, 1, none⟩ = some (.pointer (some ⟨p, 0, none⟩)) ∧ Blk w6 pb 38 #[.int .i64 0, .int .i64 3, .int .i64 1, .string sm]) := Lib.hid (by
  have hx : Blk w6 rg 60 _ := k6.kept _ _ HRG.out rfl
  exact ⟨hx.cell 1, k6.kept _ _ HS0.out.2 rfl⟩)
 clear ow s6 k6
 refine ⟨fun _ => HS1.out, ?_⟩
 refine takeG 6 (.move (.tmp 35)) (some 29) none (.tuple #[vb, .int .i64 0]) (by kernel_rfl) (by kernel_rfl) (by kernel_rfl) (fun _ _ _ h => h) (fun o' wq e hS => exec_move wq e (by kernel_rfl)) HS1.out ?_
 refine takeG 7 (.extract (.tmp 29) 0) (some 36) none (vb) (by kernel_rfl) (by kernel_rfl) (by kernel_rfl) (fun _ _ _ h => h) (fun o' wq e hS => exec_ext (vs := #[vb, .int .i64 0]) wq e (by kernel_rfl) (by rfl)) HS1.out ?_
 refine takeG 8 (.extract (.tmp 29) 1) (some 37) none (.int .i64 0) (by kernel_rfl) (by kernel_rfl) (by kernel_rfl) (fun _ _ _ h => h) (fun o' wq e hS => exec_ext (vs := #[vb, .int .i64 0]) wq e (by kernel_rfl) (by rfl)) HS1.out ?_
 refine loneG 9 (.assign (.tmp 36)) (some 6) none (by kernel_rfl) (by kernel_rfl) (by kernel_rfl) ?_
 intro o' ho hod
 refine wp_val (v := vb) (exec_assign _ ho (by kernel_rfl)) ?_
 rw [hod]
 clear hod ho
 refine ⟨fun _ => HS1.out, ?_⟩
 refine lastS 10 (.assign (.tmp 37)) (some 7) (.int .i64 0) (by kernel_rfl) (by kernel_rfl) (by kernel_rfl) HS1.out (fun o' e => exec_assign _ e (by kernel_rfl)) ?_
 simp only [put_some, put_none, List.setIfInBounds_toArray, List.set_cons_succ, List.set_cons_zero]
 have HCO : Hid (Calls Tryz.prog 17 #[.pointer (some ⟨p, 0, none⟩)] w6 fun e w' => e = .returned (.agg #[.int .i64 1, .int .i64 1, .int .i64 0, .int .i64 0, .int .i64 1]) ∧ Below w6.heap.size w6 w') := Lib.hid (by
  have h := counts_any w6 S6.out (by show S'.c0 + 1 + S'.c1 ≤ 1000000; rw [HXX.out.2.2.2.2.2.1, HXX.out.2.2.2.2.2.2.1]; omega)
  unfold cntV at h
  dsimp only at h
  rw [HXX.out.2.2.2.2.2.1, HXX.out.2.2.2.2.2.2.1, HXX.out.2.2.2.2.2.2.2.1, HXX.out.2.2.2.2.2.2.2.2] at h
  exact h)
 have hcv : (convert 41 9 vb).run Tryz.prog w6 = .ok (.string ⟨#[97, 98, 99]⟩) w6 := by
  have h := own_convS HOW.out (by omega)
  rw [abc_str] at h
  exact h
 have heq : ∀ W : World, (binOp .eql 50 (.agg #[.int .i64 1, .int .i64 1, .int .i64 0, .int .i64 0, .int .i64 1]) (.agg #[.int .i64 1, .int .i64 1, .int .i64 0, .int .i64 0, .int .i64 1])).run Tryz.prog W = .ok (.bool true) W := fun W => by kernel_rfl
 have k1 : w6.cell? ⟨pb, 1, none⟩ = some (.int .i64 3) := HS1.out.2.cell 1
 have k2 : w6.cell? ⟨pb, 2, none⟩ = some (.int .i64 1) := HS1.out.2.cell 2
 have k3 : w6.cell? ⟨rg, 1, none⟩ = some (.pointer (some ⟨p, 0, none⟩)) := HS1.out.1
 go_wp2_with fail
 refine HCO.out.mono ?_
 rintro e w7 ⟨rfl, b7⟩
 have B7 := Lib.hid (K4.out.trans (K6.out.below.trans (b7.mono (Nat.le_trans K4.out.size K6.out.below.size))))
 have heq7 := heq w7
 clear b7
 go_wp2_with fail
 go_ret
 exact ⟨rfl, B7.out⟩
end
end Sto
end Go.Proofs.YtkbndlnmbbbohaaGreatDoor
namespace Go.Proofs.YtkbndlnmbbbohaaGreatDoor
open Go Go.RowKit refRack
set_option maxRecDepth 100000
set_option linter.unusedVariables false
namespace Sto
open Sp Arr
def D2 (i : Nat) : List Nat := [i, 1]
def sm2 (i : Nat) : ByteArray := sumS 2 fun j => (D2 i).getD j 0
def kx (x : Kx) : Int × ByteArray × List Nat := (x.addr, x.sum, x.dat)
def bk (i : Nat) : Int × ByteArray × List Nat := (((4 * i : Nat) : Int), sm2 i, D2 i)
def Mm (l : List Kx) (y : List Nat) : Prop := l.map kx = y.map bk
theorem Mm.len {l : List Kx} {y : List Nat} (h : Mm l y) : l.length = y.length := by
 have := congrArg List.length h
 simpa using this
theorem Mm.idx {k : Nat} : ∀ {l : List Kx} {y : List Nat}, Mm l y → Sto.idx ((4 * k : Nat) : Int) l = y.findIdx (· == k)
 | [], [], _ => rfl
 | [], _ :: _, h => by cases h
 | _ :: _, [], h => by cases h
 | x :: l, i :: y, h => by
  injection h with h1 h2
  have ih := Mm.idx (k := k) (l := l) (y := y) h2
  injection h1 with h1 h3
  unfold Sto.idx at ih ⊢
  have hb : (x.addr == ((4 * k : Nat) : Int)) = (i == k) := by
   rw [Bool.eq_iff_iff, beq_iff_eq, beq_iff_eq]
   constructor
   ·intro e; have h4 := h1.symm.trans e; omega
   ·rintro rfl; exact h1
  rw [List.findIdx_cons, List.findIdx_cons, hb, ih]
theorem Mm.take {l : List Kx} {y : List Nat} (h : Mm l y) (n : Nat) : Mm (l.take n) (y.take n) := by
 unfold Mm at *; rw [List.map_take, List.map_take, h]
theorem Mm.drop {l : List Kx} {y : List Nat} (h : Mm l y) (n : Nat) : Mm (l.drop n) (y.drop n) := by
 unfold Mm at *; rw [List.map_drop, List.map_drop, h]
theorem Mm.app {l l' : List Kx} {y y' : List Nat} (h : Mm l y) (h' : Mm l' y') : Mm (l ++ l') (y ++ y') := by
 unfold Mm at *; rw [List.map_append, List.map_append, h, h']
def cutN (k : Nat) (y : List Nat) : List Nat := y.take (y.findIdx (· == k)) ++ y.drop (y.findIdx (· == k) + 1)
def oldN (y : List Nat) : List Nat := if y.length = 64 then y.drop 1 else y
theorem Mm.cut {l : List Kx} {y : List Nat} (h : Mm l y) (k : Nat) : Mm (Sto.cut ((4 * k : Nat) : Int) l) (cutN k y) := by
 unfold Sto.cut cutN
 rw [h.idx]
 exact (h.take _).app (h.drop _)
theorem Mm.old {l : List Kx} {y : List Nat} (h : Mm l y) : Mm (Sto.old l) (oldN y) := by
 unfold Sto.old oldN
 rw [h.len]
 split
 ·exact h.drop 1
 ·exact h
theorem Mm.one {x : Kx} {i : Nat} (h : kx x = bk i) : Mm [x] [i] := by
 unfold Mm; rw [List.map_cons, List.map_nil, List.map_cons, List.map_nil, h]
theorem Mm.get {l : List Kx} {y : List Nat} (h : Mm l y) {j i : Nat} (hi : y[j]? = some i) : ∃ x, l[j]? = some x ∧ kx x = bk i := by
 have h1 := congrArg (fun z => z[j]?) h
 simp only [List.getElem?_map, hi, Option.map_some] at h1
 cases hl : l[j]? with
 | none => rw [hl] at h1; cases h1
 | some x => rw [hl] at h1; injection h1 with h1; exact ⟨x, rfl, h1⟩
theorem find_lt {k : Nat} {y : List Nat} : y.findIdx (· == k) < y.length ↔ k ∈ y := by
 rw [List.findIdx_lt_length]
 constructor
 ·rintro ⟨x, hx, e⟩; rw [beq_iff_eq] at e; subst e; exact hx
 ·intro h; exact ⟨k, h, by simp⟩
theorem find_get {k : Nat} {y : List Nat} (h : k ∈ y) : y[y.findIdx (· == k)]? = some k := by
 have hl := find_lt.2 h
 have := List.findIdx_getElem (p := (· == k)) (w := hl)
 rw [List.getElem?_eq_getElem hl]
 rw [beq_iff_eq] at this
 rw [this]
theorem cutN_len {k : Nat} {y : List Nat} (h : k ∈ y) : (cutN k y).length + 1 = y.length := by
 have hl := find_lt.2 h
 unfold cutN
 rw [List.length_append, List.length_take, List.length_drop]
 omega
def trim (y : List Nat) : List Nat := y.drop (y.length - 64)
theorem trim_len (y : List Nat) : (trim y).length = min y.length 64 := by
 unfold trim; rw [List.length_drop]; omega
theorem trim_le {y : List Nat} (h : y.length ≤ 64) : trim y = y := by
 unfold trim; rw [show y.length - 64 = 0 from by omega]; rfl
theorem trim_app (y : List Nat) (k : Nat) : trim (y ++ [k]) = oldN (trim y) ++ [k] := by
 by_cases h : y.length < 64
 ·rw [trim_le (by rw [List.length_append]; exact h), trim_le (by omega)]
  unfold oldN
  rw [if_neg (by omega)]
 ·unfold oldN
  rw [trim_len, if_pos (by omega)]
  unfold trim
  rw [List.drop_drop, List.length_append, show ([k] : List Nat).length = 1 from rfl, List.drop_append_of_le_length (by omega)]
  congr 2
  omega
theorem nodup_trim {y : List Nat} (h : y.Nodup) : (trim y).Nodup := h.sublist (List.drop_sublist _ _)
theorem nodup_cut {y : List Nat} (h : y.Nodup) {k : Nat} (hk : k ∈ y) : (cutN k y ++ [k]).Nodup := by
 have hl := find_lt.2 hk
 have hg := find_get hk
 have e : y = y.take (y.findIdx (· == k)) ++ k :: y.drop (y.findIdx (· == k) + 1) := by
  rw [List.getElem?_eq_getElem hl] at hg
  injection hg with hg
  have h1 := List.take_append_drop (y.findIdx (· == k)) y
  rw [List.drop_eq_getElem_cons hl, hg] at h1
  exact h1.symm
 have hp : (cutN k y ++ [k]).Perm y := by
  unfold cutN
  rw [List.append_assoc]
  conv => rhs; rw [e]
  exact List.Perm.append_left _ (List.perm_append_comm (l₁ := y.drop (y.findIdx (· == k) + 1)) (l₂ := [k]))
 exact hp.nodup_iff.2 h
theorem nodup_app {y : List Nat} (h : y.Nodup) {k : Nat} (hk : k ∉ y) : (y ++ [k]).Nodup := by
 rw [List.nodup_append]
 exact ⟨h, by simp, fun a ha b hb e => by simp at hb; subst hb; subst e; exact hk ha⟩
theorem cost5_2 : Arr.cost 5 2 = 4 := by decide
def Rem (B : Nat) (W : World) (p a r sp m N : Nat) (y : List Nat) (c0 c1 : Nat) : Prop := ∃ v S, StoV B W p a r sp m 0 v S ∧ Run S 5 400 (4 * N) (4 * N) ∧ S.tx = 1 ∧ S.c0 = c0 ∧ S.c1 = c1 ∧ S.c2 = 0 ∧ S.c3 = N ∧ Mm S.mem y ∧ ∀ i, i < N → Sound S.s 1 (4 * i) 2 fun j => (D2 i).getD j 0
section
variable {B : Nat} {w w' : World} {p a r sp m N c0 c1 : Nat} {y : List Nat}
theorem Rem.below (h : Rem B w p a r sp m N y c0 c1) (hb : Below w.heap.size w w') : Rem B w' p a r sp m N y c0 c1 := by
 obtain ⟨v, S, hs, h⟩ := h
 exact ⟨v, S, hs.below hb, h⟩
theorem Rem.le (h : Rem B w p a r sp m N y c0 c1) : B ≤ w.heap.size := by
 obtain ⟨v, S, hs, h⟩ := h
 exact hs.le
theorem put_rem (w : World) (h : Rem B w p a r sp m N y c0 c1) (hl : Laid w) (hB : 0 < B) (hN : N < 90) (hy : ∀ i ∈ y, i < N) (g c : Nat) (hd : Byt w (some ⟨g, 0, none⟩) (D2 N)) (hc : 2 ≤ c ∧ c ≤ maxLen) :
  Calls Tryz.prog 11 #[.pointer (some ⟨p, 0, none⟩), .slice (some ⟨g, 0, none⟩) 2 c] w fun e w' => e = .returned (.tuple #[.agg #[.int .i64 ((4 * N : Nat) : Int), .int .i64 2, .int .i64 1, .string (sm2 N)], .int .i64 0]) ∧ Rem B w' p a r sp m (N + 1) (oldN y ++ [N]) c0 c1 ∧ KeepT B w w' := by
 obtain ⟨v, S, hs, hr, e1, e2, e3, e4, e5, hm, hso⟩ := h
 refine (put_run w hs hl hB hr (by omega) (by omega) g 0 2 c (D2 N) hd rfl (by omega) (by omega) hc.1 hc.2 (by rw [cost5_2]; omega) (by rw [cost5_2]; omega) (by rw [cost5_2]; omega)).mono ?_
 rintro e w' ⟨rfl, ⟨v', S', x, s3, r3, f1, f2, f3, f4, f5, ⟨x1, x2, x3⟩, f6, f7⟩, hk⟩
 refine ⟨by rw [e1]; rfl, ⟨v', S', s3, ?_, f1.trans e1, f2.trans e2, f3.trans e3, f4.trans e4, by rw [f5, e5], ?_, fun i hi => ?_⟩, hk⟩
 ·have h4 : 4 * N + Arr.cost 5 2 = 4 * (N + 1) := by rw [cost5_2]; omega
  rw [h4] at r3
  exact r3
 ·rw [f6]
  have hno : ¬ Sto.idx ((4 * N : Nat) : Int) S.mem < S.mem.length := by
   rw [hm.idx, hm.len, find_lt]
   exact fun hk => absurd (hy N hk) (Nat.lt_irrefl _)
  rw [cut_none hno]
  exact hm.old.app (Mm.one (by unfold kx bk; rw [x1, x2, x3]; rfl))
 ·rw [f7]
  rcases Nat.lt_or_ge i N with h | h
  ·exact (hso i h).apart (.inl (by rw [hr.nd, cost5_2]; omega))
  ·obtain rfl : i = N := by omega
   have hw := Sound.wrAll (s := S.s) (f := 1) (ad := 4 * i) (n := 2) (X := fun j => (D2 i).getD j 0)
   rw [hr.nd] at hw
   exact hw
def Got (w' : World) (vb : Value) (k : Nat) : Prop := ∃ base, w'.ownsRow base 5 1 vb 2 (rowL 2 fun j => (D2 k).getD j 0)
theorem Got.below {w w' : World} {vb : Value} {k : Nat} (h : Got w vb k) (hb : Below w.heap.size w w') : Got w' vb k := by
 obtain ⟨base, h⟩ := h
 refine ⟨base, h.1, ?_⟩
 rcases h.2 with e | ⟨g, cap, cur, h1, h2, h3, h4⟩
 ·exact .inl e
 ·exact .inr ⟨g, cap, cur, h1, h2, (hb.block g (Array.getElem?_eq_some_iff.1 h3).1).trans h3, h4⟩
theorem Got.conv {w : World} {vb : Value} {k : Nat} (h : Got w vb k) : (convert 41 9 vb).run Tryz.prog w = .ok (.string (strB 2 fun j => (D2 k).getD j 0)) w := by
 obtain ⟨base, h⟩ := h
 exact own_convS h (by omega)
theorem got_new (w : World) (k : Nat) : Got (w.alloc (.cells #[.int .u8 (k : Int), .int .u8 1] 5)) (.slice (some ⟨w.heap.size, 0, none⟩) 2 2) k :=
 ⟨w.heap.size, rfl, .inr ⟨w.heap.size, 2, #[.int .u8 (k : Int), .int .u8 1], rfl, Nat.le_refl _, heap_alloc_new w _, Nat.le_refl _, by unfold maxLen; omega, rfl, rfl⟩⟩
theorem D2_lt {k : Nat} (hk : k < 90) (j : Nat) : (D2 k).getD j 0 < 256 := Arr.getD_lt (by intro x hx; simp [D2] at hx; omega) j
theorem get_rem (w : World) (h : Rem B w p a r sp m N y c0 c1) (hl : Laid w) (hB : 0 < B) (hN : N ≤ 90) (hy : y.length ≤ 64) (hc : c0 + c1 ≤ 100000) (k : Nat) (hk : k < N) (bi : Int) :
  Calls Tryz.prog 18 #[.pointer (some ⟨p, 0, none⟩), .agg #[.int .i64 ((4 * k : Nat) : Int), .int .i64 2, .int .i64 bi, .string (sm2 k)]] w fun e w' => ∃ vb, e = .returned (.tuple #[vb, .int .i64 0]) ∧ Got w' vb k ∧ Rem B w' p a r sp m N ((if k ∈ y then cutN k y else oldN y) ++ [k]) (if k ∈ y then c0 + 1 else c0) (if k ∈ y then c1 else c1 + 1) ∧ KeepT B w w' := by
 obtain ⟨v, S, hs, hr, e1, e2, e3, e4, e5, hm, hso⟩ := h
 by_cases hky : k ∈ y
 ·obtain ⟨x, hx, hkx⟩ := hm.get (find_get hky)
  rw [← hm.idx] at hx
  injection hkx with x1 x2
  injection x2 with x2 x3
  have hok := hs.row.ok x (List.mem_of_getElem? hx)
  have hxn : x.hn = 2 := by rw [hok.len, x3]; rfl
  have hg := get_hit w hs hr.few (by omega) ((4 * k : Nat) : Int) bi x hx (by rw [x3]; show 0 < 2; omega)
  rw [x2, hxn, x3] at hg
  refine hg.mono ?_
  rintro e w' ⟨vb, rfl, how, ⟨v', hs'⟩, hkm⟩
  refine ⟨vb, rfl, ⟨_, how⟩, ?_, KeepT.mem hkm⟩
  rw [if_pos hky, if_pos hky, if_pos hky]
  refine ⟨v', _, hs', ⟨hr.like, hr.f, hr.front, hr.all, ?_, hr.cost⟩, e1, ?_, e3, e4, e5, (hm.cut k).app (Mm.one (by unfold kx bk; rw [x1, x2, x3])), hso⟩
  ·have h1 := ((hm.cut k).app (Mm.one (x := x) (i := k) (by unfold kx bk; rw [x1, x2, x3]))).len
   have h2 := cutN_len hky
   show (Sto.cut ((4 * k : Nat) : Int) S.mem ++ [x]).length ≤ 64
   rw [h1, List.length_append]
   show _ + 1 ≤ 64
   omega
  ·show S.c0 + 1 = _
   rw [e2]
 ·have hno : ¬ Sto.idx ((4 * k : Nat) : Int) S.mem < S.mem.length := by
   rw [hm.idx, hm.len, find_lt]; exact hky
  have hcal := hr.like.calm ⟨rfl, rfl⟩
  have hf := hr.f
  refine (get_read w hs hl hB hr.few (by omega) hcal.1 (fun d => by rw [hr.like.gone]; rfl) (4 * k) 2 bi (fun j => (D2 k).getD j 0) (sm2 k) rfl (by omega) (by omega) (by rw [hr.nd, cost5_2, ← hr.all, hr.cells]; omega) (fun j hj => D2_lt (by omega) j) (by rw [hf]; exact hso k hk) hno).mono ?_
  rintro e w' ⟨gb, cb, rfl, how, ⟨v', x, hs', x1, x2, x3⟩, hkt⟩
  have hm' : Mm (Sto.old (Sto.cut ((4 * k : Nat) : Int) S.mem) ++ [x]) (oldN y ++ [k]) := by
   rw [cut_none hno]
   exact hm.old.app (Mm.one (by unfold kx bk; rw [x1, x2, x3]; rfl))
  refine ⟨_, rfl, ?_, ?_, hkt⟩
  ·exact ⟨_, how⟩
  ·rw [if_neg hky, if_neg hky, if_neg hky]
   refine ⟨v', _, hs', ⟨hr.like, hr.f, hr.front, hr.all, ?_, hr.cost⟩, e1, e2, ?_, e4, e5, hm', hso⟩
   ·show (Sto.old (Sto.cut ((4 * k : Nat) : Int) S.mem) ++ [x]).length ≤ 64
    have h4 := old_len (l := Sto.cut ((4 * k : Nat) : Int) S.mem) (Nat.le_trans (cut_len _ _) hr.few)
    rw [List.length_append]
    show _ + 1 ≤ 64
    omega
   ·show S.c1 + 1 = _
    rw [e3]
end
end Sto
end Go.Proofs.YtkbndlnmbbbohaaGreatDoor
namespace Go.Proofs.YtkbndlnmbbbohaaGreatDoor
open Go Go.RowKit Go.ChangeShapes Go.WideShapes Go.Joins
set_option maxRecDepth 100000
set_option linter.unusedVariables false
namespace Arr
theorem wf_endsA {a : Int} (h : (Lit.int .i64 a).wf = true) : -9223372036854775808 ≤ a ∧ a ≤ 9223372036854775807 := by
 simp only [Lit.wf, Bool.and_eq_true, decide_eq_true_eq] at h
 exact h
def RdZ (w : World) (B : Nat) (A : Option Addr) (n : Nat) (x : Nat → Int) : Prop :=
 ∀ i, i < n → ∃ b o, A = some ⟨b, o, none⟩ ∧ b < B ∧ w.cell? ⟨b, o + i, none⟩ = some (.int .i64 (x i)) ∧ -9223372036854775808 ≤ x i ∧ x i ≤ 9223372036854775807
theorem RdZ.below {w w' : World} {B B' : Nat} {A : Option Addr} {n : Nat} {x : Nat → Int} (h : RdZ w B A n x) (hb : Below B' w w') (hB : B ≤ B') : RdZ w' B A n x := fun i hi => by
 obtain ⟨b, o, h1, h2, h3, h4⟩ := h i hi
 exact ⟨b, o, h1, h2, (hb.cell (p := ⟨b, o + i, none⟩) (show b < B' by omega)).trans h3, h4⟩
theorem getD_memA {zs : List Int} {j : Nat} (h : j < zs.length) : zs.getD j 0 ∈ zs := by
 rw [List.getD_eq_getElem?_getD, List.getElem?_eq_getElem h]
 exact List.getElem_mem h
section
variable {H : Type} {enc : TypeId × Value → H} {w : World} {base : Nat} {spare : Nat → Bool} {held : Bool}
theorem ints_of_trodA {fuel : Nat} {c0 : Value} {y : DataW H × List MemPlace} (h : DataW.trod enc Tryz.prog w base (fun _ => true) held fuel 22 [c0] = some y) : ∃ A n c x, c0 = .slice A n c ∧ RdZ w w.heap.size A n x ∧ n ≤ c ∧ c ≤ maxLen := by
 rcases open_ints Tryz.underlying22 Tryz.underlying3 (by kernel_rfl) h with ⟨hcs, _⟩ | ⟨a, l, c, zs, hcs, _, hl, hm, hz, _, hcell, hwz⟩
 ·injection hcs with hcs _
  exact ⟨none, 0, 0, fun _ => 0, hcs, fun i hi => absurd hi (by omega), Nat.le_refl _, by simp [maxLen]⟩
 ·injection hcs with hcs _
  simp at hz
  refine ⟨some a, l, c, fun j => zs.getD j 0, hcs, fun j hj => ?_, hl, hm⟩
  obtain ⟨b, o, sp⟩ := a
  have h0 := hcell j (by omega)
  have hsp : sp = none := by
   have h1 := hcell 0 (by omega)
   have h2 := World.cell?_spot h1
   simpa [Addr.add] using h2
  subst hsp
  rw [add_plain] at h0
  exact ⟨b, o, rfl, block_lt_of_cell h0, h0, wf_endsA (hwz _ (getD_memA (by omega)))⟩
end
end Arr
end Go.Proofs.YtkbndlnmbbbohaaGreatDoor
namespace Go.Proofs.YtkbndlnmbbbohaaGreatDoor
set_option maxRecDepth 100000
open Go Go.RowKit
set_option linter.unusedVariables false
end Go.Proofs.YtkbndlnmbbbohaaGreatDoor
namespace Go.Proofs.YtkbndlnmbbbohaaGreatDoor
set_option maxRecDepth 100000
open Go Go.ChangeShapes Go.WideShapes Go.ChangeAt Go.RowKit
set_option linter.unusedVariables false
def laidL : List (String × DataW Unit) := [("hoard/sha.roots", Rows.laid_hoard_sha_roots)]
theorem gRoots : Tryz.prog.globalNamed "hoard/sha.roots" = some 0 := by kernel_rfl
theorem tRoots : (Tryz.prog.globals[0]?).map (·.type) = some 201 := by kernel_rfl
theorem door_met (os : Os) (args : Array Value) : laidMetH Tryz.prog laidL ((World.doorLaid Tryz.prog 400 os).forCall (fun _ _ => 0) ⟨#[], args, []⟩).memory :=
 laidMetH_of_parts3 (fuel := 8) (laidMet_of_run' 8 (by kernel_rfl) (by kernel_rfl)) (by kernel_rfl) (by kernel_rfl)
theorem roots_lits : (Rows.laid_hoard_sha_roots : DataW Unit) = .agg ((List.range 64).map fun t => .lit (.int .u32 ((M.rt t : Nat) : Int))) := by kernel_rfl
theorem laid_of {W : World} (h : laidMetH Tryz.prog laidL W) : Laid W := by
 rw [MakeChecks.laidMetH_plain _ _ _ (by kernel_rfl)] at h
 obtain ⟨ps, ⟨g0, t0, cs0, f0, p0, q0, hg0, ht0, hv0, hd0, _, _⟩, _, _⟩ := h
 obtain rfl := Option.some.inj (gRoots.symm.trans hg0)
 obtain rfl := Option.some.inj (tRoots.symm.trans ht0)
 obtain ⟨xs, m1, rfl, hx1, hlen, hn3, hel⟩ := DataW.trod_array Tryz.underlying201 hd0
 have c1 : Tryz.prog.cellsOf 77 = 1 := by kernel_rfl
 rw [roots_lits] at hx1
 simp only [Prod.mk.injEq, DataW.agg.injEq] at hx1
 intro t ht
 have h0 := hel t ht
 have hlx : t < xs.length := by omega
 rw [List.getElem?_eq_getElem hlx] at h0
 obtain ⟨k, e1, e2, _⟩ := DataW.trod_int Tryz.underlying77 h0
 have hk : k = ((M.rt t : Nat) : Int) := by
  have h1 := congrArg (fun l => l[t]?) hx1.1
  simp [hlx, ht, e2] at h1
  first | exact h1 | exact h1.symm
 have h2 := World.var?_cell hg0 hv0 t
 rw [h2]
 rw [c1, Nat.mul_one] at e1
 have h3 := congrArg (fun l => l[0]?) e1
 simp at h3
 rw [h3, hk]
end Go.Proofs.YtkbndlnmbbbohaaGreatDoor
