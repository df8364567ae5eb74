/-
 The law's 'known' of stores. The condition: the sums' table is laid.
-/
import Derived.Test.YtgbehfkimchglaaGreatDoorStoGiveM
import Derived.Test.YtgbehfkimchglaaGreatDoorDetColsM
import Derived.ProofKit
import Derived.ChangeArms
import Derived.WideShapes
import Derived.ChangeSlices
import Derived.Lib.SmallJoins
import Derived.Test.YtgbehfkimchglaaGreatDoorArrLawLayM
import Derived.Test.YtgbehfkimchglaaGreatDoorSpcPartM
import Derived.Test.YtgbehfkimchglaaGreatDoorRows
import Derived.Test.YtgbehfkimchglaaGreatDoorChecked
import Derived.LaidMore
import Derived.OpenShut
import Derived.Stop.Joined
namespace Go.Proofs.YtgbehfkimchglaaGreatDoor
open Go Go.RowKit refRack
set_option maxRecDepth 100000
set_option linter.unusedVariables false
namespace Sto
open Sp Arr
def abcL : List Nat := [97, 98, 99]
theorem abc_str : strB 3 (fun j => abcL.getD j 0) = ⟨#[97, 98, 99]⟩ := by decide +kernel
theorem abc_cost : Arr.cost 5 3 = 4 := by decide
section
variable {B : Nat} {w w' : World}
theorem own_convS {n : Nat} {v : Value} {X : Nat → Nat} (h : w.ownsRow B 5 1 v n (rowL n X)) (hn : 0 < n) : (convert 76 9 v).run Tryz.prog w = .ok (.string (strB n X)) w := (Row8.of_own h hn).conv
def KPost (B : Nat) (w' : World) (p a r sp m : Nat) (sm : ByteArray) : Prop := ∃ v' S' x, StoV B w' p a r sp m 0 v' S' ∧ S'.c0 = 0 ∧ S'.c1 = 0 ∧ S'.c2 = 0 ∧ S'.c3 = 1 ∧ x.addr = 0 ∧ x.sum = sm ∧ x.dat = abcL ∧ S'.mem = [x]
set_option maxHeartbeats 3200000 in
theorem known_sto (w : World) (hl : Laid w) : Calls Tryz.prog 6 #[] w fun e w' => e = .returned (.bool true) ∧ Below w.heap.size w w' := by
 have HF : Hid (Calls Tryz.prog 11 #[.int .i64 5, .int .i64 9, .slice none 0 0, .int .i64 1] w fun e w' => ∃ g r a p sp m wd, e = .returned (.tuple #[.pointer (some ⟨g, 0, none⟩), .bool true, .bool true]) ∧
   Blk w' g 43 #[.pointer (some ⟨r, 0, none⟩), .pointer (some ⟨p, 0, none⟩), .pointer (some ⟨wd, 0, none⟩), .slice none 0 0] ∧ StoV w.heap.size w' p a r sp m 0 (.slice none 0 0) (new0 (RS.new 5 9) 1 1) ∧ Keep w.heap.size w w') := Lib.hid (fresh_any w 5 9 1 (by omega) (by omega) (by omega) (by omega) (by omega) (by omega))
 have HL := Lib.hid hl
 have hbs : ∀ W : World, (Instr.buildSlice 76 3 #[(0, .int .u8 97), (1, .int .u8 98), (2, .int .u8 99)]).run Tryz.prog W = .ok (.slice (some ⟨W.heap.size, 0, none⟩) 3 3) (W.alloc (.cells #[.int .u8 97, .int .u8 98, .int .u8 99] 5)) := fun W => by kernel_rfl
 have hcv : ∀ W : World, (convert 76 76 (.slice (some ⟨W.heap.size, 0, none⟩) 3 3)).run Tryz.prog (W.alloc (.cells #[.int .u8 97, .int .u8 98, .int .u8 99] 5)) = .ok (.slice (some ⟨W.heap.size, 0, none⟩) 3 3) (W.alloc (.cells #[.int .u8 97, .int .u8 98, .int .u8 99] 5 (3, 4))) := fun W => Lib.run_convert_bytes_const W 76 5 #[.int .u8 97, .int .u8 98, .int .u8 99] 3 3 Tryz.underlying76 Tryz.underlying5
 clear hl
 go_enter Tryz.func6, Tryz.ntmps6
 go_wp2_with fail
 refine HF.out.mono ?_
 rintro e w1 ⟨rg, r, a, p, sp, m, wd, rfl, x1, s1, k1⟩
 have S1 := Lib.hid s1
 have X1 := Lib.hid x1
 have K1 := Lib.hid k1
 have q1 : w1.cell? ⟨rg, 1, none⟩ = some (.pointer (some ⟨p, 0, none⟩)) := x1.cell 1
 have hcv1 := hcv w1
 obtain ⟨gd, hgd⟩ : ∃ gd, gd = w1.heap.size := ⟨_, rfl⟩
 obtain ⟨w2, hw2⟩ : ∃ w2, w2 = w1.alloc (.cells #[.int .u8 97, .int .u8 98, .int .u8 99] 5 (3, 4)) := ⟨_, rfl⟩
 have hb2 : Below w1.heap.size w1 w2 := by rw [hw2]; exact (Below.refl _ _).alloc (Nat.le_refl _) _
 have hd2 : Byt w2 (some ⟨gd, 0, none⟩) abcL := ⟨by decide, .inr ⟨gd, 0, #[.int .u8 97, .int .u8 98, .int .u8 99], (3, 4), rfl, by rw [hw2, hgd]; exact heap_alloc_new w1 _, fun j x hj => by
  have hj3 : j < 3 := (List.getElem?_eq_some_iff.1 hj).1
  rw [Nat.zero_add]
  rcases (show j = 0 ∨ j = 1 ∨ j = 2 by omega) with rfl | rfl | rfl <;> (injection hj with hj; subst hj; rfl)⟩⟩
 have S2 := Lib.hid (S1.out.below hb2)
 have K2 := Lib.hid (K1.out.new hb2 S1.out.le)
 have X2 := Lib.hid (X1.out.below hb2 X1.out.lt)
 have HR2 : Hid (Run (new0 (RS.new 5 9) 1 1) 5 9 0 0) := Lib.hid (Run.new 5 9 1 (by omega) (by omega) (by omega) (by omega) S1.out.spc.good)
 obtain ⟨sm, hsm⟩ : ∃ sm, sm = sumS 3 (fun j => abcL.getD j 0) := ⟨_, rfl⟩
 have HPU : Hid (Calls Tryz.prog 21 #[.pointer (some ⟨p, 0, none⟩), .slice (some ⟨gd, 0, none⟩) 3 3] w2 fun e w' => e = .returned (.tuple #[.agg #[.int .i64 0, .int .i64 3, .int .i64 1, .string sm], .int .i64 0]) ∧ KPost w.heap.size w' p a r sp m sm ∧ KeepT w.heap.size w2 w') := Lib.hid (by
  refine (put_run w2 S2.out (HL.out.below K2.out.below HL.out.pos) HL.out.pos HR2.out (by show 1 ≤ 1000000000; omega) (by show 0 ≤ 1000000; omega) gd 0 3 3 abcL hd2 rfl (by omega) (by omega) (Nat.le_refl _) (by decide) (by rw [abc_cost]; omega) (by rw [abc_cost]; omega) (by rw [abc_cost]; omega)).mono ?_
  rintro e w' ⟨rfl, ⟨v3, S', x, s3, r3, e1, e2, e3, e4, e5, ex, em, _⟩, k3⟩
  rw [hsm]
  exact ⟨rfl, ⟨v3, S', x, s3, e2, e3, e4, e5, ex.1, ex.2.1, ex.2.2, em⟩, k3⟩)
 clear hsm
 have HW2 := Lib.hid hw2
 have HGD := Lib.hid hgd
 clear hb2 hd2 hcv hw2 S1 X1 K1 x1 s1 k1 HF
 go_wp2_with fail
 rw [← HW2.out, ← HGD.out]
 refine HPU.out.mono ?_
 rintro e w3 ⟨rfl, ⟨v3, S', x, s3, e2, e3, e4, e5, x1, x2, x3, em⟩, k3⟩
 have hxm : x ∈ S'.mem := by rw [em]; exact List.mem_singleton.2 rfl
 have hx3 : x.hn = 3 := by rw [(s3.row.ok x hxm).len, x3]; rfl
 have HXX := Lib.hid (⟨x1, x2, x3, em, hx3, e2, e3, e4, e5⟩ : _ ∧ _ ∧ _ ∧ _ ∧ _ ∧ _ ∧ _ ∧ _ ∧ _)
 have S3 := Lib.hid s3
 have K3 : Hid (Below w.heap.size w w3) := Lib.hid (K2.out.below.trans k3.below)
 have X3 : Hid (Blk w3 rg 43 #[.pointer (some ⟨r, 0, none⟩), .pointer (some ⟨p, 0, none⟩), .pointer (some ⟨wd, 0, none⟩), .slice none 0 0]) := Lib.hid (k3.kept _ _ X2.out rfl)
 have hnew := Blk.new w3 73 #[.int .i64 0, .int .i64 0, .int .i64 0, .string ⟨#[]⟩]
 have d0 := hnew.cell 0
 have d1 := hnew.cell 1
 have d2 := hnew.cell 2
 have d3 := hnew.cell 3
 have z0 := hnew.frozen 0
 have z1 := hnew.frozen 1
 have z2 := hnew.frozen 2
 have z3 := hnew.frozen 3
 have HNEW := Lib.hid hnew
 clear hnew hxm hx3 x1 x2 x3 em e2 e3 e4 e5 s3 k3 HPU S2 K2 X2 HR2 hcv1 q1 hgd
 go_upto_region 5 with (fail)
 obtain ⟨pb, hpb⟩ : ∃ pb, pb = w3.heap.size := ⟨_, rfl⟩
 rw [← hpb] at HNEW ⊢
 obtain ⟨w4, hw4⟩ : ∃ w4, w4 = w3.alloc (.cells #[.int .i64 0, .int .i64 3, .int .i64 1, .string sm] 73) := ⟨_, rfl⟩
 have hb4 : Blk w4 pb 73 #[.int .i64 0, .int .i64 3, .int .i64 1, .string sm] := by rw [hw4, hpb]; exact Blk.new _ _ _
 rw [← hw4]
 have hb34 : Below w3.heap.size w3 w4.drew := by
  rw [hw4]
  exact ((Below.refl w3.heap.size w3).alloc (Nat.le_refl _) _).drew
 have S4 := Lib.hid (S3.out.below hb34)
 have K4 := Lib.hid (K3.out.trans (hb34.mono K3.out.size))
 have HRG := Lib.hid (X3.out.below hb34 X3.out.lt)
 have HS0 : Hid (w4.drew.cell? ⟨rg, 1, none⟩ = some (.pointer (some ⟨p, 0, none⟩)) ∧ Blk w4.drew pb 73 #[.int .i64 0, .int .i64 3, .int .i64 1, .string sm]) := Lib.hid ⟨HRG.out.cell 1, hb4⟩
 have HGE : Hid (Calls Tryz.prog 25 #[.pointer (some ⟨p, 0, none⟩), .agg #[.int .i64 0, .int .i64 3, .int .i64 1, .string sm]] w4.drew fun e w' => ∃ vb, e = .returned (.tuple #[vb, .int .i64 0]) ∧ w'.ownsRow w4.drew.heap.size 5 1 vb 3 (rowL 3 fun j => abcL.getD j 0) ∧
   (∃ v', StoV w.heap.size w' p a r sp m 0 v' { S' with mem := Sto.cut 0 S'.mem ++ [x], c0 := S'.c0 + 1 }) ∧ KeepM w.heap.size w4.drew w') := Lib.hid (by
  have h := get_hit w4.drew S4.out (by rw [HXX.out.2.2.2.1]; show 1 ≤ 64; omega) (by rw [HXX.out.2.2.2.2.2.1]; omega) 0 1 x (by
   have hi : idx 0 [x] = 0 := by unfold idx; rw [List.findIdx_cons]; simp [HXX.out.1]
   rw [HXX.out.2.2.2.1, hi]
   rfl) (by rw [HXX.out.2.2.1]; decide)
  rw [HXX.out.2.1, HXX.out.2.2.1, HXX.out.2.2.2.2.1] at h
  exact h)
 clear hb4 hb34 hw4 hpb HNEW d0 d1 d2 d3 z0 z1 z2 z3 S3 X3
 refine region_anyZ (fun W => W.cell? ⟨rg, 1, none⟩ = some (.pointer (some ⟨p, 0, none⟩)) ∧ Blk W pb 73 #[.int .i64 0, .int .i64 3, .int .i64 1, .string sm]) 11 (by kernel_rfl) ?_
 refine takeG 0 (.move (.tmp 1)) (some 30) none (.pointer (some ⟨rg, 0, none⟩)) (by kernel_rfl) (by kernel_rfl) (by kernel_rfl) (fun _ _ _ h => h) (fun o' wq e hS => exec_move wq e (by kernel_rfl)) HS0.out ?_
 refine takeG 1 (.nilCheck (.tmp 30)) (some 31) none (.pointer (some ⟨rg, 0, none⟩)) (by kernel_rfl) (by kernel_rfl) (by kernel_rfl) (fun _ _ _ h => h) (fun o' wq e hS => exec_nil wq e (by kernel_rfl)) HS0.out ?_
 refine takeG 2 (.fieldAddr 43 (.tmp 31) 1) (some 32) none (.pointer (some ⟨rg, 1, none⟩)) (by kernel_rfl) (by kernel_rfl) (by kernel_rfl) (fun _ _ _ h => h) (fun o' wq e hS => exec_field (u := .pointer (some ⟨rg, 0, none⟩)) wq e (by kernel_rfl) (by kernel_rfl)) HS0.out ?_
 refine takeG 3 (.load 25 (.tmp 32)) (some 33) none (.pointer (some ⟨p, 0, none⟩)) (by kernel_rfl) (by kernel_rfl) (by kernel_rfl) (fun _ _ _ h => h) (fun o' wq e hS => exec_load (x := (.tmp 32)) e (by kernel_rfl) (load_one Tryz.underlying25 (by kernel_rfl) hS.1)) HS0.out ?_
 refine takeG 4 (.load 73 (.tmp 4)) (some 34) none (.agg #[.int .i64 0, .int .i64 3, .int .i64 1, .string sm]) (by kernel_rfl) (by kernel_rfl) (by kernel_rfl) (fun _ _ _ h => h) (fun o' wq e hS => exec_load (x := (.tmp 4)) e (by kernel_rfl) (load_blk hS.2 Tryz.underlying73 rfl size_ptr)) HS0.out ?_
 refine loneG 5 (.call ⟨.value (.func 25), #[(.tmp 33), (.tmp 34)], #[25, 73]⟩) (some 35) none (by kernel_rfl) (by kernel_rfl) (by kernel_rfl) ?_
 intro o' ho hod
 refine wp_callC (f := 25) (args := #[.pointer (some ⟨p, 0, none⟩), .agg #[.int .i64 0, .int .i64 3, .int .i64 1, .string sm]]) (by cases o'; cases ho; kernel_rfl) HGE.out ?_
 rintro ee w6 ⟨vb, rfl, ow, ⟨v6, s6⟩, k6⟩
 refine ⟨_, rfl, ?_⟩
 rw [hod]
 clear hod ho
 have HOW := Lib.hid ow
 have S6 := Lib.hid s6
 have K6 := Lib.hid k6
 have HS1 : Hid (w6.cell? ⟨rg, 1, none⟩ = some (.pointer (some ⟨p, 0, none⟩)) ∧ Blk w6 pb 73 #[.int .i64 0, .int .i64 3, .int .i64 1, .string sm]) := Lib.hid (by
  have hx : Blk w6 rg 43 _ := k6.kept _ _ HRG.out rfl
  exact ⟨hx.cell 1, k6.kept _ _ HS0.out.2 rfl⟩)
 clear ow s6 k6
 refine ⟨fun _ => HS1.out, ?_⟩
 refine takeG 6 (.move (.tmp 35)) (some 29) none (.tuple #[vb, .int .i64 0]) (by kernel_rfl) (by kernel_rfl) (by kernel_rfl) (fun _ _ _ h => h) (fun o' wq e hS => exec_move wq e (by kernel_rfl)) HS1.out ?_
 refine takeG 7 (.extract (.tmp 29) 0) (some 36) none (vb) (by kernel_rfl) (by kernel_rfl) (by kernel_rfl) (fun _ _ _ h => h) (fun o' wq e hS => exec_ext (vs := #[vb, .int .i64 0]) wq e (by kernel_rfl) (by rfl)) HS1.out ?_
 refine takeG 8 (.extract (.tmp 29) 1) (some 37) none (.int .i64 0) (by kernel_rfl) (by kernel_rfl) (by kernel_rfl) (fun _ _ _ h => h) (fun o' wq e hS => exec_ext (vs := #[vb, .int .i64 0]) wq e (by kernel_rfl) (by rfl)) HS1.out ?_
 refine loneG 9 (.assign (.tmp 36)) (some 6) none (by kernel_rfl) (by kernel_rfl) (by kernel_rfl) ?_
 intro o' ho hod
 refine wp_val (v := vb) (exec_assign _ ho (by kernel_rfl)) ?_
 rw [hod]
 clear hod ho
 refine ⟨fun _ => HS1.out, ?_⟩
 refine lastS 10 (.assign (.tmp 37)) (some 7) (.int .i64 0) (by kernel_rfl) (by kernel_rfl) (by kernel_rfl) HS1.out (fun o' e => exec_assign _ e (by kernel_rfl)) ?_
 simp only [put_some, put_none, List.setIfInBounds_toArray, List.set_cons_succ, List.set_cons_zero]
 have HCO : Hid (Calls Tryz.prog 10 #[.pointer (some ⟨p, 0, none⟩)] w6 fun e w' => e = .returned (.agg #[.int .i64 1, .int .i64 1, .int .i64 0, .int .i64 0, .int .i64 1]) ∧ Below w6.heap.size w6 w') := Lib.hid (by
  have h := counts_any w6 S6.out (by show S'.c0 + 1 + S'.c1 ≤ 1000000; rw [HXX.out.2.2.2.2.2.1, HXX.out.2.2.2.2.2.2.1]; omega)
  unfold cntV at h
  dsimp only at h
  rw [HXX.out.2.2.2.2.2.1, HXX.out.2.2.2.2.2.2.1, HXX.out.2.2.2.2.2.2.2.1, HXX.out.2.2.2.2.2.2.2.2] at h
  exact h)
 have hcv : (convert 76 9 vb).run Tryz.prog w6 = .ok (.string ⟨#[97, 98, 99]⟩) w6 := by
  have h := own_convS HOW.out (by omega)
  rw [abc_str] at h
  exact h
 have heq : ∀ W : World, (binOp .eql 31 (.agg #[.int .i64 1, .int .i64 1, .int .i64 0, .int .i64 0, .int .i64 1]) (.agg #[.int .i64 1, .int .i64 1, .int .i64 0, .int .i64 0, .int .i64 1])).run Tryz.prog W = .ok (.bool true) W := fun W => by kernel_rfl
 have k1 : w6.cell? ⟨pb, 1, none⟩ = some (.int .i64 3) := HS1.out.2.cell 1
 have k2 : w6.cell? ⟨pb, 2, none⟩ = some (.int .i64 1) := HS1.out.2.cell 2
 have k3 : w6.cell? ⟨rg, 1, none⟩ = some (.pointer (some ⟨p, 0, none⟩)) := HS1.out.1
 go_wp2_with fail
 refine HCO.out.mono ?_
 rintro e w7 ⟨rfl, b7⟩
 have B7 := Lib.hid (K4.out.trans (K6.out.below.trans (b7.mono (Nat.le_trans K4.out.size K6.out.below.size))))
 have heq7 := heq w7
 clear b7
 go_wp2_with fail
 go_ret
 exact ⟨rfl, B7.out⟩
end
end Sto
end Go.Proofs.YtgbehfkimchglaaGreatDoor
namespace Go.Proofs.YtgbehfkimchglaaGreatDoor
open Go Go.RowKit Go.ChangeShapes Go.WideShapes Go.Joins
set_option maxRecDepth 100000
set_option linter.unusedVariables false
namespace Arr
theorem wf_endsA {a : Int} (h : (Lit.int .i64 a).wf = true) : -9223372036854775808 ≤ a ∧ a ≤ 9223372036854775807 := by
 simp only [Lit.wf, Bool.and_eq_true, decide_eq_true_eq] at h
 exact h
def RdZ (w : World) (B : Nat) (A : Option Addr) (n : Nat) (x : Nat → Int) : Prop :=
 ∀ i, i < n → ∃ b o, A = some ⟨b, o, none⟩ ∧ b < B ∧ w.cell? ⟨b, o + i, none⟩ = some (.int .i64 (x i)) ∧ -9223372036854775808 ≤ x i ∧ x i ≤ 9223372036854775807
theorem getD_memA {zs : List Int} {j : Nat} (h : j < zs.length) : zs.getD j 0 ∈ zs := by
 rw [List.getD_eq_getElem?_getD, List.getElem?_eq_getElem h]
 exact List.getElem_mem h
section
variable {H : Type} {enc : TypeId × Value → H} {w : World} {base : Nat} {spare : Nat → Bool} {held : Bool}
theorem ints_of_trodA {fuel : Nat} {c0 : Value} {y : DataW H × List MemPlace} (h : DataW.trod enc Tryz.prog w base (fun _ => true) held fuel 64 [c0] = some y) : ∃ A n c x, c0 = .slice A n c ∧ RdZ w w.heap.size A n x ∧ n ≤ c ∧ c ≤ maxLen := by
 rcases open_ints Tryz.underlying64 Tryz.underlying3 (by kernel_rfl) h with ⟨hcs, _⟩ | ⟨a, l, c, zs, hcs, _, hl, hm, hz, _, hcell, hwz⟩
 ·injection hcs with hcs _
  exact ⟨none, 0, 0, fun _ => 0, hcs, fun i hi => absurd hi (by omega), Nat.le_refl _, by simp [maxLen]⟩
 ·injection hcs with hcs _
  simp at hz
  refine ⟨some a, l, c, fun j => zs.getD j 0, hcs, fun j hj => ?_, hl, hm⟩
  obtain ⟨b, o, sp⟩ := a
  have h0 := hcell j (by omega)
  have hsp : sp = none := by
   have h1 := hcell 0 (by omega)
   have h2 := World.cell?_spot h1
   simpa [Addr.add] using h2
  subst hsp
  rw [add_plain] at h0
  exact ⟨b, o, rfl, block_lt_of_cell h0, h0, wf_endsA (hwz _ (getD_memA (by omega)))⟩
end
end Arr
end Go.Proofs.YtgbehfkimchglaaGreatDoor
namespace Go.Proofs.YtgbehfkimchglaaGreatDoor
set_option maxRecDepth 100000
open Go Go.RowKit
set_option linter.unusedVariables false
end Go.Proofs.YtgbehfkimchglaaGreatDoor
namespace Go.Proofs.YtgbehfkimchglaaGreatDoor
set_option maxRecDepth 100000
open Go Go.ChangeShapes Go.WideShapes Go.ChangeAt Go.RowKit
set_option linter.unusedVariables false
def laidL : List (String × DataW Unit) := [("hoard/sha.roots", Rows.laid_hoard_sha_roots)]
theorem gRoots : Tryz.prog.globalNamed "hoard/sha.roots" = some 0 := by kernel_rfl
theorem tRoots : (Tryz.prog.globals[0]?).map (·.type) = some 254 := by kernel_rfl
theorem door_met (os : Os) (args : Array Value) : laidMetH Tryz.prog laidL ((World.doorLaid Tryz.prog 400 os).forCall (fun _ _ => 0) ⟨#[], args, []⟩).memory :=
 laidMetH_of_parts3 (fuel := 8) (laidMet_of_run' 8 (by kernel_rfl) (by kernel_rfl)) (by kernel_rfl) (by kernel_rfl)
theorem roots_lits : (Rows.laid_hoard_sha_roots : DataW Unit) = .agg ((List.range 64).map fun t => .lit (.int .u32 ((M.rt t : Nat) : Int))) := by kernel_rfl
theorem laid_of {W : World} (h : laidMetH Tryz.prog laidL W) : Laid W := by
 rw [MakeChecks.laidMetH_plain _ _ _ (by kernel_rfl)] at h
 obtain ⟨ps, ⟨g0, t0, cs0, f0, p0, q0, hg0, ht0, hv0, hd0, _, _⟩, _, _⟩ := h
 obtain rfl := Option.some.inj (gRoots.symm.trans hg0)
 obtain rfl := Option.some.inj (tRoots.symm.trans ht0)
 obtain ⟨xs, m1, rfl, hx1, hlen, hn3, hel⟩ := DataW.trod_array Tryz.underlying254 hd0
 have c1 : Tryz.prog.cellsOf 87 = 1 := by kernel_rfl
 rw [roots_lits] at hx1
 simp only [Prod.mk.injEq, DataW.agg.injEq] at hx1
 intro t ht
 have h0 := hel t ht
 have hlx : t < xs.length := by omega
 rw [List.getElem?_eq_getElem hlx] at h0
 obtain ⟨k, e1, e2, _⟩ := DataW.trod_int Tryz.underlying87 h0
 have hk : k = ((M.rt t : Nat) : Int) := by
  have h1 := congrArg (fun l => l[t]?) hx1.1
  simp [hlx, ht, e2] at h1
  first | exact h1 | exact h1.symm
 have h2 := World.var?_cell hg0 hv0 t
 rw [h2]
 rw [c1, Nat.mul_one] at e1
 have h3 := congrArg (fun l => l[0]?) e1
 simp at h3
 rw [h3, hk]
end Go.Proofs.YtgbehfkimchglaaGreatDoor
