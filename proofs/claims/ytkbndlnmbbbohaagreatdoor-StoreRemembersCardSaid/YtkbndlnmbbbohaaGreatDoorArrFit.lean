/-
 'fits' of 'array.Read' by a contract. Conditions: those of FB, FI, FN; three drives at most are left out.
-/
import Derived.Test.YtkbndlnmbbbohaaGreatDoorArrFitsM
namespace Go.Proofs.YtkbndlnmbbbohaaGreatDoor
open Go Go.RowKit refRack
set_option maxRecDepth 100000
set_option linter.unusedVariables false
namespace Arr
open Cc
theorem ints_shape {w : World} {m : Nat} {v : Value} {p : List Nat} (h : Sq.Ints m w v (Sq.ints p)) : ∃ A c, v = .slice A p.length c ∧ (A = none → c = 0) ∧ ∀ w', Below m w w' → m ≤ w'.heap.size → Gr.RdG 1 Nr.csN w' A p := by
 rcases h with ⟨rfl, e⟩ | ⟨b, o, c, rfl, hb, hc⟩
 ·have : p = [] := by simpa [Sq.ints] using e
  subst this
  exact ⟨none, 0, rfl, fun _ => rfl, fun w' _ _ i x hx => by simp at hx⟩
 ·rw [Sq.ints_length] at hc ⊢
  refine ⟨some ⟨b, o, none⟩, c, rfl, (fun e => by cases e), fun w' hw' hs i x hx => ⟨b, o, rfl, by omega, fun j u hu => ?_⟩⟩
  have hi := (List.getElem?_eq_some_iff.1 hx).1
  obtain ⟨rfl, rfl⟩ : j = 0 ∧ u = .int .i64 (x : Int) := by
   have hj := (List.getElem?_eq_some_iff.1 hu).1
   simp [Nr.csN] at hj
   subst hj
   simp [Nr.csN] at hu
   exact ⟨rfl, hu.symm⟩
  rw [Nat.mul_one, Nat.add_zero]
  refine (hw'.cell (p := ⟨b, o + i, none⟩) hb).trans ((hc i hi).trans ?_)
  have := (List.getElem?_eq_some_iff.1 hx).2
  simp [Sq.ints, hi, this]
theorem eq_strA (a b : ByteArray) (w : World) : (binOp .eql 9 (.string a) (.string b)).run Tryz.prog w = .ok (.bool (a.toList == b.toList)) w := by simp [binOp, Op.stringOp]
theorem slice_headU (b o n c N : Nat) (h1 : N ≤ c) (W : World) : (Instr.sliceAt 41 (.slice (some ⟨b, o, none⟩) n c) none (some (.int .i64 (N : Int))) none).run Tryz.prog W = .ok (.slice (some ⟨b, o, none⟩) N c) W := by
 have hu : Tryz.prog.underlying 41 = some (.slice (Tryz.prog.elem 41)) := by kernel_rfl
 have he : Tryz.prog.elem 41 = 5 := by kernel_rfl
 rw [run_sliceAt_slice (P := Tryz.prog) (w := W) (h := hu), run_slice_h (P := Tryz.prog) (w := W) 41 _ n c hu .i64 (N : Int) (by omega) (by omega), he, sizeOf_u8]
 by_cases e : c = 0
 ·simp [sliced, e, Addr.add]
 ·simp [sliced, e, Addr.add]
theorem size_sl8 : (Tryz.prog.info? 41).map (·.size) = some 1 := by kernel_rfl
theorem rdB_own {w : World} {base gb n cb : Nat} {l : List Nat} (h : Gr.OwnG 5 1 csB w base (.slice (some ⟨gb, 0, none⟩) n cb) l) (hl : l.length = n) (hlt : ∀ y ∈ l, y < 256) : RdB w w.heap.size (some ⟨gb, 0, none⟩) n (fun j => l.getD j 0) := fun j hj => by
 obtain ⟨A, c, e, h1, h2, h3, h4, h5⟩ := h.shape (fun _ => rfl)
 injection e with e e2 e3
 subst e
 obtain ⟨b, o, e4, hb, hc⟩ := h1 j (l.getD j 0) (by rw [List.getD_eq_getElem?_getD, List.getElem?_eq_getElem (by omega)]; rfl)
 have := hc 0 (.int .u8 ((l.getD j 0 : Nat) : Int)) rfl
 rw [Nat.mul_one, Nat.add_zero] at this
 exact ⟨b, o, e4, hb, this, getD_lt hlt j⟩
theorem flat_take : ∀ (l : List Nat) (n : Nat), (l.flatMap csB).take n = (l.take n).flatMap csB
 | [], n => by simp
 | x :: l, 0 => by simp
 | x :: l, n + 1 => by
  have ih := flat_take l n
  simp only [List.flatMap_cons, List.take_succ_cons]
  unfold csB at *
  simpa using ih
section
variable {B a r f : Nat} {s : RS} {ad n : Nat} {sum : ByteArray} {ga k z : Nat} {gv : Value} {gl : List Nat} {g : Nat} {ra : Nat → Option Addr} {rl rc : Nat → Nat} {x : Nat → Nat → Nat} {w w' w0 : World} {C : Nat}
set_option maxHeartbeats 6400000 in
theorem fits_any (hB : FB B a r f s ad n sum ga k z gv gl g ra rl rc x w0) (hN : FN s f ad n gl rl) (w : World) (hI : FI k (cost s.nd n) g w0 w) (v : Value) (p : List Nat) (hv : Sq.Ints w.heap.size w v (Sq.ints p)) (hp : gl.length + p.length ≤ 3) :
  Calls Tryz.prog 76 #[v, .pointer (some ⟨ga, 0, none⟩), .pointer (some ⟨k + 1 + 1, 0, none⟩), .pointer (some ⟨z, 0, none⟩), .pointer (some ⟨z + 1, 0, none⟩), .pointer (some ⟨k, 0, none⟩), .pointer (some ⟨z + 1 + 1, 0, none⟩), .pointer (some ⟨k + 1, 0, none⟩), .pointer (some ⟨z + 1 + 1 + 1, 0, none⟩)] w fun e w' => e = .returned (.bool (fitP s.nd n ad gl x sum p)) ∧ FI k (cost s.nd n) g w0 w' ∧ Up (k + 3) w w' ∧
   (∃ gb c, Blk w' (k + 1) 41 #[.slice (some ⟨gb, 0, none⟩) n c] ∧ Gr.OwnG 5 1 csB w' (k + 3) (.slice (some ⟨gb, 0, none⟩) n c) (datP s.nd n ad gl x p)) ∧ (∃ ov, Blk w' (k + 2) 22 #[ov] ∧ Nr.OwnN w' (k + 3) ov (outP gl p)) := by
 obtain ⟨A1, c1, rfl, hA1, hrd1⟩ := ints_shape hv
 have hg0 := hB.gone_ hI.sub
 obtain ⟨A2, c2, rfl, h2a, h2b, h2c, h2d, h2e⟩ := hg0.shape (fun _ => rfl)
 have HB := Lib.hid hB
 have HN := Lib.hid hN
 have HI := Lib.hid hI
 have HP := Lib.hid hp
 have hsz := hI.size
 obtain ⟨hl1, hl2⟩ := hB.low
 have hgl3 : gl.length ≤ 3 := by omega
 have hpl3 : p.length ≤ 3 := by omega
 have q1 : w.cell? ⟨ga, 0, none⟩ = some (.slice A2 gl.length c2) := (hB.bg.below hI.sub hl2).cell 0
 have hbs : ∀ W : World, (Instr.buildSlice 213 2 #[(0, .slice A2 gl.length c2), (1, .slice A1 p.length c1)]).run Tryz.prog W = .ok (.slice (some ⟨W.heap.size, 0, none⟩) 2 2) (W.alloc (.cells #[.slice A2 gl.length c2, .slice A1 p.length c1] 22)) := fun W => by kernel_rfl
 have B1 : Hid (Below w.heap.size w (w.alloc (.cells #[.slice A2 gl.length c2, .slice A1 p.length c1] 22))) := Lib.hid ((Below.refl _ _).alloc (Nat.le_refl _) _)
 have X1 : Hid (Blk (w.alloc (.cells #[.slice A2 gl.length c2, .slice A1 p.length c1] 22)) w.heap.size 22 #[.slice A2 gl.length c2, .slice A1 p.length c1]) := Lib.hid (Blk.new w _ _)
 have HJ : Hid (joinL (fun j => if j = 0 then gl else p) 2 = gl ++ p) := Lib.hid (by simp [joinL, List.range_succ])
 have HCC := Lib.hid (concat_N w.heap.size 0 2 2 (fun j => if j = 0 then A2 else A1) (fun j => if j = 0 then gl else p) (fun j => if j = 0 then c2 else c1) (w.alloc (.cells #[.slice A2 gl.length c2, .slice A1 p.length c1] 22)) X1.out.lt (by omega) (fun j hj => by
  rcases (show j = 0 ∨ j = 1 by omega) with rfl | rfl
  ·exact ⟨X1.out.cell 0, h2a.below B1.out, h2d⟩
  ·exact ⟨X1.out.cell 1, hrd1 _ B1.out B1.out.size, hA1⟩) (by rw [HJ.out, List.length_append]; omega))
 rw [HJ.out] at HCC
 clear hB hN hI hv hp hg0 hrd1 h2a h2b h2c h2d h2e HJ X1
 go_enter Tryz.func76, Tryz.ntmps76
 go_wp2_with fail
 refine HCC.out.mono ?_
 rintro e w2 ⟨v2, rfl, h2, b2⟩
 have B2 := Lib.hid (B1.out.trans (b2.mono B1.out.size))
 have hI2 := Sq.own_ints h2
 have H2 := Lib.hid h2
 obtain ⟨A3, c3, rfl, _, _, _, _, _⟩ := h2.shape (fun _ => rfl)
 have HL2 : Hid ((gl ++ p).length ≤ 3) := Lib.hid (by rw [List.length_append]; exact HP.out)
 generalize hgp : (gl ++ p).length = gp at *
 have HGP := Lib.hid hgp
 have HV := Lib.hid (Sq.values_any A3 gp c3 w2)
 have B3 : Hid (Below w.heap.size w (w2.alloc (.cells #[.slice A3 gp c3] 22))) := Lib.hid (B2.out.alloc B2.out.size _)
 have HSO := Lib.hid (Sq.sorted_any (w2.alloc (.cells #[.slice A3 gp c3] 22)) w2.heap.size (.slice A3 gp c3) (gl ++ p) (by rw [HGP.out]; have := HL2.out; omega) (by simp) ((Blk.new w2 22 #[.slice A3 gp c3]).cell 0) (by
  have h := hI2.below ((Below.refl w2.heap.size w2).alloc (Nat.le_refl _) (.cells #[.slice A3 gp c3] 22))
  rcases h with e | ⟨b, o, c, e, hb, hc⟩
  ·exact .inl e
  ·exact .inr ⟨b, o, c, e, by simp; omega, hc⟩))
 clear h2 b2 hI2 hgp q1 hbs B1 HCC
 go_wp2_with fail
 refine HV.out.mono ?_
 rintro e w3 ⟨rfl, rfl⟩
 go_wp2_with fail
 refine HSO.out.mono ?_
 rintro e w4 ⟨v4, rfl, h4, b4⟩
 have O4 := Lib.hid h4
 have B4 : Hid (Below w.heap.size w w4) := Lib.hid (B3.out.trans (b4.mono B3.out.size))
 have HZ4 : Hid (k + 3 ≤ (w2.alloc (.cells #[.slice A3 gp c3] 22)).heap.size) := Lib.hid (Nat.le_trans hsz B3.out.size)
 generalize (w2.alloc (.cells #[.slice A3 gp c3] 22)).heap.size = bs4 at *
 have I4 : Hid (FI k (cost s.nd n) g w0 w4) := Lib.hid (HI.out.grown B4.out)
 obtain ⟨A4, n4, c4, rfl⟩ : ∃ A4 n4 c4, v4 = .slice A4 n4 c4 := by
  rcases Nr.own_shape h4 with ⟨rfl, e⟩ | ⟨g, c, rfl, _⟩
  ·exact ⟨none, 0, 0, rfl⟩
  ·exact ⟨_, _, _, rfl⟩
 obtain ⟨vo, hvo⟩ := I4.out.bo
 have p1 : w4.cell? ⟨k + 1 + 1, 0, none⟩ = some vo := hvo.cell 0
 have p2 : w4.frozen? ⟨k + 1 + 1, 0, none⟩ = false := hvo.frozen 0
 have I5 : Hid (FI k (cost s.nd n) g w0 (w4.setCell ⟨k + 1 + 1, 0, none⟩ (.slice A4 n4 c4)) ∧ Blk (w4.setCell ⟨k + 1 + 1, 0, none⟩ (.slice A4 n4 c4)) (k + 2) 22 #[.slice A4 n4 c4]) := Lib.hid (I4.out.setO _)
 have O5 : Hid (Nr.OwnN (w4.setCell ⟨k + 1 + 1, 0, none⟩ (.slice A4 n4 c4)) bs4 (.slice A4 n4 c4) (outP gl p)) := Lib.hid (O4.out.keep fun g' hg' => Below.heap_setCell w4 ⟨k + 1 + 1, 0, none⟩ _ g' (by show g' ≠ k + 1 + 1; have := (O4.out.lt hg').2; have := HZ4.out; omega))
 have U5 : Hid (Up (k + 3) w (w4.setCell ⟨k + 1 + 1, 0, none⟩ (.slice A4 n4 c4))) := Lib.hid ⟨by have := B4.out.size; simp; omega, fun g' h1 h2 => (Below.heap_setCell w4 ⟨k + 1 + 1, 0, none⟩ _ g' (by show g' ≠ k + 1 + 1; omega)).trans (B4.out.block g' h2)⟩
 clear h4 b4 O4 B4 I4 hvo HSO HV B3 B2 H2
 go_wp2_with fail
 clear p1 p2
 generalize w4.setCell ⟨k + 1 + 1, 0, none⟩ (.slice A4 n4 c4) = w5 at *
 have HOL : Hid ((outP gl p).length ≤ 3) := Lib.hid (by unfold outP; rw [Sq.srt_length, List.length_append]; exact HP.out)
 have HGOOD : Hid (∀ i, i < cost s.nd n → (ad + i) % s.nd ∉ outP gl p → rl i = 128) := Lib.hid fun i hi hm => HN.out.good i hi fun hm2 => hm (by unfold outP; rw [Sq.mem_srt]; exact List.mem_append_left _ hm2)
 have HS : Hid (w5.drew.cell? ⟨z, 0, none⟩ = some (.pointer (some ⟨a, 0, none⟩)) ∧ w5.drew.cell? ⟨z + 1, 0, none⟩ = some (.int .i64 (ad : Int)) ∧ w5.drew.cell? ⟨k, 0, none⟩ = some (.slice (some ⟨g, 0, none⟩) (cost s.nd n) (cost s.nd n)) ∧ w5.drew.cell? ⟨k + 1 + 1, 0, none⟩ = some (.slice A4 n4 c4) ∧ w5.drew.cell? ⟨z + 1 + 1, 0, none⟩ = some (.int .i64 (n : Int))) :=
  Lib.hid ⟨(HB.out.ba.below I5.out.1.sub (by omega)).cell 0, (HB.out.bd.below I5.out.1.sub (by omega)).cell 0, I5.out.1.bc.cell 0, I5.out.2.cell 0, (HB.out.bs.below I5.out.1.sub (by omega)).cell 0⟩
 have HRB : Hid (Calls Tryz.prog 80 #[.pointer (some ⟨a, 0, none⟩), .int .i64 (ad : Int), .slice (some ⟨g, 0, none⟩) (cost s.nd n) (cost s.nd n), .slice A4 n4 c4] w5.drew fun e w' => ∃ v, e = .returned v ∧ Gr.OwnG 5 1 csB w' w5.drew.heap.size v (rebL s.nd n ad (outP gl p) x) ∧ Below w5.drew.heap.size w5.drew w') := Lib.hid (by
  have hsub : Below k w0 w5.drew := I5.out.1.sub.drew
  exact rebuilt_any w5.drew (HB.out.at_ hsub) ad n HN.out.n1 HN.out.n2 HN.out.hc g k ra rl rc x (HB.out.rows.below hsub (Nat.le_refl _)) (by have := I5.out.1.size; show k ≤ w5.heap.size; omega) bs4 _ (outP gl p) (O5.out.keep fun _ _ => rfl) HOL.out HGOOD.out)
 refine region_anyZ (fun W => W.cell? ⟨z, 0, none⟩ = some (.pointer (some ⟨a, 0, none⟩)) ∧ W.cell? ⟨z + 1, 0, none⟩ = some (.int .i64 (ad : Int)) ∧ W.cell? ⟨k, 0, none⟩ = some (.slice (some ⟨g, 0, none⟩) (cost s.nd n) (cost s.nd n)) ∧ W.cell? ⟨k + 1 + 1, 0, none⟩ = some (.slice A4 n4 c4) ∧ W.cell? ⟨z + 1 + 1, 0, none⟩ = some (.int .i64 (n : Int))) 7 (by kernel_rfl) ?_
 refine takeG 0 (.load 29 (.tmp 3)) (some 17) none (.pointer (some ⟨a, 0, none⟩)) (by kernel_rfl) (by kernel_rfl) (by kernel_rfl) (fun _ _ _ h => h) (fun o' wq e hS => exec_load (x := (.tmp 3)) e (by kernel_rfl) (load_one Tryz.underlying29 (by kernel_rfl) hS.1)) HS.out ?_
 refine takeG 1 (.load 3 (.tmp 4)) (some 18) none (.int .i64 (ad : Int)) (by kernel_rfl) (by kernel_rfl) (by kernel_rfl) (fun _ _ _ h => h) (fun o' wq e hS => exec_load (x := (.tmp 4)) e (by kernel_rfl) (load_one Tryz.underlying3 (by kernel_rfl) hS.2.1)) HS.out ?_
 refine takeG 2 (.load 139 (.tmp 5)) (some 19) none (.slice (some ⟨g, 0, none⟩) (cost s.nd n) (cost s.nd n)) (by kernel_rfl) (by kernel_rfl) (by kernel_rfl) (fun _ _ _ h => h) (fun o' wq e hS => exec_load (x := (.tmp 5)) e (by kernel_rfl) (load_one Tryz.underlying139 (by kernel_rfl) hS.2.2.1)) HS.out ?_
 refine takeG 3 (.load 22 (.tmp 2)) (some 20) none (.slice A4 n4 c4) (by kernel_rfl) (by kernel_rfl) (by kernel_rfl) (fun _ _ _ h => h) (fun o' wq e hS => exec_load (x := (.tmp 2)) e (by kernel_rfl) (load_one Tryz.underlying22 (by kernel_rfl) hS.2.2.2.1)) HS.out ?_
 refine takeG 5 (.load 3 (.tmp 6)) (some 22) none (.int .i64 (n : Int)) (by kernel_rfl) (by kernel_rfl) (by kernel_rfl) (fun _ _ _ h => h) (fun o' wq e hS => exec_load (x := (.tmp 6)) e (by kernel_rfl) (load_one Tryz.underlying3 (by kernel_rfl) hS.2.2.2.2)) HS.out ?_
 refine loneG 4 (.call ⟨.value (.func 80), #[(.tmp 17), (.tmp 18), (.tmp 19), (.tmp 20)], #[29, 3, 139, 22]⟩) (some 21) none (by kernel_rfl) (by kernel_rfl) (by kernel_rfl) ?_
 intro o' ho hod
 refine wp_callC (f := 80) (args := #[.pointer (some ⟨a, 0, none⟩), .int .i64 (ad : Int), .slice (some ⟨g, 0, none⟩) (cost s.nd n) (cost s.nd n), .slice A4 n4 c4]) (by cases o'; cases ho; kernel_rfl) HRB.out ?_
 rintro e w6 ⟨v6, rfl, h6, b6⟩
 refine ⟨_, rfl, ?_⟩
 rw [hod]
 clear hod ho
 have hlen := rebL_len (N := s.nd) HB.out.arr.five HN.out.n1 ad (outP gl p) x
 have hge := secs_ge n
 have hn1 := HN.out.n1
 obtain ⟨gb, cb, rfl, hg6, h6c, h6d, h6e⟩ : ∃ gb cb, v6 = .slice (some ⟨gb, 0, none⟩) (secs n * 128) cb ∧ w5.heap.size ≤ gb ∧ secs n * 128 ≤ cb ∧ cb ≤ maxLen ∧ Gr.OwnG 5 1 csB w6 w5.heap.size (.slice (some ⟨gb, 0, none⟩) n cb) (datP s.nd n ad gl x p) := by
  rcases h6.2 with ⟨_, e⟩ | ⟨gb, cb, cur, rfl, f1, f2, f3, f4, f5, f6⟩
  ·rw [hlen] at e; omega
  ·rw [hlen] at f3 f6 ⊢
   refine ⟨gb, cb, rfl, f1, f3, f4, ?_⟩
   have hdl : (datP s.nd n ad gl x p).length = n := by unfold datP; rw [List.length_take, hlen]; omega
   refine ⟨by rw [Gr.flat_length (cs := csB) (k := 1) (fun _ => rfl)], .inr ⟨gb, cb, cur, by rw [hdl], f1, f2, by rw [hdl]; omega, f4, f5, ?_⟩⟩
   rw [Nat.mul_one] at f6 ⊢
   rw [hdl]
   have e1 : cur.toList.take n = (cur.toList.take (secs n * 128)).take n := by rw [List.take_take]; congr 1; omega
   rw [e1, f6]
   unfold datP
   rw [flat_take]
 have b6d : Below w5.heap.size w5 w6 := (Below.refl w5.heap.size w5).drew.trans b6
 have I6 : Hid (FI k (cost s.nd n) g w0 w6) := Lib.hid (I5.out.1.grown b6d)
 have K6 : Hid (Blk w6 (k + 2) 22 #[.slice A4 n4 c4]) := Lib.hid (I5.out.2.below b6d I5.out.2.lt)
 have O6 : Hid (Nr.OwnN w6 bs4 (.slice A4 n4 c4) (outP gl p)) := Lib.hid (O5.out.below b6d (Nat.le_refl _))
 have U6 : Hid (Up (k + 3) w w6) := Lib.hid ⟨Nat.le_trans U5.out.1 b6d.size, fun g' h1 h2 => (b6d.block g' (Nat.lt_of_lt_of_le h2 U5.out.1)).trans (U5.out.2 g' h1 h2)⟩
 have D6 := Lib.hid h6e
 have HS6 : Hid (w6.cell? ⟨z, 0, none⟩ = some (.pointer (some ⟨a, 0, none⟩)) ∧ w6.cell? ⟨z + 1, 0, none⟩ = some (.int .i64 (ad : Int)) ∧ w6.cell? ⟨k, 0, none⟩ = some (.slice (some ⟨g, 0, none⟩) (cost s.nd n) (cost s.nd n)) ∧ w6.cell? ⟨k + 1 + 1, 0, none⟩ = some (.slice A4 n4 c4) ∧ w6.cell? ⟨z + 1 + 1, 0, none⟩ = some (.int .i64 (n : Int))) :=
  Lib.hid ⟨(HB.out.ba.below I6.out.sub (by omega)).cell 0, (HB.out.bd.below I6.out.sub (by omega)).cell 0, I6.out.bc.cell 0, K6.out.cell 0, (HB.out.bs.below I6.out.sub (by omega)).cell 0⟩
 have hk3 := I6.out.size
 obtain ⟨vb, hvb⟩ := I6.out.bb
 have I7 : Hid (FI k (cost s.nd n) g w0 (w6.setCell ⟨k + 1, 0, none⟩ (.slice (some ⟨gb, 0, none⟩) n cb)) ∧ Blk (w6.setCell ⟨k + 1, 0, none⟩ (.slice (some ⟨gb, 0, none⟩) n cb)) (k + 1) 41 #[.slice (some ⟨gb, 0, none⟩) n cb]) := Lib.hid (I6.out.setB _)
 have K7 : Hid (Blk (w6.setCell ⟨k + 1, 0, none⟩ (.slice (some ⟨gb, 0, none⟩) n cb)) (k + 2) 22 #[.slice A4 n4 c4]) := Lib.hid ((Below.heap_setCell w6 ⟨k + 1, 0, none⟩ _ (k + 2) (by show k + 2 ≠ k + 1; omega)).trans K6.out)
 have O7 : Hid (Nr.OwnN (w6.setCell ⟨k + 1, 0, none⟩ (.slice (some ⟨gb, 0, none⟩) n cb)) bs4 (.slice A4 n4 c4) (outP gl p)) := Lib.hid (O6.out.keep fun g' hg' => Below.heap_setCell w6 ⟨k + 1, 0, none⟩ _ g' (by show g' ≠ k + 1; have := (O6.out.lt hg').2; have := HZ4.out; omega))
 have U7 : Hid (Up (k + 3) w (w6.setCell ⟨k + 1, 0, none⟩ (.slice (some ⟨gb, 0, none⟩) n cb))) := Lib.hid ⟨by have := U6.out.1; simp; omega, fun g' h1 h2 => (Below.heap_setCell w6 ⟨k + 1, 0, none⟩ _ g' (by show g' ≠ k + 1; omega)).trans (U6.out.2 g' h1 h2)⟩
 have hw5 := I5.out.1.size
 have D7 : Hid (Gr.OwnG 5 1 csB (w6.setCell ⟨k + 1, 0, none⟩ (.slice (some ⟨gb, 0, none⟩) n cb)) w5.heap.size (.slice (some ⟨gb, 0, none⟩) n cb) (datP s.nd n ad gl x p)) := Lib.hid (D6.out.keep fun g' hg' => Below.heap_setCell w6 ⟨k + 1, 0, none⟩ _ g' (by show g' ≠ k + 1; have := (D6.out.lt hg').2; omega))
 clear h6 b6 b6d h6e I5 K6 O5 O6 U5 U6 D6 HRB HS
 refine ⟨fun _ => HS6.out, ?_⟩
 refine takeG 6 (.slice 41 (.tmp 21) .none (.some (.tmp 22)) .none) (some 23) none (.slice (some ⟨gb, 0, none⟩) n cb) (by kernel_rfl) (by kernel_rfl) (by kernel_rfl) (fun _ _ _ h => h) (fun o' wq e hS => exec_slice (u := .slice (some ⟨gb, 0, none⟩) (secs n * 128) cb) wq e (by kernel_rfl) (by kernel_rfl) (by kernel_rfl) (by kernel_rfl) (slice_headU gb 0 (secs n * 128) cb n (by omega) _)) HS6.out ?_
 refine lastStore 7 41 (.tmp 7) (.tmp 23) (.pointer (some ⟨k + 1, 0, none⟩)) (.slice (some ⟨gb, 0, none⟩) n cb) (w6.setCell ⟨k + 1, 0, none⟩ (.slice (some ⟨gb, 0, none⟩) n cb)) (by kernel_rfl) (by kernel_rfl) (by kernel_rfl) rfl (by kernel_rfl) (by kernel_rfl) (store_one size_sl8 rfl rfl (by rw [hvb.cell 0]; rfl) (hvb.frozen 0) (by rw [add_plain])) ?_
 simp only [put_some, put_none, List.setIfInBounds_toArray, List.set_cons_succ, List.set_cons_zero]
 generalize w6.setCell ⟨k + 1, 0, none⟩ (.slice (some ⟨gb, 0, none⟩) n cb) = w7 at *
 clear hvb I6 HS6
 have HS7 : Hid (w7.drew.cell? ⟨k + 1, 0, none⟩ = some (.slice (some ⟨gb, 0, none⟩) n cb) ∧ w7.drew.cell? ⟨z + 1 + 1 + 1, 0, none⟩ = some (.string sum)) := Lib.hid ⟨I7.out.2.cell 0, (HB.out.bu.below I7.out.1.sub (by omega)).cell 0⟩
 have HDL : Hid ((datP s.nd n ad gl x p).length = n) := Lib.hid (by unfold datP; rw [List.length_take, hlen]; omega)
 have HLT : Hid (∀ y ∈ datP s.nd n ad gl x p, y < 256) := Lib.hid fun y hy => by
  refine rebL_lt HB.out.arr.five HB.out.arr.bounds.1 HN.out.n1 HOL.out (fun i hi hm v hv => ?_) y (List.mem_of_mem_take hy)
  obtain ⟨b', o', e, h1, h2, h3⟩ := HB.out.rows i hi
  obtain ⟨_, _, _, _, _, h4⟩ := h3 v (by rw [HGOOD.out i hi hm]; exact hv)
  exact h4
 have HSM : Hid (Calls Tryz.prog 32 #[.slice (some ⟨gb, 0, none⟩) n cb] w7.drew fun e w' => e = .returned (.string (sumL (datP s.nd n ad gl x p))) ∧ Below w7.drew.heap.size w7.drew w') := Lib.hid (by
  have h := sum_any (some ⟨gb, 0, none⟩) n cb w7.heap.size (fun j => (datP s.nd n ad gl x p).getD j 0) w7.drew (rdB_own D7.out HDL.out HLT.out) (getD_lt HLT.out) (Nat.le_refl _) (by omega) h6d (by have := HN.out.n2; omega) (HB.out.laid_ I7.out.1.sub.drew)
  unfold sumL
  rw [HDL.out]
  exact h)
 go_wp2_with fail
 refine region_anyZ (fun W => W.cell? ⟨k + 1, 0, none⟩ = some (.slice (some ⟨gb, 0, none⟩) n cb) ∧ W.cell? ⟨z + 1 + 1 + 1, 0, none⟩ = some (.string sum)) 5 (by kernel_rfl) ?_
 refine takeG 0 (.load 41 (.tmp 7)) (some 24) none (.slice (some ⟨gb, 0, none⟩) n cb) (by kernel_rfl) (by kernel_rfl) (by kernel_rfl) (fun _ _ _ h => h) (fun o' wq e hS => exec_load (x := (.tmp 7)) e (by kernel_rfl) (load_one Tryz.underlying41 (by kernel_rfl) hS.1)) HS7.out ?_
 refine takeG 2 (.load 9 (.tmp 8)) (some 26) none (.string sum) (by kernel_rfl) (by kernel_rfl) (by kernel_rfl) (fun _ _ _ h => h) (fun o' wq e hS => exec_load (x := (.tmp 8)) e (by kernel_rfl) (load_one Tryz.underlying9 (by kernel_rfl) hS.2)) HS7.out ?_
 refine loneG 1 (.call ⟨.value (.func 32), #[(.tmp 24)], #[41]⟩) (some 25) none (by kernel_rfl) (by kernel_rfl) (by kernel_rfl) ?_
 intro o' ho hod
 refine wp_callC (f := 32) (args := #[.slice (some ⟨gb, 0, none⟩) n cb]) (by cases o'; cases ho; kernel_rfl) HSM.out ?_
 rintro e w8 ⟨rfl, b8⟩
 refine ⟨_, rfl, ?_⟩
 rw [hod]
 clear hod ho
 have b8d : Below w7.heap.size w7 w8 := (Below.refl w7.heap.size w7).drew.trans b8
 have I8 : Hid (FI k (cost s.nd n) g w0 w8) := Lib.hid (I7.out.1.grown b8d)
 have X8 : Hid (Blk w8 (k + 1) 41 #[.slice (some ⟨gb, 0, none⟩) n cb]) := Lib.hid (I7.out.2.below b8d I7.out.2.lt)
 have K8 : Hid (Blk w8 (k + 2) 22 #[.slice A4 n4 c4]) := Lib.hid (K7.out.below b8d K7.out.lt)
 have O8 : Hid (Nr.OwnN w8 bs4 (.slice A4 n4 c4) (outP gl p)) := Lib.hid (O7.out.below b8d (Nat.le_refl _))
 have D8 : Hid (Gr.OwnG 5 1 csB w8 w5.heap.size (.slice (some ⟨gb, 0, none⟩) n cb) (datP s.nd n ad gl x p)) := Lib.hid (D7.out.below b8d (Nat.le_refl _))
 have U8 : Hid (Up (k + 3) w w8) := Lib.hid ⟨Nat.le_trans U7.out.1 b8d.size, fun g' h1 h2 => (b8d.block g' (Nat.lt_of_lt_of_le h2 U7.out.1)).trans (U7.out.2 g' h1 h2)⟩
 have HS8 : Hid (w8.cell? ⟨k + 1, 0, none⟩ = some (.slice (some ⟨gb, 0, none⟩) n cb) ∧ w8.cell? ⟨z + 1 + 1 + 1, 0, none⟩ = some (.string sum)) := Lib.hid ⟨X8.out.cell 0, (HB.out.bu.below I8.out.sub (by omega)).cell 0⟩
 have HW5 := Lib.hid hw5
 clear b8 b8d I7 K7 O7 D7 U7 HS7 HSM hw5
 refine ⟨fun _ => HS8.out, ?_⟩
 refine takeG 3 (.binOp .eql 9 (.tmp 25) (.tmp 26) 9) (some 27) none (.bool (fitP s.nd n ad gl x sum p)) (by kernel_rfl) (by kernel_rfl) (by kernel_rfl) (fun _ _ _ h => h) (fun o' wq e hS => exec_bin (u1 := .string (sumL (datP s.nd n ad gl x p))) (u2 := .string sum) wq e (by kernel_rfl) (by kernel_rfl) (eqG_str ..) (eq_strA _ _ _)) HS8.out ?_
 refine lastS 4 (.assign (.tmp 27)) (some 10) (.bool (fitP s.nd n ad gl x sum p)) (by kernel_rfl) (by kernel_rfl) (by kernel_rfl) HS8.out (fun o' e => exec_assign _ e (by kernel_rfl)) ?_
 simp only [put_some, put_none, List.setIfInBounds_toArray, List.set_cons_succ, List.set_cons_zero]
 go_wp2_with fail
 go_ret
 exact ⟨rfl, I8.out, U8.out, ⟨gb, cb, X8.out, own_base D8.out HW5.out⟩, ⟨_, K8.out, own_base O8.out HZ4.out⟩⟩
end
end Arr
end Go.Proofs.YtkbndlnmbbbohaaGreatDoor
