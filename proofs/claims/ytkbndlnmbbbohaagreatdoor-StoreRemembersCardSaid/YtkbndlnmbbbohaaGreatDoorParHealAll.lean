/-
 'parity.addTimes' and 'parity.addData' whose source is only said to stand while the field and the row that is added to turn (made of XParAdd and XParData by mkparadds.py). Conditions: bytes are bytes.
-/
import Derived.Test.YtkbndlnmbbbohaaGreatDoorFieldElimM
import Derived.Test.YtkbndlnmbbbohaaGreatDoorParFaultM
import Derived.Test.YtkbndlnmbbbohaaGreatDoorParityBoundsWalkM
import Derived.Test.YtkbndlnmbbbohaaGreatDoorFieldSysM
import Derived.Test.YtkbndlnmbbbohaaGreatDoorArrCallsM
import Derived.Deep.Cut
import Derived.Outline
namespace Go.Proofs.YtkbndlnmbbbohaaGreatDoor
open Go.RowKit
set_option maxRecDepth 100000
set_option linter.unusedVariables false
set_option maxHeartbeats 1600000 in
theorem addTimes_st (b g c n cg cx B : Nat) (A : Option Addr) (T X : Nat → Nat) (w : World) (hb : Fld w b) (hg : RowG w g n T) (hx : ∀ W, Only2 b g w W → RdB W B A n X) (hT : ∀ j, T j < 256) (hc : c < 256) (hne : g ≠ b) (hn : n ≤ 4096) :
  Calls Tryz.prog 178 #[.pointer (some ⟨b, 0, none⟩), .slice (some ⟨g, 0, none⟩) n cg, .int .u8 (c : Int), .slice A n cx] w fun e w' => e = .returned (.tuple #[]) ∧ Fld w' b ∧ RowG w' g n (fun j => T j ^^^ M.gmul c (X j)) ∧ Only2 b g w w' := by
 have HX := Lib.hid hx
 have HNE := Lib.hid hne
 have F0 := Lib.hid hb
 have G0 : Hid (RowG w g n (M.mixR T X c 0)) := hg.congr fun j _ => by unfold M.mixR; rw [if_neg (by omega)]
 clear hx hne hb hg
 go_enter Tryz.func178, Tryz.ntmps178
 go_wp2_with fail
 go_loopw [12] (fun x wr => ∃ k : Nat, k ≤ n ∧ x = .int .i64 k ∧ Hid (Fld wr b) ∧ Hid (RowG wr g n (M.mixR T X c k)) ∧ Hid (Only2 b g w wr)) (fun x _ => n - (intOf x).toNat)
 case atStart => exact ⟨0, by omega, rfl, F0, G0, Only2.refl _ _ _⟩
 case round =>
  obtain ⟨k, hk, rfl, F1, G1, O1⟩ := hrel
  clear F0 G0
  by_cases hlt : k < n
  ·obtain ⟨bx, ox, rfl, hbx, hcx, hxk⟩ := (HX.out _ O1.out) k hlt
   have HC := Lib.hid (show M.mixR T X c k k = T k by unfold M.mixR; rw [if_neg (by omega)])
   generalize hxe : X k = xk at *
   have HXE := Lib.hid hxe
   clear hxe
   go_wp2_with fail
   have HS := Lib.hid (G1.out.cell hlt)
   clear hcx hbx
   refine region_anyZ (fun W : World => W.cell? ⟨g, k, none⟩ = some (.int .u8 ((M.mixR T X c k k : Nat) : Int))) 10 (by kernel_rfl) ?_
   refine takeG 0 (.move (.tmp 1)) (some 17) none (.slice (some ⟨g, 0, none⟩) n cg) (by kernel_rfl) (by kernel_rfl) (by kernel_rfl) (fun _ _ _ h => h) (fun o w e hS => exec_move w e (by kernel_rfl)) HS.out ?_
   refine takeG 1 (.move (.tmp 8)) (some 18) none (.int .i64 (k : Int)) (by kernel_rfl) (by kernel_rfl) (by kernel_rfl) (fun _ _ _ h => h) (fun o w e hS => exec_move w e (by kernel_rfl)) HS.out ?_
   refine takeG 2 (.indexAddr 41 (.tmp 17) (.tmp 18)) (some 19) none (.pointer (some ⟨g, k, none⟩)) (by kernel_rfl) (by kernel_rfl) (by kernel_rfl) (fun _ _ _ h => h) (fun o w e hS => exec_index (u1 := .slice (some ⟨g, 0, none⟩) n cg) (u2 := .int .i64 (k : Int)) w e (by kernel_rfl) (by kernel_rfl) (index_zero g n cg k hlt _)) HS.out ?_
   refine takeG 3 (.load 5 (.tmp 19)) (some 20) none (.int .u8 ((M.mixR T X c k k : Nat) : Int)) (by kernel_rfl) (by kernel_rfl) (by kernel_rfl) (fun _ _ _ h => h) (fun o w e hS => exec_load (x := (.tmp 19)) e (by kernel_rfl) (load_one Tryz.underlying5 (by kernel_rfl) hS)) HS.out ?_
   refine takeG 4 (.move (.tmp 0)) (some 21) none (.pointer (some ⟨b, 0, none⟩)) (by kernel_rfl) (by kernel_rfl) (by kernel_rfl) (fun _ _ _ h => h) (fun o w e hS => exec_move w e (by kernel_rfl)) HS.out ?_
   refine takeG 5 (.move (.tmp 2)) (some 22) none (.int .u8 (c : Int)) (by kernel_rfl) (by kernel_rfl) (by kernel_rfl) (fun _ _ _ h => h) (fun o w e hS => exec_move w e (by kernel_rfl)) HS.out ?_
   refine takeG 6 (.move (.tmp 9)) (some 23) none (.int .u8 (xk : Int)) (by kernel_rfl) (by kernel_rfl) (by kernel_rfl) (fun _ _ _ h => h) (fun o w e hS => exec_move w e (by kernel_rfl)) HS.out ?_
   refine loneG 7 (.call ⟨.value (.func 185), #[(.tmp 21), (.tmp 22), (.tmp 23)], #[228, 5, 5]⟩) (some 24) none (by kernel_rfl) (by kernel_rfl) (by kernel_rfl) ?_
   intro o ho hod
   refine wp_callC (f := 185) (args := #[.pointer (some ⟨b, 0, none⟩), .int .u8 (c : Int), .int .u8 (xk : Int)]) (by cases o; cases ho; kernel_rfl) (mul_some hc hxk F1.out) ?_
   rintro e w2 ⟨rfl, hf2, ho2⟩
   refine ⟨.int .u8 ((M.gmul c xk : Nat) : Int), rfl, ?_⟩
   rw [hod]
   clear hod ho
   have F2 := Lib.hid hf2
   have G2 := Lib.hid (RowG.only (show RowG wr.drew g n (M.mixR T X c k) from G1.out) ho2 HNE.out)
   have O2 := Lib.hid (O1.out.drew.only ho2)
   clear hf2 ho2
   have hc2 := G2.out.cell hlt
   have hz2 := G2.out.frozen hlt
   have HS2 := Lib.hid hc2
   refine ⟨fun _ => HS2.out, ?_⟩
   refine takeG 8 (.binOp .xor 5 (.tmp 20) (.tmp 24) 5) (some 25) none (.int .u8 ((M.mixR T X c k k ^^^ M.gmul c xk : Nat) : Int)) (by kernel_rfl) (by kernel_rfl) (by kernel_rfl) (fun _ _ _ h => h) (fun o w e hS => exec_bin (u1 := .int .u8 ((M.mixR T X c k k : Nat) : Int)) (u2 := .int .u8 ((M.gmul c xk : Nat) : Int)) w e (by kernel_rfl) (by kernel_rfl) (eqG_int ..) (u8_xor_run _ _ (M.mixR_lt hT c k k) (M.gmul_lt c xk) _)) HS2.out ?_
   refine takeG 9 (.indexAddr 41 (.tmp 17) (.tmp 18)) (some 26) none (.pointer (some ⟨g, k, none⟩)) (by kernel_rfl) (by kernel_rfl) (by kernel_rfl) (fun _ _ _ h => h) (fun o w e hS => exec_index (u1 := .slice (some ⟨g, 0, none⟩) n cg) (u2 := .int .i64 (k : Int)) w e (by kernel_rfl) (by kernel_rfl) (index_zero g n cg k hlt _)) HS2.out ?_
   refine lastStore 10 5 (.tmp 26) (.tmp 25) (.pointer (some ⟨g, k, none⟩)) (.int .u8 ((M.mixR T X c k k ^^^ M.gmul c xk : Nat) : Int)) _ (by kernel_rfl) (by kernel_rfl) (by kernel_rfl) rfl (by kernel_rfl) (by kernel_rfl) (store_one size_u8 rfl rfl (by rw [hc2]; rfl) hz2 (by rw [add_plain]; rfl)) ?_
   have F3 := Lib.hid (F2.out.far (p := ⟨g, k, none⟩) (fun e => HNE.out e.symm) (.int .u8 ((M.mixR T X c k k ^^^ M.gmul c xk : Nat) : Int)))
   have G3 : Hid (RowG (w2.setCell ⟨g, k, none⟩ (.int .u8 ((M.mixR T X c k k ^^^ M.gmul c xk : Nat) : Int))) g n (M.mixR T X c (k + 1))) := (G2.out.set hlt).congr fun j _ => by
    unfold upd
    by_cases e : j = k
    ·subst e; rw [if_pos rfl, HC.out, ← HXE.out]; unfold M.mixR; rw [if_pos (by omega)]
    ·rw [if_neg e]; unfold M.mixR
     by_cases e2 : j < k
     ·rw [if_pos e2, if_pos (by omega)]
     ·rw [if_neg e2, if_neg (by omega)]
   have O3 := Lib.hid (O2.out.setCell k (.int .u8 ((M.mixR T X c k k ^^^ M.gmul c xk : Nat) : Int)))
   clear F2 G2 O2 F1 G1 O1 HS HS2 hc2 hz2
   simp only [put_some, put_none, List.setIfInBounds_toArray, List.set_cons_succ, List.set_cons_zero]
   go_wp2_with fail
   go_roundw
   case rel => exact ⟨k + 1, by omega, by go_num, F3, G3, O3⟩
   case measure => simp [intOf]; omega
  ·have G2 : Hid (RowG wr g n (fun j => T j ^^^ M.gmul c (X j))) := G1.out.congr fun j hj => by unfold M.mixR; rw [if_pos (by omega)]
   clear G1
   go_wp2_with fail
   go_end0
   exact ⟨rfl, F1.out, G2.out, O1.out⟩
set_option maxHeartbeats 1600000 in
theorem addData_st (b g j n k cg cd B : Nat) (A : Option Addr) (ra : Nat → Option Addr) (rl rc : Nat → Nat) (x : Nat → Nat → Nat) (T : Nat → Nat) (w : World) (hb : Fld w b) (hg : RowG w g n T) (hr : ∀ W, Only2 b g w W → RdR W B A k ra rl rc x) (hl : ∀ i, i < k → rl i = n)
  (hT : ∀ v, T v < 256) (hj : j < 3) (hk : k ≤ 60) (hne : g ≠ b) (hn : n ≤ 4096) :
  Calls Tryz.prog 164 #[.pointer (some ⟨b, 0, none⟩), .slice (some ⟨g, 0, none⟩) n cg, .int .i64 (j : Int), .slice A k cd] w fun e w' => e = .returned (.tuple #[]) ∧ Fld w' b ∧ RowG w' g n (fun v => T v ^^^ M.par k j x v) ∧ Only2 b g w w' := by
 have HR := Lib.hid hr
 have HL := Lib.hid hl
 have HT := Lib.hid hT
 have HNE := Lib.hid hne
 have F0 := Lib.hid hb
 have G0 : Hid (RowG w g n (fun v => T v ^^^ M.par 0 j x v)) := hg.congr fun v _ => (Nat.xor_zero _).symm
 clear hr hl hT hne hb hg
 go_enter Tryz.func164, Tryz.ntmps164
 go_wp2_with fail
 go_loopw [12] (fun u wr => ∃ i : Nat, i ≤ k ∧ u = .int .i64 i ∧ Hid (Fld wr b) ∧ Hid (RowG wr g n (fun v => T v ^^^ M.par i j x v)) ∧ Hid (Only2 b g w wr)) (fun u _ => k - (intOf u).toNat)
 case atStart => exact ⟨0, by omega, rfl, F0, G0, Only2.refl _ _ _⟩
 case round =>
  obtain ⟨i, hi, rfl, F1, G1, O1⟩ := hrel
  clear F0 G0
  by_cases hlt : i < k
  ·obtain ⟨bx, ox, rfl, hbx, hcx, hrx⟩ := (HR.out _ O1.out) i hlt
   have HRS : Hid (∀ W, Only2 b g w W → RdB W B (ra i) n (x i)) := fun W hW => by
    obtain ⟨_, _, _, _, _, h⟩ := HR.out _ hW i hlt
    rw [HL.out i hlt] at h
    exact h
   rw [HL.out i hlt] at hcx hrx
   clear hrx hbx
   generalize hra : ra i = r1 at *
   generalize hrc : rc i = c1 at *
   clear hra hrc
   go_wp2_with fail
   refine (factor_any b j i _ hj (by omega) F1.out).mono ?_
   rintro e w2 ⟨rfl, hf2, ho2⟩
   have F2 := Lib.hid hf2
   have G2 := Lib.hid (G1.out.only ho2 HNE.out)
   have O2 := Lib.hid (O1.out.only ho2)
   have X2 : Hid (∀ W, Only2 b g w2 W → RdB W B r1 n (x i)) := fun W hW => HRS.out W (O2.out.trans hW)
   clear hf2 ho2 F1 G1 O1 HRS
   have hp := M.pw_any_lt (i * j)
   generalize hpe : M.pw (i * j) = p at *
   have HPE := Lib.hid hpe
   clear hpe
   go_wp2_with fail
   refine (addTimes_st b g p n cg c1 B r1 (fun v => T v ^^^ M.par i j x v) (x i) _ F2.out G2.out X2.out (fun v => M.xor_lt (HT.out v) (M.par_lt _ _ _ _)) hp HNE.out hn).mono ?_
   rintro e w3 ⟨rfl, hf3, hg3, ho3⟩
   have F3 := Lib.hid hf3
   have G3 : Hid (RowG w3 g n (fun v => T v ^^^ M.par (i + 1) j x v)) := hg3.congr fun v _ => by
    rw [M.par_succ, HPE.out, Nat.xor_assoc]
   have O3 := Lib.hid (O2.out.trans ho3)
   clear hf3 hg3 ho3 F2 G2 O2 X2
   go_wp2_with fail
   go_roundw
   case rel => exact ⟨i + 1, by omega, by go_num, F3, G3, O3⟩
   case measure => simp [intOf]; omega
  ·obtain rfl : i = k := by omega
   go_wp2_with fail
   go_end0
   exact ⟨rfl, F1.out, G1.out, O1.out⟩
end Go.Proofs.YtkbndlnmbbbohaaGreatDoor
namespace Go.Proofs.YtkbndlnmbbbohaaGreatDoor
open Go Go.RowKit
set_option maxRecDepth 100000
set_option linter.unusedVariables false
structure OnlyL (b K : Nat) (R : Nat → Nat) (a w : World) : Prop where
 os : w.os = a.os
 tape : w.tape = a.tape
 output : w.output = a.output
 size : a.heap.size ≤ w.heap.size
 block : ∀ i, i < a.heap.size → i ≠ b → (∀ j, j < K → i ≠ R j) → w.heap[i]? = a.heap[i]?
section
variable {b K : Nat} {R : Nat → Nat} {a c w : World}
theorem OnlyL.refl (b K : Nat) (R : Nat → Nat) (w : World) : OnlyL b K R w w := ⟨rfl, rfl, rfl, Nat.le_refl _, fun _ _ _ _ => rfl⟩
theorem OnlyL.trans (h : OnlyL b K R a c) (k : OnlyL b K R c w) : OnlyL b K R a w :=
 ⟨k.os.trans h.os, k.tape.trans h.tape, k.output.trans h.output, Nat.le_trans h.size k.size, fun i hi h1 h2 => (k.block i (Nat.lt_of_lt_of_le hi h.size) h1 h2).trans (h.block i hi h1 h2)⟩
theorem OnlyL.of_only (h : Only b a w) : OnlyL b K R a w := ⟨h.os, h.tape, h.output, h.size, fun i hi h1 _ => h.block i hi (fun e => by injection e with e; exact h1 e)⟩
theorem OnlyL.of_only2 {j : Nat} (h : Only2 b (R j) a w) (hj : j < K) : OnlyL b K R a w := ⟨h.os, h.tape, h.output, h.size, fun i hi h1 h2 => h.block i hi h1 (h2 j hj)⟩
theorem OnlyL.drew (h : OnlyL b K R a w) : OnlyL b K R a w.drew := ⟨h.os, h.tape, h.output, h.size, h.block⟩
theorem OnlyL.below (h : OnlyL b K R a w) {B : Nat} (hb : B ≤ b) (hR : ∀ j, j < K → B ≤ R j) (hs : B ≤ a.heap.size) : Below B a w :=
 ⟨h.os, h.tape, h.output, h.size, fun i hi => h.block i (by omega) (by omega) (fun j hj => by have := hR j hj; omega)⟩
end
theorem fld_ne_row {w : World} {b g n : Nat} {X : Nat → Nat} (h : Fld w b) (hr : RowG w g n X) : b ≠ g := fun e => by
 subst e
 obtain ⟨cs, fr, hb, _⟩ := hr
 rcases h with h | h <;>
 ·unfold Blk at h
  rw [hb] at h
  injection h with h
  injection h with _ h _
  exact absurd h (by decide)
theorem fld_ne_own {w : World} {b base n : Nat} {v : Value} {H : Nat → Hd} (h : Fld w b) (ho : OwnS w base v n H) : some b ≠ v.ownBlock := fun e => by
 rcases ho with ⟨rfl, _⟩ | ⟨g', cap, cur, fr, rfl, _, hg, _⟩
 ·cases e
 ·simp [Value.ownBlock] at e
  subst e
  rcases h with h | h <;>
  ·unfold Blk at h
   rw [hg] at h
   injection h with h
   injection h with _ h _
   exact absurd h (by decide)
section
variable {w w' : World} {base K n b : Nat} {v : Value} {H : Nat → Hd} {R : Nat → Nat} {X : Nat → Nat → Nat}
theorem Cols.only (h : Cols w base v K n H R X) (hf : Fld w b) (ho : Only b w w') : Cols w' base v K n H R X :=
 ⟨h.own.keep fun g hg => ho.block g (h.own.lt hg).1 (fun e => fld_ne_own hf h.own (by rw [hg, e])), h.hd, fun j hj => ⟨(h.row j hj).1, (h.row j hj).2.heap (ho.block _ (h.row j hj).2.lt (fun e => by injection e with e; exact fld_ne_row hf (h.row j hj).2 e.symm))⟩, h.apart⟩
theorem Cols.ne (h : Cols w base v K n H R X) {i j : Nat} (hi : i < K) (hj : j < K) (hne : i ≠ j) : R i ≠ R j := by
 by_cases e : i < j
 ·exact h.apart i j e hj
 ·exact (h.apart j i (by omega) hi).symm
theorem Cols.turn (h : Cols w base v K n H R X) (hf : Fld w b) {j : Nat} {Y : Nat → Nat} (hj : j < K) (hg : RowG w' (R j) n Y) (ho : Only2 b (R j) w w') : Cols w' base v K n H R (fun i => if i = j then Y else X i) := by
 have hrj := (h.row j hj).2
 refine ⟨h.own.keep fun g hg => ho.block g (h.own.lt hg).1 (fun e => fld_ne_own hf h.own (by rw [hg, e])) (fun e => h.own.neG hrj (by rw [hg, e])), h.hd, fun i hi => ⟨(h.row i hi).1, ?_⟩, h.apart⟩
 show RowG w' (R i) n (if i = j then Y else X i)
 by_cases e : i = j
 ·rw [if_pos e, e]; exact hg
 ·rw [if_neg e]
  exact (h.row i hi).2.heap (ho.block _ (h.row i hi).2.lt (fun q => fld_ne_row hf (h.row i hi).2 q.symm) (h.ne hi hj e))
theorem Cols.rdrA {i c : Nat} {A : Option Addr} {x : Nat → Nat → Nat} (h : Cols w base (.slice A i c) i n H R x) (hx : ∀ j, j < i → ∀ v, v < n → x j v < 256) : RdR w w.heap.size A i (fun j => (H j).1) (fun j => (H j).2.1) (fun j => (H j).2.2) x := by
 obtain ⟨A', c', e, _, _, hr⟩ := h.rdr hx
 injection e with e1 e2 e3
 subst e1
 exact hr
theorem Cols.rdr2 {A : Option Addr} {c g kk : Nat} (h : Cols w base (.slice A K c) K n H R X) (hx : ∀ j, j < K → ∀ v, v < n → X j v < 256) (hf : Fld w b) (hkk : kk ≤ K) (hg : ∀ i, i < kk → g ≠ R i) (hgo : some g ≠ (Value.slice A K c).ownBlock) : ∀ W, Only2 b g w W → RdR W w.heap.size A kk (fun j => (H j).1) (fun j => (H j).2.1) (fun j => (H j).2.2) X := fun W ho i hi => by
 obtain ⟨b', o', rfl, q2, q3, _⟩ := (h.rdrA hx) i (by omega)
 obtain ⟨cj, e, _⟩ := h.hd i (by omega)
 have hr := (h.row i (by omega)).2
 have hob : ∀ q, (Value.slice (some ⟨b', o', none⟩) K c).ownBlock = some q → q = b' := fun q hq => by
  rcases h.own with ⟨e1, _⟩ | ⟨g', cap, cur, fr, e1, _⟩
  ·cases e1
  ·injection e1 with e1
   injection e1 with e1
   injection e1 with e1 e2
   subst e1; subst e2
   simp [Value.ownBlock] at hq
   exact hq.symm
 have hob2 : (Value.slice (some ⟨b', o', none⟩) K c).ownBlock = some b' := by
  rcases h.own with ⟨e1, _⟩ | ⟨g', cap, cur, fr, e1, _⟩
  ·cases e1
  ·injection e1 with e1
   injection e1 with e1
   injection e1 with e1 e2
   subst e1; subst e2
   simp [Value.ownBlock]
 refine ⟨b', o', rfl, q2, ?_, ?_⟩
 ·rw [cell_of_heap (ho.block b' q2 (fun q => fld_ne_own hf h.own (by rw [hob2, q])) (fun q => hgo (by rw [hob2, q]))), q3]
 ·show RdB W w.heap.size (H i).1 (H i).2.1 (X i)
  rw [e]
  exact (hr.heap (ho.block _ hr.lt (fun q => fld_ne_row hf hr q.symm) (fun q => hg i hi q.symm))).rdb (fun v hv => hx i (by omega) v hv) hr.lt
theorem Cols.cell {h0 c : Nat} (h : Cols w base (.slice (some ⟨h0, 0, none⟩) K c) K n H R X) {j : Nat} (hj : j < K) : ∃ cj, w.cell? ⟨h0, j, none⟩ = some (.slice (some ⟨R j, 0, none⟩) n cj) ∧ n ≤ cj ∧ cj ≤ maxLen := by
 obtain ⟨cj, e, h1, h2⟩ := h.hd j hj
 rcases h.own with ⟨e1, _⟩ | ⟨g', cap, cur, fr, e1, _, hb, _, _, _, _, h4⟩
 ·cases e1
 ·injection e1 with e1
  injection e1 with e1
  injection e1 with e1 e2
  subst e1
  exact ⟨cj, by rw [cell_of_row _ _ _ _ _ _ hb, h4 j hj, e]; rfl, h1, h2⟩
end
end Go.Proofs.YtkbndlnmbbbohaaGreatDoor
set_option linter.unusedVariables false
namespace Go.Proofs.YtkbndlnmbbbohaaGreatDoor.M
def isL (q : Nat) (l : Nat → Nat) (i : Nat) : Bool := (List.range q).any fun x => l x == i
theorem isL_true {q i x : Nat} {l : Nat → Nat} (hx : x < q) (h : l x = i) : isL q l i = true := by
 unfold isL
 rw [List.any_eq_true]
 exact ⟨x, by simpa using hx, by simpa using h⟩
theorem isL_false {q i : Nat} {l : Nat → Nat} (h : ∀ x, x < q → l x ≠ i) : isL q l i = false := by
 unfold isL
 rw [List.any_eq_false]
 intro x hx
 simpa using h x (by simpa using hx)
theorem isL_of {q i : Nat} {l : Nat → Nat} (h : isL q l i = true) : ∃ x, x < q ∧ l x = i := by
 unfold isL at h
 rw [List.any_eq_true] at h
 obtain ⟨x, hx, e⟩ := h
 exact ⟨x, by simpa using hx, by simpa using e⟩
theorem isL_not {q i : Nat} {l : Nat → Nat} (h : isL q l i = false) : ∀ x, x < q → l x ≠ i := fun x hx e => by
 rw [isL_true hx e] at h
 cases h
theorem xsum_pick (k : Nat) (l : Nat → Nat) (g : Nat → Nat) : ∀ q, (∀ x y, x < y → y < q → l x < l y) → (∀ x, x < q → l x < k) → xsum k (fun i => if isL q l i then g i else 0) = xsum q (fun x => g (l x)) := by
 intro q
 induction q with
 | zero => exact fun _ _ => xsum_zero k _ (fun i _ => by rw [isL_false (fun x hx => absurd hx (by omega))]; rfl)
 | succ q ih =>
  intro hl hk
  show _ = xsum q (fun x => g (l x)) ^^^ g (l q)
  rw [← ih (fun x y h1 h2 => hl x y h1 (by omega)) (fun x hx => hk x (by omega)), ← show xsum k (fun i => if i = l q then g i else 0) = g (l q) by
   rw [xsum_one k _ (l q) (hk q (by omega)) (fun i _ hne => if_neg hne), if_pos rfl], ← xsum_xor]
  refine xsum_congr fun i hi => ?_
  by_cases e : i = l q
  ·have e2 : isL q l i = false := isL_false fun x hx => by have := hl x q hx (by omega); omega
   rw [isL_true (x := q) (by omega) e.symm, e2, if_pos rfl, if_pos e, if_neg (by decide), Nat.zero_xor]
  ·rw [if_neg e, Nat.xor_zero]
   by_cases e2 : isL q l i = true
   ·obtain ⟨x, hx, h⟩ := isL_of e2
    rw [e2, isL_true (x := x) (by omega) h]
   ·have e3 : isL q l i = false := by simpa using e2
    rw [e3, isL_false (fun x hx h => ?_)]
    by_cases hxq : x = q
    ·subst hxq; exact e h.symm
    ·exact isL_not e3 x (by omega) h
theorem left_eq {k q r v : Nat} {l j : Nat → Nat} {X D : Nat → Nat → Nat} (hl : ∀ x y, x < y → y < q → l x < l y) (hk : ∀ x, x < q → l x < k) (hr : r < q) (hg : ∀ i, i < k → (∀ x, x < q → l x ≠ i) → X i v = D i v) (h0 : ∀ x, x < q → X (l x) v = 0) (hp : X (k + j r) v = par k (j r) D v) :
  X (k + j r) v ^^^ par k (j r) X v = xsum q (fun x => gmul (fac l j r x) (D (l x) v)) := by
 rw [hp]
 have e := xsum_pick k l (fun i => gmul (pw (i * j r)) (D i v)) q hl hk
 have e2 : xsum q (fun x => gmul (fac l j r x) (D (l x) v)) = xsum q (fun x => (fun i => gmul (pw (i * j r)) (D i v)) (l x)) := rfl
 rw [e2, ← e]
 unfold par
 rw [← xsum_xor]
 refine xsum_congr fun i hi => ?_
 by_cases h : isL q l i = true
 ·obtain ⟨x, hx, e⟩ := isL_of h
  rw [h, if_pos rfl, ← e, h0 x hx, gmul_zero_right, Nat.xor_zero]
 ·have h2 : isL q l i = false := by simpa using h
  rw [h2, if_neg (by decide), hg i hi (isL_not h2), Nat.xor_self]
end Go.Proofs.YtkbndlnmbbbohaaGreatDoor.M
namespace Go.Proofs.YtkbndlnmbbbohaaGreatDoor
open Go Go.RowKit
set_option maxRecDepth 100000
set_option linter.unusedVariables false
def cut (n : Nat) (x : Nat → Nat) (v : Nat) : Nat := if v < n then x v else 0
theorem cut_lt {n : Nat} {x : Nat → Nat} (h : ∀ v, v < n → x v < 256) (v : Nat) : cut n x v < 256 := by
 unfold cut
 split
 ·rename_i e; exact h v e
 ·omega
theorem cut_in {n v : Nat} {x : Nat → Nat} (h : v < n) : cut n x v = x v := if_pos h
structure LeftAt (w0 w : World) (zl b q n r : Nat) (G Cc : Nat → Nat) (T : Nat → Nat → Nat) : Prop where
 head : Blk w zl 41 (hdX q r (fun i => .slice (some ⟨G i, 0, none⟩) n (Cc i)) (.slice none 0 0))
 row : ∀ i, i < r → zl < G i ∧ RowG w (G i) n (T i)
 fld : Fld w b
 only : Only b w0 w
 base : w0.heap.size ≤ zl ∧ b < w0.heap.size
section
variable {w0 w w' : World} {zl b q n r : Nat} {G Cc : Nat → Nat} {T : Nat → Nat → Nat}
theorem LeftAt.cell (h : LeftAt w0 w zl b q n r G Cc T) {i : Nat} (hi : i < r) (hq : i < q) : w.cell? ⟨zl, i, none⟩ = some (.slice (some ⟨G i, 0, none⟩) n (Cc i)) := by
 rw [h.head.cell, hdX_get hq, if_pos hi]
structure LeftMid (w0 w : World) (zl b q n r g cg : Nat) (G Cc : Nat → Nat) (T : Nat → Nat → Nat) (Y : Nat → Nat) : Prop where
 head : Blk w zl 41 (hdX q r (fun i => .slice (some ⟨G i, 0, none⟩) n (Cc i)) (.slice (some ⟨g, 0, none⟩) n cg))
 row : ∀ i, i < r → (zl < G i ∧ G i ≠ g) ∧ RowG w (G i) n (T i)
 cur : zl < g ∧ RowG w g n Y
 fld : Fld w b
 only : Only b w0 w
 base : w0.heap.size ≤ zl ∧ b < w0.heap.size
theorem LeftMid.drew {g cg : Nat} {Y : Nat → Nat} (h : LeftMid w0 w zl b q n r g cg G Cc T Y) : LeftMid w0 w.drew zl b q n r g cg G Cc T Y := ⟨h.head, h.row, h.cur, h.fld, h.only.drew, h.base⟩
theorem LeftMid.cell_ {g cg : Nat} {Y : Nat → Nat} (h : LeftMid w0 w zl b q n r g cg G Cc T Y) (hr : r < q) : w.cell? ⟨zl, r, none⟩ = some (.slice (some ⟨g, 0, none⟩) n cg) := by
 rw [h.head.cell, hdX_get hr, if_neg (by omega), if_pos rfl]
theorem LeftMid.step {g cg : Nat} {Y Y' : Nat → Nat} (h : LeftMid w0 w zl b q n r g cg G Cc T Y) (hf : Fld w' b) (hg : RowG w' g n Y') (ho : Only2 b g w w') (hgn : w0.heap.size ≤ g) : LeftMid w0 w' zl b q n r g cg G Cc T Y' := by
 have hb := h.base
 have hc := h.cur.1
 refine ⟨(ho.block zl h.head.lt (by omega) (by omega)).trans h.head, fun i hi => ⟨(h.row i hi).1, (h.row i hi).2.heap (ho.block _ (h.row i hi).2.lt (by have := (h.row i hi).1.1; omega) (h.row i hi).1.2)⟩, ⟨hc, hg⟩, hf, ?_, hb⟩
 exact ⟨ho.os.trans h.only.os, ho.tape.trans h.only.tape, ho.output.trans h.only.output, Nat.le_trans h.only.size ho.size, fun i hi hne => (ho.block i (Nat.lt_of_lt_of_le hi h.only.size) (fun e => hne (by rw [e])) (by omega)).trans (h.only.block i hi hne)⟩
theorem LeftMid.done {g cg : Nat} {Y : Nat → Nat} (h : LeftMid w0 w zl b q n r g cg G Cc T Y) : LeftAt w0 w zl b q n (r + 1) (fun i => if i = r then g else G i) (fun i => if i = r then cg else Cc i) (fun i => if i = r then Y else T i) := by
 refine ⟨?_, fun i hi => ?_, h.fld, h.only, h.base⟩
 ·have e : hdX q r (fun i => .slice (some ⟨G i, 0, none⟩) n (Cc i)) (.slice (some ⟨g, 0, none⟩) n cg) = hdX q (r + 1) (fun i => .slice (some ⟨if i = r then g else G i, 0, none⟩) n (if i = r then cg else Cc i)) (.slice none 0 0) := by
   rw [hdX_next]
   congr 1
   funext i
   by_cases e : i = r
   ·rw [if_pos e, if_pos e, if_pos e]
   ·rw [if_neg e, if_neg e, if_neg e]
  exact e ▸ h.head
 ·show zl < (if i = r then g else G i) ∧ RowG w (if i = r then g else G i) n (if i = r then Y else T i)
  by_cases e : i = r
  ·rw [if_pos e, if_pos e]; exact h.cur
  ·rw [if_neg e, if_neg e]
   exact ⟨(h.row i (by omega)).1.1, (h.row i (by omega)).2⟩
end
theorem index_ints (b o n c i : Nat) (h : i < n) (w : World) : (Instr.indexAt 22 (.slice (some ⟨b, o, none⟩) n c) (.int .i64 (i : Int))).run Tryz.prog w = .ok (.pointer (some ⟨b, o + i, none⟩)) w :=
 index_slice (P := Tryz.prog) (t := 22) (e := 3) Tryz.underlying22 (by kernel_rfl) b o n c i h w
theorem Cols.congrV {w : World} {base K n : Nat} {v : Value} {H : Nat → Hd} {R : Nat → Nat} {X Y : Nat → Nat → Nat} (h : Cols w base v K n H R X) (e : ∀ i, i < K → ∀ u, u < n → X i u = Y i u) : Cols w base v K n H R Y :=
 ⟨h.own, h.hd, fun j hj => ⟨(h.row j hj).1, (h.row j hj).2.congr (e j hj)⟩, h.apart⟩
theorem RowG.onlyL {w w' : World} {b K g n : Nat} {R : Nat → Nat} {X : Nat → Nat} (h : RowG w g n X) (hg : g ≠ b ∧ ∀ i, i < K → g ≠ R i) (ho : OnlyL b K R w w') : RowG w' g n X := h.heap (ho.block g h.lt hg.1 hg.2)
structure MendAt (wl w : World) (base h0 c k q n b y x : Nat) (H : Nat → Hd) (R l j : Nat → Nat) (X T C XX : Nat → Nat → Nat) : Prop where
 cols : Cols w base (.slice (some ⟨h0, 0, none⟩) (k + 3) c) (k + 3) n H R XX
 lost : ∀ x', x' < q → XX (l x') = fun v => M.xsum (if x' < x then y + 1 else y) (fun r => M.gmul (C r x') (T r v))
 other : ∀ i, i < k + 3 → (∀ x', x' < q → l x' ≠ i) → XX i = X i
 fld : Fld w b
 only : OnlyL b (k + 3) R wl w
section
variable {wl w w' : World} {base h0 c k q n b y x : Nat} {H : Nat → Hd} {R l j : Nat → Nat} {X T C XX : Nat → Nat → Nat}
theorem MendAt.drew (h : MendAt wl w base h0 c k q n b y x H R l j X T C XX) : MendAt wl w.drew base h0 c k q n b y x H R l j X T C XX := ⟨h.cols.drew, h.lost, h.other, h.fld, h.only.drew⟩
theorem MendAt.only_ (h : MendAt wl w base h0 c k q n b y x H R l j X T C XX) (hf : Fld w' b) (ho : Only b w w') : MendAt wl w' base h0 c k q n b y x H R l j X T C XX := ⟨h.cols.only h.fld ho, h.lost, h.other, hf, h.only.trans (OnlyL.of_only ho)⟩
theorem MendAt.step (h : MendAt wl w base h0 c k q n b y x H R l j X T C XX) (hx : x < q) (linc : ∀ x y, x < y → y < q → l x < l y) (llt : ∀ x, x < q → l x < k) (hxx : x < q ∨ True) (hf : Fld w' b) (hg : RowG w' (R (l x)) n (fun v => XX (l x) v ^^^ M.gmul (C y x) (T y v))) (ho : Only2 b (R (l x)) w w') :
  MendAt wl w' base h0 c k q n b y (x + 1) H R l j X T C (fun i => if i = l x then (fun v => XX (l x) v ^^^ M.gmul (C y x) (T y v)) else XX i) := by
 have hlx := llt x hx
 refine ⟨h.cols.turn h.fld (by omega) hg ho, fun x' hx' => ?_, fun i hi hne => ?_, hf, h.only.trans (OnlyL.of_only2 ho (by omega))⟩
 ·show (if l x' = l x then _ else XX (l x')) = _
  by_cases e : x' = x
  ·subst e
   rw [if_pos rfl, if_pos (by omega), h.lost x' hx', if_neg (by omega)]
   rfl
  ·have hne : l x' ≠ l x := by
    by_cases e2 : x' < x
    ·have := linc x' x e2 hx; omega
    ·have := linc x x' (by omega) hx'; omega
   rw [if_neg hne, h.lost x' hx']
   by_cases e2 : x' < x
   ·rw [if_pos e2, if_pos (by omega)]
   ·rw [if_neg e2, if_neg (by omega)]
 ·show (if i = l x then _ else XX i) = _
  rw [if_neg (fun e => hne x hx e.symm)]
  exact h.other i hi hne
theorem MendAt.next (h : MendAt wl w base h0 c k q n b y q H R l j X T C XX) : MendAt wl w base h0 c k q n b (y + 1) 0 H R l j X T C XX :=
 ⟨h.cols, fun x' hx' => by rw [h.lost x' hx', if_pos hx', if_neg (by omega)], h.other, h.fld, h.only⟩
theorem MendAt.share (h : MendAt wl w base h0 c k q n b y 0 H R l j X T C XX) (Z : Nat → Nat) : MendAt wl w base h0 c k q n b y 0 H R l j X T (fun r => if r = y then Z else C r) XX :=
 ⟨h.cols, fun x' hx' => by
  rw [h.lost x' hx', if_neg (by omega)]
  funext v
  refine M.xsum_congr fun r hr => ?_
  rw [if_neg (by omega)], h.other, h.fld, h.only⟩
end
structure MendIn (w : World) (base h0 c k q n b : Nat) (H : Nat → Hd) (R l j : Nat → Nat) (X D : Nat → Nat → Nat) : Prop where
 cols : Cols w base (.slice (some ⟨h0, 0, none⟩) (k + 3) c) (k + 3) n H R X
 cap : k + 3 ≤ c ∧ c ≤ maxLen
 xlt : ∀ i, i < k + 3 → ∀ v, v < n → X i v < 256
 dlt : ∀ i, i < k → ∀ v, v < n → D i v < 256
 good : ∀ i, i < k → (∀ x, x < q → l x ≠ i) → ∀ v, v < n → X i v = D i v
 lost : ∀ x, x < q → ∀ v, v < n → X (l x) v = 0
 pars : ∀ x, x < q → ∀ v, v < n → X (k + j x) v = M.par k (j x) D v
 linc : ∀ x y, x < y → y < q → l x < l y
 llt : ∀ x, x < q → l x < k
 jinc : ∀ x y, x < y → y < q → j x < j y
 jlt : ∀ x, x < q → j x < 3
set_option maxHeartbeats 6400000 in
theorem mendData_any (b k q n h0 c base c1 c2 : Nat) (A1 A2 : Option Addr) (H : Nat → Hd) (R l j : Nat → Nat) (X D : Nat → Nat → Nat) (w : World) (hI : MendIn w base h0 c k q n b H R l j X D) (hn1 : 1 ≤ n) (hn : n ≤ 4096) (hk0 : 0 < k) (hk : k ≤ 13) (hq0 : 0 < q) (hq : q ≤ 3)
  (h1 : RdZ w w.heap.size A1 q (fun i => ((l i : Nat) : Int))) (h2 : RdZ w w.heap.size A2 q (fun i => ((j i : Nat) : Int))) (hb1 : ∀ bb o, A1 = some ⟨bb, o, none⟩ → bb ≠ b ∧ ∀ i, i < k + 3 → bb ≠ R i) (hb2 : ∀ bb o, A2 = some ⟨bb, o, none⟩ → bb ≠ b ∧ ∀ i, i < k + 3 → bb ≠ R i) (hf : Fld w b) :
  Calls Tryz.prog 182 #[.pointer (some ⟨b, 0, none⟩), .slice (some ⟨h0, 0, none⟩) (k + 3) c, .slice A1 q c1, .slice A2 q c2] w fun e w' => e = .returned (.tuple #[]) ∧ ∃ XX, Cols w' base (.slice (some ⟨h0, 0, none⟩) (k + 3) c) (k + 3) n H R XX ∧ (∀ i, i < k → ∀ v, v < n → XX i v = D i v) ∧ (∀ i, k ≤ i → i < k + 3 → XX i = X i) ∧ Fld w' b ∧ OnlyL b (k + 3) R w w' := by
 have HI := Lib.hid hI
 have HF := Lib.hid hf
 obtain ⟨b1, o1, rfl, _⟩ := h1 0 hq0
 obtain ⟨b2, o2, rfl, _⟩ := h2 0 hq0
 have K1 : Hid (∀ W : World, Only b w W → RdZ W w.heap.size (some ⟨b1, o1, none⟩) q (fun i => ((l i : Nat) : Int))) := fun W hW => h1.only (fun bb o e => (hb1 bb o e).1) hW
 have K2 : Hid (∀ W : World, Only b w W → RdZ W w.heap.size (some ⟨b2, o2, none⟩) q (fun i => ((j i : Nat) : Int))) := fun W hW => h2.only (fun bb o e => (hb2 bb o e).1) hW
 have HB1 := Lib.hid (hb1 b1 o1 rfl)
 have HB2 := Lib.hid (hb2 b2 o2 rfl)
 have HL1 := Lib.hid h1
 have HL2 := Lib.hid h2
 have hbl := hf.lt
 have e1 : IntKind.i64.wrap (((k + 3 : Nat) : Int) - 3) = (k : Int) := by rw [IntKind.wrap_i64]; omega
 have hmk : ∀ W : World, (Instr.makeSlice 139 (.int .i64 (q : Int)) (.int .i64 (q : Int))).run Tryz.prog W = .ok (.slice (some ⟨W.heap.size, 0, none⟩) q q) (W.alloc (.cells (hdX q 0 (fun i => .slice (some ⟨0, 0, none⟩) n 0) (.slice none 0 0)) 41)) := fun W => by
  rw [make_rows q n (fun _ => 0) (by omega) W]
  congr 3
  unfold hdP hdX
  congr 1
  funext i
  rw [if_neg (by omega), if_neg (by omega)]
  split <;> rfl
 have J0 : Hid (LeftAt w (w.alloc (.cells (hdX q 0 (fun i => .slice (some ⟨0, 0, none⟩) n 0) (.slice none 0 0)) 41)) w.heap.size b q n 0 (fun _ => 0) (fun _ => 0) (fun r v => cut n (X (k + j r)) v ^^^ M.par k (j r) X v)) :=
  Lib.hid ⟨Blk.new _ _ _, fun i hi => absurd hi (by omega), hf.alloc _, (Only.refl _ _).alloc _, ⟨Nat.le_refl _, hbl⟩⟩
 clear hI h1 h2 hb1 hb2 hf hbl
 go_enter Tryz.func182, Tryz.ntmps182
 go_wp2_with fail
 clear hmk e1
 generalize hwz : w.heap.size = zl at *
 have HWZ := Lib.hid hwz
 clear hwz
 go_loopw [23] (fun t wr => ∃ (r : Nat) (G Cc : Nat → Nat) (T : Nat → Nat → Nat), t = .int .i64 r ∧ r ≤ q ∧ Hid (LeftAt w wr zl b q n r G Cc T) ∧ Hid (∀ i, i < r → ∀ v, v < n → T i v = X (k + j i) v ^^^ M.par k (j i) X v)) (fun t _ => q - (intOf t).toNat)
 case atStart => exact ⟨0, _, _, _, rfl, by omega, J0, Lib.hid (fun i hi => absurd hi (by omega))⟩
 case round =>
  clear J0
  obtain ⟨r, G, Cc, T, rfl, hrq, T1, E1⟩ := hrel
  by_cases hr : r < q
  ·obtain ⟨b2', o2', qq, _, hc2⟩ := (K2.out _ T1.out.only) r hr
   injection qq with qq
   injection qq with q1 q2
   subst q1; subst q2
   have hjl : j r < 3 := HI.out.jlt r hr
   have C1 := Lib.hid (HI.out.cols.only HF.out T1.out.only)
   obtain ⟨cj, hcj, hcn, hcm⟩ := C1.out.cell (j := k + j r) (by omega)
   have HXR := Lib.hid (HI.out.xlt (k + j r) (by omega))
   have HRX : Hid (RdB wr wr.heap.size (some ⟨R (k + j r), 0, none⟩) n (X (k + j r))) := Lib.hid ((C1.out.row _ (by omega)).2.rdb HXR.out (C1.out.row _ (by omega)).2.lt)
   have e2 : IntKind.i64.wrap ((k : Int) + ((j r : Nat) : Int)) = ((k + j r : Nat) : Int) := by rw [IntKind.wrap_i64]; omega
   have i2 : ((k + j r : Nat) : Int) < (k : Int) + 3 := by omega
   obtain ⟨rj, hrj⟩ : ∃ rj, rj = R (k + j r) := ⟨_, rfl⟩
   rw [← hrj] at hcj HRX
   have HRJ := Lib.hid hrj
   clear hrj
   go_wp2_with ((with_reducible refine wpList_append_rd rfl (.const (.slice none 0 0)) (.tmp 35) rfl rfl rfl (Own8.nil wr wr.heap.size (fun _ => 0)) HRX.out (fun e => by cases e) hcn (by omega) (Nat.le_refl _) ?_); intro v2 w2 ho2 hg2 he2; refine of_hid ?_)
   refine Lib.hid ?_
   rw [Nat.zero_add] at ho2
   obtain ⟨g, cg, rfl, hgb, hrow, hng, hcg⟩ := ho2.row (by omega)
   have LB := Lib.hid (own_grown8 (Below.refl wr.heap.size wr) (Own8.nil wr wr.heap.size (fun _ => 0)) hg2 (Nat.le_refl _))
   have hzl : zl < wr.heap.size := T1.out.head.lt
   have hdB := T1.out.head.below LB.out hzl
   have hdc : w2.cell? ⟨zl, r, none⟩ = some (.slice none 0 0) := by rw [hdB.cell, hdX_get hr, if_neg (by omega), if_pos rfl]
   have hdf : w2.frozen? ⟨zl, r, none⟩ = false := hdB.frozen r
   have hnx : Hid (RowG w2 g n (cut n (X (k + j r)))) := hrow.congr fun v hv => by
    unfold cat cut
    rw [if_neg (by omega), if_pos hv, Nat.sub_zero]
   have HDB := Lib.hid hdB
   have hbz := T1.out.base
   have hbz2 : b < zl := by have := hbz.1; have := hbz.2; omega
   clear ho2 hg2 he2 hrow hdB HRX hcj hc2
   unfold maxLen at hcg hcm
   go_upto_region 6 with (fail)
   obtain ⟨W6, hW6⟩ : ∃ W6, W6 = w2.setCell ⟨zl, r, none⟩ (.slice (some ⟨g, 0, none⟩) n cg) := ⟨_, rfl⟩
   rw [← hW6]
   have M6 : Hid (LeftMid w W6 zl b q n r g cg G Cc T (cut n (X (k + j r)))) := by
    rw [hW6]
    have q1 := HDB.out.set_ r (.slice (some ⟨g, 0, none⟩) n cg)
    rw [hdX_set hr] at q1
    have hF2 : Fld w2 b := fld_heap T1.out.fld (LB.out.block b (by omega))
    refine ⟨q1, fun i hi => ⟨⟨(T1.out.row i hi).1, by have := (T1.out.row i hi).2.lt; omega⟩, ((T1.out.row i hi).2.below LB.out (T1.out.row i hi).2.lt).far (p := ⟨zl, r, none⟩) (by have := (T1.out.row i hi).1; show G i ≠ zl; omega) _⟩, ⟨by omega, hnx.out.far (p := ⟨zl, r, none⟩) (show g ≠ zl by omega) _⟩, hF2.far (p := ⟨zl, r, none⟩) (show b ≠ zl by omega) _, ?_, hbz⟩
    exact (T1.out.only.trans (Only.of_below LB.out b)).setNew (p := ⟨zl, r, none⟩) hbz.1 _
   clear hW6 LB HDB hnx hdc hdf T1 C1
   go_wp2_with fail
   have T6 := Lib.hid M6.out.drew
   have HS := Lib.hid (T6.out.cell_ hr)
   have HF6 := Lib.hid T6.out.fld
   have HG6 := Lib.hid T6.out.cur.2
   have C6 := Lib.hid (HI.out.cols.only HF.out T6.out.only)
   have HGN : Hid (w.heap.size ≤ g) := by show w.heap.size ≤ g; have := hbz.1; omega
   have HGB : Hid (g ≠ b) := by show g ≠ b; omega
   have HR6 := Lib.hid (C6.out.rdr2 (kk := k) (g := g) HI.out.xlt HF6.out (by omega) (fun i hi => by have := (HI.out.cols.row i (by omega)).2.lt; have := HGN.out; omega) (fun e => by have := (HI.out.cols.own.lt e.symm).1; have := HGN.out; omega))
   have HL6 : Hid (∀ i, i < k → (H i).2.1 = n) := fun i hi => HI.out.cols.len (by omega)
   clear M6
   refine region_anyZ (fun W : World => W.cell? ⟨zl, r, none⟩ = some (.slice (some ⟨g, 0, none⟩) n cg)) 10 (by kernel_rfl) ?_
   refine takeG 0 (.move (.tmp 0)) (some 38) none (.pointer (some ⟨b, 0, none⟩)) (by kernel_rfl) (by kernel_rfl) (by kernel_rfl) (fun _ _ _ h => h) (fun o w e hS => exec_move w e (by kernel_rfl)) HS.out ?_
   refine takeG 1 (.move (.tmp 9)) (some 39) none (.slice (some ⟨zl, 0, none⟩) q q) (by kernel_rfl) (by kernel_rfl) (by kernel_rfl) (fun _ _ _ h => h) (fun o w e hS => exec_move w e (by kernel_rfl)) HS.out ?_
   refine takeG 2 (.move (.tmp 10)) (some 40) none (.int .i64 (r : Int)) (by kernel_rfl) (by kernel_rfl) (by kernel_rfl) (fun _ _ _ h => h) (fun o w e hS => exec_move w e (by kernel_rfl)) HS.out ?_
   refine takeG 3 (.indexAddr 139 (.tmp 39) (.tmp 40)) (some 41) none (.pointer (some ⟨zl, r, none⟩)) (by kernel_rfl) (by kernel_rfl) (by kernel_rfl) (fun _ _ _ h => h) (fun o w e hS => exec_index (u1 := .slice (some ⟨zl, 0, none⟩) q q) (u2 := .int .i64 (r : Int)) w e (by kernel_rfl) (by kernel_rfl) (index_rows_zero zl q q r hr _)) HS.out ?_
   refine takeG 4 (.load 41 (.tmp 41)) (some 42) none (.slice (some ⟨g, 0, none⟩) n cg) (by kernel_rfl) (by kernel_rfl) (by kernel_rfl) (fun _ _ _ h => h) (fun o w e hS => exec_load (x := (.tmp 41)) e (by kernel_rfl) (load_one Tryz.underlying41 (by kernel_rfl) hS)) HS.out ?_
   refine takeG 5 (.move (.tmp 11)) (some 43) none (.int .i64 ((j r : Nat) : Int)) (by kernel_rfl) (by kernel_rfl) (by kernel_rfl) (fun _ _ _ h => h) (fun o w e hS => exec_move w e (by kernel_rfl)) HS.out ?_
   refine takeG 6 (.move (.tmp 1)) (some 44) none (.slice (some ⟨h0, 0, none⟩) (k + 3) c) (by kernel_rfl) (by kernel_rfl) (by kernel_rfl) (fun _ _ _ h => h) (fun o w e hS => exec_move w e (by kernel_rfl)) HS.out ?_
   refine takeG 7 (.move (.tmp 8)) (some 45) none (.int .i64 (k : Int)) (by kernel_rfl) (by kernel_rfl) (by kernel_rfl) (fun _ _ _ h => h) (fun o w e hS => exec_move w e (by kernel_rfl)) HS.out ?_
   refine takeG 8 (.slice 139 (.tmp 44) .none (.some (.tmp 45)) .none) (some 46) none (.slice (some ⟨h0, 0, none⟩) k c) (by kernel_rfl) (by kernel_rfl) (by kernel_rfl) (fun _ _ _ h => h) (fun o w e hS => exec_slice (u := .slice (some ⟨h0, 0, none⟩) (k + 3) c) w e (by kernel_rfl) (by kernel_rfl) (by kernel_rfl) (by kernel_rfl) (slice_headR h0 0 (k + 3) c k (by have := HI.out.cap.1; omega) _)) HS.out ?_
   refine loneG 9 (.call ⟨.value (.func 164), #[(.tmp 38), (.tmp 42), (.tmp 43), (.tmp 46)], #[228, 41, 3, 139]⟩) (some 47) none (by kernel_rfl) (by kernel_rfl) (by kernel_rfl) ?_
   intro o ho hod
   refine wp_callC (f := 164) (args := #[.pointer (some ⟨b, 0, none⟩), .slice (some ⟨g, 0, none⟩) n cg, .int .i64 ((j r : Nat) : Int), .slice (some ⟨h0, 0, none⟩) k c]) (by cases o; cases ho; kernel_rfl) (addData_st b g (j r) n k cg c _ (some ⟨h0, 0, none⟩) _ _ _ X (cut n (X (k + j r))) _ HF6.out HG6.out HR6.out HL6.out (cut_lt HXR.out) hjl (by omega) HGB.out hn) ?_
   rintro e W8 ⟨rfl, hf8, hg8, ho8⟩
   refine ⟨.tuple #[], rfl, ?_⟩
   rw [hod]
   clear hod ho
   have T8 := Lib.hid (T6.out.step hf8 hg8 ho8 HGN.out)
   have HS8 := Lib.hid (T8.out.cell_ hr)
   clear hf8 hg8 ho8
   refine ⟨fun _ => HS8.out, ?_⟩
   refine AnyZ.done (by kernel_rfl) ?_
   have T9 := Lib.hid T8.out.done
   have E9 : Hid (∀ i, i < r + 1 → ∀ v, v < n → (if i = r then (fun v => cut n (X (k + j r)) v ^^^ M.par k (j r) X v) else T i) v = X (k + j i) v ^^^ M.par k (j i) X v) := fun i hi v hv => by
    by_cases e : i = r
    ·rw [if_pos e, e]
     show cut n (X (k + j r)) v ^^^ _ = _
     rw [cut_in hv]
    ·rw [if_neg e]
     exact E1.out i (by omega) v hv
   clear T6 T8 HS HS8 HF6 HG6 C6 HR6 HL6 E1
   simp only [put_some, put_none, List.setIfInBounds_toArray, List.set_cons_succ, List.set_cons_zero]
   go_wp2_with fail
   go_roundw
   case rel => exact ⟨r + 1, _, _, _, by go_num, by omega, T9, E9⟩
   case measure => simp [intOf]; omega
  ·obtain rfl : q = r := by omega
   have XZ : Hid (∃ XX, MendAt wr wr base h0 c k q n b 0 0 H R l j X T (fun _ _ => 0) XX) := by
    refine ⟨fun i => if M.isL q l i then (fun _ => 0) else X i, ?_, fun x' hx' => ?_, fun i hi hne => ?_, T1.out.fld, OnlyL.refl _ _ _ _⟩
    ·refine (HI.out.cols.only HF.out T1.out.only).congrV fun i hi v hv => ?_
     by_cases e : M.isL q l i = true
     ·obtain ⟨x, hx, ex⟩ := M.isL_of e
      rw [e, if_pos rfl, ← ex]
      exact HI.out.lost x hx v hv
     ·have e2 : M.isL q l i = false := by simpa using e
      rw [e2, if_neg (by decide)]
    ·show (if M.isL q l (l x') then (fun _ => 0) else X (l x')) = _
     rw [M.isL_true hx' rfl, if_pos rfl, if_neg (by omega)]
     rfl
    ·show (if M.isL q l i then (fun _ => 0) else X i) = X i
     rw [M.isL_false hne, if_neg (by decide)]
   obtain ⟨XX0, hXX0⟩ := XZ.out
   obtain ⟨wl, hwl⟩ : ∃ wl, wl = wr := ⟨_, rfl⟩
   have M0 : Hid (MendAt wl wr base h0 c k q n b 0 0 H R l j X T (fun _ _ => 0) XX0) := by rw [hwl]; exact hXX0
   have hbz := T1.out.base
   have hbz2 : b < zl := by have := hbz.1; have := hbz.2; omega
   have TL := T1
   rw [← hwl] at TL
   have hzlw : zl < wl.heap.size := TL.out.head.lt
   clear XZ hXX0 T1
   go_wp2_with fail
   go_loopw [51] (fun t wr => ∃ (y : Nat) (C XX : Nat → Nat → Nat), t = .int .i64 y ∧ y ≤ q ∧ Hid (MendAt wl wr base h0 c k q n b y 0 H R l j X T C XX) ∧ Hid (∀ r, r < y → (∀ x, x < q → C r x < 256) ∧ ∀ y', y' < q → M.xsum q (fun x => M.gmul (M.fac l j y' x) (C r x)) = if y' = r then 1 else 0)) (fun t _ => q - (intOf t).toNat)
   case atStart => exact ⟨0, _, _, rfl, by omega, M0, Lib.hid (fun r hr => absurd hr (by omega))⟩
   case round =>
    clear M0 hwl
    obtain ⟨wy, rfl⟩ : ∃ wy : World, wy = wr := ⟨_, rfl⟩
    obtain ⟨y, C, XX, rfl, hyq, M1, S1⟩ := hrel
    by_cases hy : y < q
    ·have hsz : w.heap.size ≤ wl.heap.size := TL.out.only.size
     have hsz2 := M1.out.only.size
     have RZ1 : Hid (RdZ wy wy.heap.size (some ⟨b1, o1, none⟩) q (fun i => ((l i : Nat) : Int))) := fun i hi => by
      obtain ⟨bb, o, e, h1, h2⟩ := (K1.out _ TL.out.only) i hi
      injection e with e
      injection e with e1 e2
      subst e1; subst e2
      exact ⟨b1, o1, rfl, by omega, (cell_of_heap (M1.out.only.block b1 (by omega) HB1.out.1 HB1.out.2)).trans h2⟩
     have RZ2 : Hid (RdZ wy wy.heap.size (some ⟨b2, o2, none⟩) q (fun i => ((j i : Nat) : Int))) := fun i hi => by
      obtain ⟨bb, o, e, h1, h2⟩ := (K2.out _ TL.out.only) i hi
      injection e with e
      injection e with e1 e2
      subst e1; subst e2
      exact ⟨b2, o2, rfl, by omega, (cell_of_heap (M1.out.only.block b2 (by omega) HB2.out.1 HB2.out.2)).trans h2⟩
     have HFY := Lib.hid M1.out.fld
     have HLL : Hid (∀ x, x < q → l x < 13) := fun x hx => by have := HI.out.llt x hx; omega
     go_wp2_with fail
     refine (shares_any b q c1 c2 y (some ⟨b1, o1, none⟩) (some ⟨b2, o2, none⟩) l j wy RZ1.out RZ2.out (fun bb o e => by injection e with e; injection e with e1 e2; subst e1; exact HB1.out.1) (fun bb o e => by injection e with e; injection e with e1 e2; subst e1; exact HB2.out.1) HFY.out hq0 hq hy HI.out.linc HLL.out HI.out.jinc HI.out.jlt).mono ?_
     rintro e w7 ⟨gc, Z, rfl, hgc, hbc, hZ, hsol, hf7, ho7⟩
     obtain ⟨C2, hC2⟩ : ∃ C2 : Nat → Nat → Nat, C2 = fun r => if r = y then Z else C r := ⟨_, rfl⟩
     have hC2y : C2 y = Z := by rw [hC2]; exact if_pos rfl
     have M7 := M1.out.share Z
     rw [← hC2] at M7
     have M7 := Lib.hid (M7.only_ hf7 ho7)
     have GC0 : Hid (RowG w7 gc q (C2 y)) := by rw [hC2y]; exact RowG.of_blk hbc (Nat.le_refl _)
     have HGC : Hid (gc ≠ b ∧ ∀ i, i < k + 3 → gc ≠ R i) := ⟨by omega, fun i hi => by have := (M1.out.cols.row i hi).2.lt; omega⟩
     have S2 : Hid (∀ r, r < y + 1 → (∀ x, x < q → C2 r x < 256) ∧ ∀ y', y' < q → M.xsum q (fun x => M.gmul (M.fac l j y' x) (C2 r x)) = if y' = r then 1 else 0) := fun r hr => by
      by_cases e : r = y
      ·rw [e, hC2y]; exact ⟨hZ, hsol⟩
      ·have e2 : C2 r = C r := by rw [hC2]; exact if_neg e
       rw [e2]; exact S1.out r (by omega)
     clear hC2 hC2y hgc hbc hZ hsol hf7 ho7 M1 S1 RZ1 RZ2 HFY HLL
     go_wp2_with fail
     go_loopw [60] (fun t wr => ∃ (x : Nat) (XX : Nat → Nat → Nat), t = .int .i64 x ∧ x ≤ q ∧ Hid (MendAt wl wr base h0 c k q n b y x H R l j X T C2 XX) ∧ Hid (RowG wr gc q (C2 y))) (fun t _ => q - (intOf t).toNat)
     case atStart => exact ⟨0, _, rfl, by omega, M7, GC0⟩
     case round =>
      clear M7 GC0
      obtain ⟨x, XX, rfl, hxq, M6, GC6⟩ := hrel
      by_cases hx : x < q
      ·have hlk3 : l x < k + 3 := by have := HI.out.llt x hx; omega
       have hcc := GC6.out.cell hx
       have hcx : C2 y x < 256 := (S2.out y (by omega)).1 x hx
       go_wp2_with fail
       have M7 := Lib.hid M6.out.drew
       have HF7 := Lib.hid M7.out.fld
       have HG7 := Lib.hid (M7.out.cols.row (l x) hlk3).2
       have GC7 : Hid (RowG wr.drew gc q (C2 y)) := GC6.out
       obtain ⟨cx, hcell, _, _⟩ := M7.out.cols.cell hlk3
       have hTy := TL.out.row y hy
       have hRz : ∀ i, i < k + 3 → R i < zl := fun i hi => by have := (HI.out.cols.row i hi).2.lt; have := hbz.1; omega
       have HR7 : Hid (∀ W, Only2 b (R (l x)) wr.drew W → RdB W (G y + 1) (some ⟨G y, 0, none⟩) n (T y)) := fun W hW => by
        have h := hTy.2.onlyL (K := k + 3) (R := R) ⟨by omega, fun i hi => by have := hRz i hi; omega⟩ (M7.out.only.trans (OnlyL.of_only2 hW hlk3))
        refine h.rdb (fun v hv => ?_) (Nat.lt_succ_self _)
        rw [E1.out y hy v hv]
        exact M.xor_lt (HI.out.xlt _ (by have := HI.out.jlt y hy; omega) v hv) (M.par_lt _ _ _ _)
       have HXL : Hid (∀ v, XX (l x) v < 256) := fun v => by rw [M7.out.lost x hx]; exact M.xsum_lt fun _ _ => M.gmul_lt _ _
       have HRB : Hid (R (l x) ≠ b) := fun e => fld_ne_row HF7.out HG7.out e.symm
       have hown := M7.out.cols.own
       have hob : (Value.slice (some ⟨h0, 0, none⟩) (k + 3) c).ownBlock = some h0 := by simp [Value.ownBlock]
       have hh0 := (hown.lt hob).1
       have HST : Hid (∀ W, OnlyL b (k + 3) R wr.drew W → W.cell? ⟨b1, o1 + x, none⟩ = some (.int .i64 ((l x : Nat) : Int)) ∧ W.cell? ⟨h0, l x, none⟩ = some (.slice (some ⟨R (l x), 0, none⟩) n cx) ∧ W.cell? ⟨zl, y, none⟩ = some (.slice (some ⟨G y, 0, none⟩) n (Cc y))) := fun W hW => by
        have hT := M7.out.only.trans hW
        refine ⟨?_, ?_, ?_⟩
        ·obtain ⟨bb, o, e, h1, h2⟩ := (K1.out _ TL.out.only) x hx
         injection e with e
         injection e with e1 e2
         subst e1; subst e2
         exact (cell_of_heap (hT.block b1 (by omega) HB1.out.1 HB1.out.2)).trans h2
        ·exact (cell_of_heap (hW.block h0 hh0 (fun e => fld_ne_own HF7.out hown (by rw [hob, e])) (fun i hi e => hown.neG (M7.out.cols.row i hi).2 (by rw [hob, e])))).trans hcell
        ·exact (cell_of_heap (hT.block zl hzlw (by omega) (fun i hi => by have := hRz i hi; omega))).trans (TL.out.cell hy hy)
       have HS := Lib.hid (HST.out wr.drew (OnlyL.refl _ _ _ _))
       clear M6 GC6 hcc hcell hown hh0 hTy
       refine region_anyZ (fun W : World => W.cell? ⟨b1, o1 + x, none⟩ = some (.int .i64 ((l x : Nat) : Int)) ∧ W.cell? ⟨h0, l x, none⟩ = some (.slice (some ⟨R (l x), 0, none⟩) n cx) ∧ W.cell? ⟨zl, y, none⟩ = some (.slice (some ⟨G y, 0, none⟩) n (Cc y))) 14 (by kernel_rfl) ?_
       refine takeG 0 (.move (.tmp 0)) (some 65) none (.pointer (some ⟨b, 0, none⟩)) (by kernel_rfl) (by kernel_rfl) (by kernel_rfl) (fun _ _ _ h => h) (fun o w e hS => exec_move w e (by kernel_rfl)) HS.out ?_
       refine takeG 1 (.move (.tmp 1)) (some 66) none (.slice (some ⟨h0, 0, none⟩) (k + 3) c) (by kernel_rfl) (by kernel_rfl) (by kernel_rfl) (fun _ _ _ h => h) (fun o w e hS => exec_move w e (by kernel_rfl)) HS.out ?_
       refine takeG 2 (.move (.tmp 2)) (some 67) none (.slice (some ⟨b1, o1, none⟩) q c1) (by kernel_rfl) (by kernel_rfl) (by kernel_rfl) (fun _ _ _ h => h) (fun o w e hS => exec_move w e (by kernel_rfl)) HS.out ?_
       refine takeG 3 (.move (.tmp 13)) (some 68) none (.int .i64 (x : Int)) (by kernel_rfl) (by kernel_rfl) (by kernel_rfl) (fun _ _ _ h => h) (fun o w e hS => exec_move w e (by kernel_rfl)) HS.out ?_
       refine takeG 4 (.indexAddr 22 (.tmp 67) (.tmp 68)) (some 69) none (.pointer (some ⟨b1, o1 + x, none⟩)) (by kernel_rfl) (by kernel_rfl) (by kernel_rfl) (fun _ _ _ h => h) (fun o w e hS => exec_index (u1 := .slice (some ⟨b1, o1, none⟩) q c1) (u2 := .int .i64 (x : Int)) w e (by kernel_rfl) (by kernel_rfl) (index_ints b1 o1 q c1 x hx _)) HS.out ?_
       refine takeG 5 (.load 3 (.tmp 69)) (some 70) none (.int .i64 ((l x : Nat) : Int)) (by kernel_rfl) (by kernel_rfl) (by kernel_rfl) (fun _ _ _ h => h) (fun o w e hS => exec_load (x := (.tmp 69)) e (by kernel_rfl) (load_one Tryz.underlying3 (by kernel_rfl) hS.1)) HS.out ?_
       refine takeG 6 (.indexAddr 139 (.tmp 66) (.tmp 70)) (some 71) none (.pointer (some ⟨h0, l x, none⟩)) (by kernel_rfl) (by kernel_rfl) (by kernel_rfl) (fun _ _ _ h => h) (fun o w e hS => exec_index (u1 := .slice (some ⟨h0, 0, none⟩) (k + 3) c) (u2 := .int .i64 ((l x : Nat) : Int)) w e (by kernel_rfl) (by kernel_rfl) (index_rows_zero h0 (k + 3) c (l x) hlk3 _)) HS.out ?_
       refine takeG 7 (.load 41 (.tmp 71)) (some 72) none (.slice (some ⟨R (l x), 0, none⟩) n cx) (by kernel_rfl) (by kernel_rfl) (by kernel_rfl) (fun _ _ _ h => h) (fun o w e hS => exec_load (x := (.tmp 71)) e (by kernel_rfl) (load_one Tryz.underlying41 (by kernel_rfl) hS.2.1)) HS.out ?_
       refine takeG 8 (.move (.tmp 14)) (some 73) none (.int .u8 ((C2 y x : Nat) : Int)) (by kernel_rfl) (by kernel_rfl) (by kernel_rfl) (fun _ _ _ h => h) (fun o w e hS => exec_move w e (by kernel_rfl)) HS.out ?_
       refine takeG 9 (.move (.tmp 9)) (some 74) none (.slice (some ⟨zl, 0, none⟩) q q) (by kernel_rfl) (by kernel_rfl) (by kernel_rfl) (fun _ _ _ h => h) (fun o w e hS => exec_move w e (by kernel_rfl)) HS.out ?_
       refine takeG 10 (.move (.tmp 12)) (some 75) none (.int .i64 (y : Int)) (by kernel_rfl) (by kernel_rfl) (by kernel_rfl) (fun _ _ _ h => h) (fun o w e hS => exec_move w e (by kernel_rfl)) HS.out ?_
       refine takeG 11 (.indexAddr 139 (.tmp 74) (.tmp 75)) (some 76) none (.pointer (some ⟨zl, y, none⟩)) (by kernel_rfl) (by kernel_rfl) (by kernel_rfl) (fun _ _ _ h => h) (fun o w e hS => exec_index (u1 := .slice (some ⟨zl, 0, none⟩) q q) (u2 := .int .i64 (y : Int)) w e (by kernel_rfl) (by kernel_rfl) (index_rows_zero zl q q y hy _)) HS.out ?_
       refine takeG 12 (.load 41 (.tmp 76)) (some 77) none (.slice (some ⟨G y, 0, none⟩) n (Cc y)) (by kernel_rfl) (by kernel_rfl) (by kernel_rfl) (fun _ _ _ h => h) (fun o w e hS => exec_load (x := (.tmp 76)) e (by kernel_rfl) (load_one Tryz.underlying41 (by kernel_rfl) hS.2.2)) HS.out ?_
       refine loneG 13 (.call ⟨.value (.func 178), #[(.tmp 65), (.tmp 72), (.tmp 73), (.tmp 77)], #[228, 41, 5, 41]⟩) (some 78) none (by kernel_rfl) (by kernel_rfl) (by kernel_rfl) ?_
       intro o ho hod
       refine wp_callC (f := 178) (args := #[.pointer (some ⟨b, 0, none⟩), .slice (some ⟨R (l x), 0, none⟩) n cx, .int .u8 ((C2 y x : Nat) : Int), .slice (some ⟨G y, 0, none⟩) n (Cc y)]) (by cases o; cases ho; kernel_rfl) (addTimes_st b (R (l x)) (C2 y x) n cx (Cc y) _ (some ⟨G y, 0, none⟩) (XX (l x)) (T y) _ HF7.out HG7.out HR7.out HXL.out hcx HRB.out hn) ?_
       rintro e W8 ⟨rfl, hf8, hg8, ho8⟩
       refine ⟨.tuple #[], rfl, ?_⟩
       rw [hod]
       clear hod ho
       have M8 := Lib.hid (M7.out.step hx HI.out.linc HI.out.llt (by omega) hf8 hg8 ho8)
       have GC8 := Lib.hid (GC7.out.onlyL HGC.out (OnlyL.of_only2 (K := k + 3) ho8 hlk3))
       have HS8 := Lib.hid (HST.out W8 (OnlyL.of_only2 (K := k + 3) ho8 hlk3))
       clear hf8 hg8 ho8
       refine ⟨fun _ => HS8.out, ?_⟩
       refine AnyZ.done (by kernel_rfl) ?_
       clear M7 HS HS8 HST GC7 HF7 HG7 HR7 HXL HRB
       simp only [put_some, put_none, List.setIfInBounds_toArray, List.set_cons_succ, List.set_cons_zero]
       go_wp2_with fail
       go_roundw
       case rel => exact ⟨x + 1, _, by go_num, by omega, M8, GC8⟩
       case measure => simp [intOf]; omega
      ·obtain rfl : q = x := by omega
       have M8 := Lib.hid M6.out.next
       clear M6 GC6
       go_wp2_with fail
       go_roundw
       case rel => exact ⟨y + 1, C2, XX, by go_num, by omega, M8, S2⟩
       case measure => simp [intOf]; omega
    ·obtain rfl : q = y := by omega
     go_wp2_with fail
     go_end0
     refine ⟨rfl, XX, M1.out.cols, fun i hi v hv => ?_, fun i hi1 hi2 => M1.out.other i hi2 (fun x hx e => by have := HI.out.llt x hx; omega), M1.out.fld, (OnlyL.of_only TL.out.only).trans M1.out.only⟩
     by_cases e : M.isL q l i = true
     ·obtain ⟨x, hx, ex⟩ := M.isL_of e
      rw [← ex, M1.out.lost x hx, if_neg (by omega)]
      obtain ⟨U, hU⟩ := M.undo_all hq l j HI.out.linc (fun x hx => by have := HI.out.llt x hx; omega) HI.out.jinc HI.out.jlt
      have hm := M.mend_eq (M.fac_lt l j) hU (fun r hr => (S1.out r hr).2) (fun r hr => (S1.out r hr).1) (d := fun x => D (l x) v) (fun x hx => HI.out.dlt _ (HI.out.llt x hx) v hv) x hx
      refine Eq.trans (M.xsum_congr fun r hr => ?_) hm
      show M.gmul (C r x) (T r v) = _
      rw [E1.out r hr v hv, M.left_eq HI.out.linc HI.out.llt hr (fun i hi hne => HI.out.good i hi hne v hv) (fun x hx => HI.out.lost x hx v hv) (HI.out.pars r hr v hv)]
     ·have e2 : M.isL q l i = false := by simpa using e
      rw [M1.out.other i (by omega) (M.isL_not e2)]
      exact HI.out.good i hi (M.isL_not e2) v hv
end Go.Proofs.YtkbndlnmbbbohaaGreatDoor
namespace Go.Proofs.YtkbndlnmbbbohaaGreatDoor
open Go Go.RowKit
set_option maxRecDepth 100000
set_option linter.unusedVariables false
theorem slice_fromZ (A : Option Addr) (n c lo : Nat) (L : Int) (hL : L = (lo : Int)) (h : lo ≤ n) (w : World) :
  (Instr.sliceAt 22 (.slice A n c) (some (.int .i64 L)) none none).run Tryz.prog w = .ok (.slice (subA A c lo) (n - lo) (c - lo)) w := by
 subst hL
 have hu : Tryz.prog.underlying 22 = some (.slice (Tryz.prog.elem 22)) := by kernel_rfl
 have he : Tryz.prog.elem 22 = 3 := by kernel_rfl
 rw [run_sliceAt_slice (P := Tryz.prog) (w := w) (h := hu), run_slice_l (P := Tryz.prog) (w := w) 22 A n c hu .i64 (lo : Int) (by omega) (by omega), he, sizeOf_int]
 simp [sliced, subA]
theorem RdZ.sub {w : World} {B n c lo : Nat} {A : Option Addr} {x : Nat → Int} (h : RdZ w B A n x) (hc : n ≤ c) : RdZ w B (subA A c lo) (n - lo) (fun j => x (lo + j)) := fun j hj => by
 obtain ⟨b, o, rfl, h2, h3⟩ := h (lo + j) (by omega)
 refine ⟨b, o + lo, ?_, h2, by rw [Nat.add_assoc]; exact h3⟩
 unfold subA
 rw [if_neg (by omega)]
 simp [add_plain]
theorem RdZ.take {w : World} {B n c m : Nat} {A : Option Addr} {x : Nat → Int} (h : RdZ w B A n x) (hm : m ≤ n) : RdZ w B (subA A c 0) m x := fun j hj => by
 obtain ⟨b, o, rfl, h2, h3⟩ := h j (by omega)
 refine ⟨b, o, ?_, h2, h3⟩
 unfold subA
 by_cases e : c = 0
 ·rw [if_pos e]
 ·rw [if_neg e]
  simp [add_plain]
theorem own_ints {w : World} {B n : Nat} {v : Value} {l : List Nat} (h : w.ownsRow B 3 1 v n (natL l)) (hn : 0 < n) : ∃ g c, v = .slice (some ⟨g, 0, none⟩) n c ∧ B ≤ g ∧ n ≤ c ∧ ∀ i, i < n → w.cell? ⟨g, i, none⟩ = some (.int .i64 ((l.getD i 0 : Nat) : Int)) := by
 rcases h.2 with ⟨_, e⟩ | ⟨g, cap, cur, e, h1, hb, h2, h3, hs, ht⟩
 ·have h0 := h.1
  rw [e] at h0
  simp at h0
  omega
 ·refine ⟨g, cap, e, h1, h2, fun i hi => ?_⟩
  rw [cell_of_row _ _ _ _ _ _ hb]
  have hl : (natL l).length = n := by have := h.1; simpa using this
  have hl2 : i < l.length := by simp [natL] at hl; omega
  have e1 : (natL l)[i]? = some (.int .i64 ((l.getD i 0 : Nat) : Int)) := by simp [natL, hl2, List.getD_eq_getElem?_getD]
  rw [← ht, List.getElem?_take_of_lt (by omega), Array.getElem?_toList] at e1
  exact e1
theorem Rise.tail {m q : Nat} {b : Nat → Int} {n : Int} (h : Rise m b n) (hq : q ≤ m) : Rise (m - q) (fun i => b (q + i)) n := fun i hi => by
 refine ⟨?_, (h (q + i) (by omega)).2⟩
 unfold prv
 by_cases e : i = 0
 ·rw [if_pos e, e]
  have := h.ge q (by omega)
  show (-1 : Int) < b (q + 0)
  rw [Nat.add_zero]
  omega
 ·rw [if_neg e]
  show b (q + (i - 1)) < b (q + i)
  exact h.lt (by omega) (by omega)
theorem isB_of {m i : Nat} {b : Nat → Int} (h : isB m b i = true) : ∃ j, j < m ∧ b j = (i : Int) := by
 unfold isB at h
 rw [List.any_eq_true] at h
 obtain ⟨x, hx, e⟩ := h
 exact ⟨x, by simpa using hx, by simpa using e⟩
theorem snd_facts {m k q : Nat} {b : Nat → Int} {n : Int} (hr : Rise m b n) (hq : q + m ≤ 3) :
  q ≤ (sndL m b k 3).length ∧ (∀ x, x < q → (sndL m b k 3).getD x 0 < 3 ∧ isB m b (k + (sndL m b k 3).getD x 0) = false) ∧ ∀ x y, x < y → y < q → (sndL m b k 3).getD x 0 < (sndL m b k 3).getD y 0 := by
 have hlt : ∀ i j, isB m b (k + i) = true → isB m b (k + j) = true → i < j → ∃ a c, a < c ∧ c < m ∧ b a = ((k + i : Nat) : Int) ∧ b c = ((k + j : Nat) : Int) := fun i j hi hj hij => by
  obtain ⟨a, ha, ea⟩ := isB_of hi
  obtain ⟨c, hc, ec⟩ := isB_of hj
  refine ⟨a, c, ?_, hc, ea, ec⟩
  by_cases e : a < c
  ·exact e
  ·by_cases e2 : a = c
   ·subst e2; omega
   ·have := hr.lt (show c < a by omega) ha
    omega
 have hl : sndL m b k 3 = (if isB m b (k + 0) then [] else [0]) ++ ((if isB m b (k + 1) then [] else [1]) ++ (if isB m b (k + 2) then [] else [2])) := by
  show (List.range 3).filter _ = _
  rw [show List.range 3 = [0, 1, 2] by rfl]
  simp only [List.filter_cons, List.filter_nil]
  cases isB m b (k + 0) <;> cases isB m b (k + 1) <;> cases isB m b (k + 2) <;> rfl
 rw [hl]
 cases h0 : isB m b (k + 0) <;> cases h1 : isB m b (k + 1) <;> cases h2 : isB m b (k + 2)
 all_goals simp only [if_true, if_false, Bool.false_eq_true, List.nil_append, List.cons_append, List.append_nil, List.length_cons, List.length_nil]
 ·refine ⟨by omega, fun x hx => ?_, fun x y hxy hy => ?_⟩
  ·match x, (show x < 3 by omega) with
   | 0, _ => exact ⟨by decide, h0⟩
   | 1, _ => exact ⟨by decide, h1⟩
   | 2, _ => exact ⟨by decide, h2⟩
  ·match x, y, (show x < 3 by omega), (show y < 3 by omega) with
   | 0, 1, _, _ => decide
   | 0, 2, _, _ => decide
   | 1, 2, _, _ => decide
   | 0, 0, _, _ => omega
   | 1, 0, _, _ => omega
   | 1, 1, _, _ => omega
   | 2, 0, _, _ => omega
   | 2, 1, _, _ => omega
   | 2, 2, _, _ => omega
 ·have hm : 1 ≤ m := by obtain ⟨x, hx, _⟩ := isB_of h2; omega
  refine ⟨by omega, fun x hx => ?_, fun x y hxy hy => ?_⟩
  ·match x, (show x < 2 by omega) with
   | 0, _ => exact ⟨by decide, h0⟩
   | 1, _ => exact ⟨by decide, h1⟩
  ·match x, y, (show x < 2 by omega), (show y < 2 by omega) with
   | 0, 1, _, _ => decide
   | 0, 0, _, _ => omega
   | 1, 0, _, _ => omega
   | 1, 1, _, _ => omega
 ·have hm : 1 ≤ m := by obtain ⟨x, hx, _⟩ := isB_of h1; omega
  refine ⟨by omega, fun x hx => ?_, fun x y hxy hy => ?_⟩
  ·match x, (show x < 2 by omega) with
   | 0, _ => exact ⟨by decide, h0⟩
   | 1, _ => exact ⟨by decide, h2⟩
  ·match x, y, (show x < 2 by omega), (show y < 2 by omega) with
   | 0, 1, _, _ => decide
   | 0, 0, _, _ => omega
   | 1, 0, _, _ => omega
   | 1, 1, _, _ => omega
 ·obtain ⟨x1, x2, q1, q2, _⟩ := hlt 1 2 h1 h2 (by omega)
  have hm : 2 ≤ m := by omega
  refine ⟨by omega, fun x hx => ?_, fun x y hxy hy => absurd hy (by omega)⟩
  match x, (show x < 1 by omega) with
  | 0, _ => exact ⟨by decide, h0⟩
 ·have hm : 1 ≤ m := by obtain ⟨x, hx, _⟩ := isB_of h0; omega
  refine ⟨by omega, fun x hx => ?_, fun x y hxy hy => ?_⟩
  ·match x, (show x < 2 by omega) with
   | 0, _ => exact ⟨by decide, h1⟩
   | 1, _ => exact ⟨by decide, h2⟩
  ·match x, y, (show x < 2 by omega), (show y < 2 by omega) with
   | 0, 1, _, _ => decide
   | 0, 0, _, _ => omega
   | 1, 0, _, _ => omega
   | 1, 1, _, _ => omega
 ·obtain ⟨x1, x2, q1, q2, _⟩ := hlt 0 2 h0 h2 (by omega)
  have hm : 2 ≤ m := by omega
  refine ⟨by omega, fun x hx => ?_, fun x y hxy hy => absurd hy (by omega)⟩
  match x, (show x < 1 by omega) with
  | 0, _ => exact ⟨by decide, h1⟩
 ·obtain ⟨x1, x2, q1, q2, _⟩ := hlt 0 1 h0 h1 (by omega)
  have hm : 2 ≤ m := by omega
  refine ⟨by omega, fun x hx => ?_, fun x y hxy hy => absurd hy (by omega)⟩
  match x, (show x < 1 by omega) with
  | 0, _ => exact ⟨by decide, h2⟩
 ·obtain ⟨a, c, q1, q2, q3, q4⟩ := hlt 0 1 h0 h1 (by omega)
  obtain ⟨a', c', q1', q2', q3', q4'⟩ := hlt 1 2 h1 h2 (by omega)
  have hm : 3 ≤ m := by
   by_cases e : c < c'
   ·omega
   ·by_cases e2 : c = c'
    ·subst e2; omega
    ·have := hr.lt (show c' < c by omega) q2; omega
  exact ⟨by omega, fun x hx => absurd hx (by omega), fun x y _ hy => absurd hy (by omega)⟩
end Go.Proofs.YtkbndlnmbbbohaaGreatDoor
namespace Go.Proofs.YtkbndlnmbbbohaaGreatDoor
open Go Go.RowKit
set_option maxRecDepth 100000
set_option linter.unusedVariables false
theorem sub_some {A : Option Addr} {c bb o : Nat} (e : subA A c 0 = some ⟨bb, o, none⟩) : ∃ o', A = some ⟨bb, o', none⟩ := by
 unfold subA at e
 by_cases h : c = 0
 ·rw [if_pos h] at e
  exact ⟨o, e⟩
 ·rw [if_neg h] at e
  cases A with
  | none => cases e
  | some a =>
   obtain ⟨x, y, z⟩ := a
   cases z with
   | none => simp [add_plain] at e; exact ⟨y, by rw [e.1]⟩
   | some s => simp [Addr.add] at e
theorem own_ints2 {w : World} {B n : Nat} {v : Value} {l : List Nat} (h : w.ownsRow B 3 1 v n (natL l)) : ∃ A c, v = .slice A n c ∧ n ≤ c ∧ RdZ w w.heap.size A n (fun i => ((l.getD i 0 : Nat) : Int)) ∧ ∀ bb, (∃ o, A = some ⟨bb, o, none⟩) → B ≤ bb := by
 by_cases hn : n = 0
 ·subst hn
  rcases h.2 with ⟨e, _⟩ | ⟨g, cap, cur, e, h1, hb, h2, h3, hs, ht⟩
  ·exact ⟨none, 0, e, Nat.le_refl _, fun i hi => absurd hi (by omega), fun bb q => by obtain ⟨o, q⟩ := q; cases q⟩
  ·exact ⟨_, cap, e, h2, fun i hi => absurd hi (by omega), fun bb q => by obtain ⟨o, q⟩ := q; injection q with q; injection q with q1 q2; omega⟩
 ·obtain ⟨g, c, e, h1, h2, h3⟩ := own_ints h (by omega)
  refine ⟨_, c, e, h2, fun i hi => ⟨g, 0, rfl, ?_, by rw [Nat.zero_add]; exact h3 i hi⟩, fun bb q => by obtain ⟨o, q⟩ := q; injection q with q; injection q with q1 q2; omega⟩
  exact block_lt_of_cell (a := ⟨g, i, none⟩) (h3 i hi)
set_option maxHeartbeats 800000 in
theorem mendData_zero (b m cd c c1 : Nat) (A A1 A2 : Option Addr) (w : World) (hk : m + 3 ≤ 16) :
  Calls Tryz.prog 182 #[.pointer (some ⟨b, 0, none⟩), .slice A (m + 3) cd, .slice A1 0 c1, .slice A2 0 c] w fun e w' => e = .returned (.tuple #[]) ∧ Below w.heap.size w w' := by
 have hmk : ∀ W : World, (Instr.makeSlice 139 (.int .i64 0) (.int .i64 0)).run Tryz.prog W = .ok (.slice (some ⟨W.heap.size, 0, none⟩) 0 0) (W.alloc (.cells #[] 41)) := fun _ => by kernel_rfl
 go_enter Tryz.func182, Tryz.ntmps182
 go_wp2_with fail
 go_loop [23] (fun x => x = .int .i64 ((0 : Nat) : Int)) (fun _ => 0)
 case atStart => rfl
 case round =>
  obtain rfl := hrel
  go_wp2_with fail
  go_loop [51] (fun x => x = .int .i64 ((0 : Nat) : Int)) (fun _ => 0)
  case atStart => rfl
  case round =>
   obtain rfl := hrel
   go_wp2_with fail
   go_end0
   exact ⟨rfl, (Below.refl _ _).alloc (Nat.le_refl _) _⟩
theorem mendData_all (b k q n h0 c base c1 c2 : Nat) (A1 A2 : Option Addr) (H : Nat → Hd) (R l j : Nat → Nat) (X D : Nat → Nat → Nat) (w : World) (hI : MendIn w base h0 c k q n b H R l j X D) (hn1 : 1 ≤ n) (hn : n ≤ 4096) (hk0 : 0 < k) (hk : k ≤ 13) (hq : q ≤ 3)
  (h1 : RdZ w w.heap.size A1 q (fun i => ((l i : Nat) : Int))) (h2 : RdZ w w.heap.size A2 q (fun i => ((j i : Nat) : Int))) (hb1 : ∀ bb o, A1 = some ⟨bb, o, none⟩ → bb ≠ b ∧ ∀ i, i < k + 3 → bb ≠ R i) (hb2 : ∀ bb o, A2 = some ⟨bb, o, none⟩ → bb ≠ b ∧ ∀ i, i < k + 3 → bb ≠ R i) (hf : Fld w b) :
  Calls Tryz.prog 182 #[.pointer (some ⟨b, 0, none⟩), .slice (some ⟨h0, 0, none⟩) (k + 3) c, .slice A1 q c1, .slice A2 q c2] w fun e w' => e = .returned (.tuple #[]) ∧ ∃ XX, Cols w' base (.slice (some ⟨h0, 0, none⟩) (k + 3) c) (k + 3) n H R XX ∧ (∀ i, i < k → ∀ v, v < n → XX i v = D i v) ∧ (∀ i, k ≤ i → i < k + 3 → XX i = X i) ∧ Fld w' b ∧ OnlyL b (k + 3) R w w' := by
 by_cases hq0 : q = 0
 ·subst hq0
  refine (mendData_zero b k c c2 c1 _ A1 A2 w (by omega)).mono fun e w' h => ⟨h.1, X, hI.cols.below h.2 (Nat.le_refl _), fun i hi v hv => hI.good i hi (fun x hx => absurd hx (by omega)) v hv, fun _ _ _ => rfl, ?_, OnlyL.of_only (Only.of_below h.2 b)⟩
  exact fld_heap hf (h.2.block b hf.lt)
 ·exact mendData_any b k q n h0 c base c1 c2 A1 A2 H R l j X D w hI hn1 hn hk0 hk (by omega) hq h1 h2 hb1 hb2 hf
theorem sub_int (k a : Nat) (h : k + a ≤ 100000) (w : World) : (binOp .sub 3 (.int .i64 ((k + a : Nat) : Int)) (.int .i64 (k : Int))).run Tryz.prog w = .ok (.int .i64 (a : Int)) w := by
 have e : IntKind.i64.wrap (((k + a : Nat) : Int) - (k : Int)) = (a : Int) := by rw [IntKind.wrap_i64]; omega
 have h : (binOp .sub 3 (.int .i64 ((k + a : Nat) : Int)) (.int .i64 (k : Int))).run Tryz.prog w = .ok (.int .i64 (IntKind.i64.wrap (((k + a : Nat) : Int) - (k : Int)))) w := by kernel_rfl
 rw [h, e]
def Due (m k : Nat) (bz : Nat → Int) (j : Nat) : Prop := isB m bz (k + j) = true ∨ ∃ q x, q ≤ m ∧ (∀ i, i < q → bz i < (k : Int)) ∧ (∀ i, q ≤ i → i < m → (k : Int) ≤ bz i) ∧ x < q ∧ j = (sndL (m - q) (fun i => bz (q + i)) k 3).getD x 0
structure ParsAt (w3 w : World) (base h0 c k n b m q i : Nat) (H : Nat → Hd) (R : Nat → Nat) (bz : Nat → Int) (D X : Nat → Nat → Nat) : Prop where
 cols : Cols w base (.slice (some ⟨h0, 0, none⟩) (k + 3) c) (k + 3) n H R X
 data : ∀ a, a < k → ∀ v, v < n → X a v = D a v
 pars : ∀ a, a < 3 → (isB m bz (k + a) = false ∨ ∃ x, x < i ∧ bz (q + x) = ((k + a : Nat) : Int)) → ∀ v, v < n → X (k + a) v = D (k + a) v
 rest : ∀ x, i ≤ x → q + x < m → ∀ v, v < n → X (bz (q + x)).toNat v = 0
 fld : Fld w b
 only : OnlyL b (k + 3) R w3 w
section
variable {w3 w w' : World} {base h0 c k n b m q i : Nat} {H : Nat → Hd} {R : Nat → Nat} {bz : Nat → Int} {D X : Nat → Nat → Nat} {N : Int}
theorem ParsAt.drew (h : ParsAt w3 w base h0 c k n b m q i H R bz D X) : ParsAt w3 w.drew base h0 c k n b m q i H R bz D X := ⟨h.cols.drew, h.data, h.pars, h.rest, h.fld, h.only.drew⟩
theorem ParsAt.step {a : Nat} (h : ParsAt w3 w base h0 c k n b m q i H R bz D X) (ha : a < 3) (hb : q + i < m ∧ bz (q + i) = ((k + a : Nat) : Int)) (hr : Rise m bz N) (hp : ∀ j, j < 3 → Due m k bz j → ∀ v, v < n → D (k + j) v = M.par k j D v) (hf : Fld w' b) (hg : RowG w' (R (k + a)) n (fun v => 0 ^^^ M.par k a X v)) (ho : Only2 b (R (k + a)) w w') :
  ParsAt w3 w' base h0 c k n b m q (i + 1) H R bz D (fun j => if j = k + a then (fun v => 0 ^^^ M.par k a X v) else X j) := by
 have hd : ∀ v, v < n → 0 ^^^ M.par k a X v = D (k + a) v := fun v hv => by
  rw [Nat.zero_xor, hp a ha (.inl (isB_true (j := q + i) hb.1 hb.2)) v hv]
  unfold M.par
  exact M.xsum_congr fun j hj => by rw [h.data j hj v hv]
 refine ⟨h.cols.turn h.fld (by omega) hg ho, fun j hj v hv => ?_, fun j hj hc v hv => ?_, fun x h1 h2 v hv => ?_, hf, h.only.trans (OnlyL.of_only2 ho (by omega))⟩
 ·show (if j = k + a then _ else X j) v = _
  rw [if_neg (by omega)]
  exact h.data j hj v hv
 ·show (if k + j = k + a then _ else X (k + j)) v = _
  by_cases e : j = a
  ·subst e
   rw [if_pos rfl]
   exact hd v hv
  ·rw [if_neg (by omega)]
   refine h.pars j hj ?_ v hv
   rcases hc with hc | ⟨x, hx, hc⟩
   ·exact .inl hc
   ·refine .inr ⟨x, ?_, hc⟩
    by_cases e2 : x = i
    ·subst e2
     have := hb.2
     omega
    ·omega
 ·have h3 := hr.lt (show q + i < q + x by omega) h2
  show (if (bz (q + x)).toNat = k + a then _ else X (bz (q + x)).toNat) v = 0
  rw [if_neg (by have := hb.2; omega)]
  exact h.rest x (by omega) h2 v hv
end
set_option maxHeartbeats 6400000 in
theorem mend_any (b k m n h0 c base c2 : Nat) (A : Option Addr) (H : Nat → Hd) (R : Nat → Nat) (bz : Nat → Int) (X D : Nat → Nat → Nat) (w : World) (hC : Cols w base (.slice (some ⟨h0, 0, none⟩) (k + 3) c) (k + 3) n H R X) (hcap : k + 3 ≤ c ∧ c ≤ maxLen) (hX : ∀ i, i < k + 3 → ∀ v, v < n → X i v < 256) (hD : ∀ i, i < k + 3 → ∀ v, v < n → D i v < 256)
  (hpar : ∀ j, j < 3 → Due m k bz j → ∀ v, v < n → D (k + j) v = M.par k j D v) (hgood : ∀ i, i < k + 3 → isB m bz i = false → ∀ v, v < n → X i v = D i v) (hbad : ∀ i, i < k + 3 → isB m bz i = true → ∀ v, v < n → X i v = 0) (hn1 : 1 ≤ n) (hn : n ≤ 4096) (hk0 : 0 < k) (hk : k ≤ 13)
  (hz : RdZ w w.heap.size A m bz) (hmc : m ≤ c2) (hcm : c2 ≤ maxLen) (hri : Rise m bz ((k + 3 : Nat) : Int)) (hm0 : 0 < m) (hm3 : m ≤ 3) (hbA : ∀ bb, (∃ o, A = some ⟨bb, o, none⟩) → bb ≠ b ∧ ∀ i, i < k + 3 → bb ≠ R i) (hf : Fld w b) :
  Calls Tryz.prog 170 #[.pointer (some ⟨b, 0, none⟩), .slice (some ⟨h0, 0, none⟩) (k + 3) c, .slice A m c2] w fun e w' => e = .returned (.tuple #[]) ∧ ∃ XX, Cols w' base (.slice (some ⟨h0, 0, none⟩) (k + 3) c) (k + 3) n H R XX ∧ (∀ i, i < k + 3 → ∀ v, v < n → XX i v = D i v) ∧ Fld w' b ∧ OnlyL b (k + 3) R w w' := by
 obtain ⟨bA, oA, rfl, _⟩ := hz 0 hm0
 obtain ⟨q, hqm, hqlo, hqhi⟩ : ∃ q, q ≤ m ∧ (∀ i, i < q → bz i < (k : Int)) ∧ ∀ i, q ≤ i → i < m → (k : Int) ≤ bz i := by
  by_cases h : ∀ i, i < m → bz i < (k : Int)
  ·exact ⟨m, Nat.le_refl _, h, fun i h1 h2 => by omega⟩
  ·obtain ⟨q, h1, h2, h3⟩ := least_p h
   refine ⟨q, by omega, h3, fun i h4 h5 => ?_⟩
   by_cases e : q = i
   ·subst e; omega
   ·have := hri.lt (show q < i by omega) h5; omega
 have HRT := Lib.hid (hri.tail hqm)
 have HSF := Lib.hid (snd_facts (k := k) (q := q) HRT.out (by omega))
 have HZT : Hid (RdZ w.drew w.drew.heap.size (subA (some ⟨bA, oA, none⟩) c2 q) (m - q) (fun i => bz (q + i))) := hz.sub hmc
 have HLO : Hid (∀ i, i < m - q → (k : Int) ≤ bz (q + i)) := fun i hi => hqhi _ (by omega) (by omega)
 have HCM : Hid (c2 - q ≤ maxLen) := Nat.le_trans (Nat.sub_le _ _) hcm
 have hnb : ∀ i, isB m bz i = false ↔ ∀ j, j < m → bz j ≠ (i : Int) := fun i => ⟨fun h j hj e => (by rw [isB_true hj e] at h; cases h), isB_false⟩
 have HMK : Hid (∀ W, Below w.drew.heap.size w.drew W → MendIn W base h0 c k q n b H R (fun x => (bz x).toNat) (fun x => (sndL (m - q) (fun i => bz (q + i)) k 3).getD x 0) X D ∧ RdZ W W.heap.size (subA (some ⟨bA, oA, none⟩) c2 0) q (fun i => (((bz i).toNat : Nat) : Int)) ∧ (Fld W b ∧ ∀ bb, w.drew.heap.size ≤ bb → bb ≠ b ∧ ∀ i, i < k + 3 → bb ≠ R i) ∧ ∀ bb, (∃ o, some (⟨bA, oA, none⟩ : Addr) = some ⟨bb, o, none⟩) → bb ≠ b ∧ ∀ i, i < k + 3 → bb ≠ R i) := fun W hW => by
  have hs := hW.size
  refine ⟨⟨(hC.drew).below hW (Nat.le_refl _), hcap, hX, fun i hi => hD i (by omega), fun i hi hne v hv => hgood i (by omega) ((hnb i).2 fun j hj e => ?_) v hv, fun x hx v hv => ?_, fun x hx v hv => ?_, fun x y h1 h2 => ?_, fun x hx => ?_, HSF.out.2.2, fun x hx => (HSF.out.2.1 x hx).1⟩, ?_, ⟨fld_heap hf (hW.block b hf.lt), fun bb h => ⟨fun e => by have := hf.lt; have : w.heap.size ≤ bb := h; omega, fun i hi e => by have := (hC.row i hi).2.lt; have : w.heap.size ≤ bb := h; omega⟩⟩, hbA⟩
  ·by_cases e2 : j < q
   ·exact hne j e2 (by show (bz j).toNat = i; omega)
   ·have := hqhi j (by omega) hj; omega
  ·have h0 := hri.ge x (by omega)
   have h1 := hqlo x hx
   exact hbad (bz x).toNat (by omega) (isB_true (j := x) (by omega) (by omega)) v hv
  ·obtain ⟨h1, h2⟩ := HSF.out.2.1 x hx
   rw [hgood _ (by omega) ((hnb _).2 fun j hj e => ?_) v hv]
   ·exact hpar _ h1 (.inr ⟨q, x, hqm, hqlo, hqhi, hx, rfl⟩) v hv
   ·by_cases e2 : j < q
    ·have := hqlo j e2; omega
    ·have h3 := isB_true (m := m - q) (b := fun i => bz (q + i)) (i := k + (sndL (m - q) (fun i => bz (q + i)) k 3).getD x 0) (j := j - q) (by omega) (by show bz (q + (j - q)) = _; rw [show q + (j - q) = j by omega]; exact e)
     rw [h3] at h2
     cases h2
  ·have h3 := hri.lt h1 (by omega : y < m)
   have h4 := hri.ge x (by omega)
   show (bz x).toNat < (bz y).toNat
   omega
  ·have h1 := hqlo x hx
   show (bz x).toNat < k
   omega
  ·intro i hi
   obtain ⟨b', o, e1, e2, e3⟩ := ((hz.below (show Below w.drew.heap.size w W from ⟨hW.os, hW.tape, hW.output, hW.size, hW.block⟩) (Nat.le_refl _)).take (c := c2) (m := q) hqm) i hi
   refine ⟨b', o, e1, by have : b' < w.heap.size := e2; have : w.heap.size ≤ W.heap.size := hs; omega, ?_⟩
   have h0 := hri.ge i (by omega)
   rw [e3]
   show some (Value.int .i64 (bz i)) = some (Value.int .i64 (((bz i).toNat : Nat) : Int))
   rw [Int.toNat_of_nonneg (by omega)]
 have e1 : IntKind.i64.wrap (((k + 3 : Nat) : Int) - 3) = (k : Int) := by rw [IntKind.wrap_i64]; omega
 have HT : Hid True := trivial
 have HQ := Lib.hid (And.intro hqlo hqhi)
 have HZZ := Lib.hid hz
 have HRI := Lib.hid hri
 have HG := Lib.hid (And.intro hgood hbad)
 have HDD := Lib.hid (And.intro hD hpar)
 have HXX := Lib.hid hX
 have HCC := Lib.hid hC
 have HBA := Lib.hid hbA
 have HFF := Lib.hid hf
 have HNB := Lib.hid hnb
 obtain ⟨hcap1, hcap2⟩ := hcap
 unfold maxLen at hcm hcap2
 clear hC hX hD hpar hgood hbad hz hri hbA hf hqlo hqhi hnb
 go_enter Tryz.func170, Tryz.ntmps170
 go_wp2_with fail
 clear e1
 go_loop [7] (fun x => ∃ i : Nat, i ≤ q ∧ x = .int .i64 i) (fun x => q - (intOf x).toNat)
 case atStart => exact ⟨0, by omega, rfl⟩
 case round =>
  obtain ⟨i, hi, rfl⟩ := hrel
  by_cases hlt : i < q
  ·obtain ⟨bb, ob, qe, _, hcb⟩ := HZZ.out i (by omega)
   injection qe with qe
   injection qe with q1 q2
   subst q1; subst q2
   have i1 : (i : Int) < (m : Int) := by omega
   have t1 : (bz i < (k : Int)) = True := by simp; exact HQ.out.1 i hlt
   generalize bz i = z at *
   go_wp2_with fail
   go_round
   case rel => exact ⟨i + 1, by omega, by go_num⟩
   case measure => simp [intOf]; omega
  ·obtain rfl : q = i := by omega
   by_cases hqm2 : q < m
   ·obtain ⟨bb, ob, qe, _, hcb⟩ := HZZ.out q hqm2
    injection qe with qe
    injection qe with q1 q2
    subst q1; subst q2
    have i1 : (q : Int) < (m : Int) := by omega
    have t1 : (bz q < (k : Int)) = False := by simp; exact HQ.out.2 q (Nat.le_refl _) hqm2
    go_wp2_with fail
    clear hcb t1
    have hbl := HFF.out.lt
    unfold maxLen at *
    refine region_anyZ (fun _ : World => True) 13 (by kernel_rfl) ?_
    refine takeG 0 (.move (.tmp 0)) (some 27) none (.pointer (some ⟨b, 0, none⟩)) (by kernel_rfl) (by kernel_rfl) (by kernel_rfl) (fun _ _ _ h => h) (fun o w e hS => exec_move w e (by kernel_rfl)) HT.out ?_
    refine takeG 1 (.move (.tmp 1)) (some 28) none (.slice (some ⟨h0, 0, none⟩) (k + 3) c) (by kernel_rfl) (by kernel_rfl) (by kernel_rfl) (fun _ _ _ h => h) (fun o w e hS => exec_move w e (by kernel_rfl)) HT.out ?_
    refine takeG 2 (.move (.tmp 2)) (some 29) none (.slice (some ⟨bA, oA, none⟩) m c2) (by kernel_rfl) (by kernel_rfl) (by kernel_rfl) (fun _ _ _ h => h) (fun o w e hS => exec_move w e (by kernel_rfl)) HT.out ?_
    refine takeG 3 (.move (.tmp 7)) (some 30) none (.int .i64 (q : Int)) (by kernel_rfl) (by kernel_rfl) (by kernel_rfl) (fun _ _ _ h => h) (fun o w e hS => exec_move w e (by kernel_rfl)) HT.out ?_
    refine takeG 4 (.slice 22 (.tmp 29) .none (.some (.tmp 30)) .none) (some 31) none (.slice (subA (some ⟨bA, oA, none⟩) c2 0) q c2) (by kernel_rfl) (by kernel_rfl) (by kernel_rfl) (fun _ _ _ h => h) (fun o w e hS => exec_slice (u := .slice (some ⟨bA, oA, none⟩) m c2) w e (by kernel_rfl) (by kernel_rfl) (by kernel_rfl) (by kernel_rfl) (slice_toZ (some ⟨bA, oA, none⟩) m c2 q _ rfl (by omega) _)) HT.out ?_
    refine takeG 5 (.move (.tmp 2)) (some 32) none (.slice (some ⟨bA, oA, none⟩) m c2) (by kernel_rfl) (by kernel_rfl) (by kernel_rfl) (fun _ _ _ h => h) (fun o w e hS => exec_move w e (by kernel_rfl)) HT.out ?_
    refine takeG 6 (.move (.tmp 7)) (some 33) none (.int .i64 (q : Int)) (by kernel_rfl) (by kernel_rfl) (by kernel_rfl) (fun _ _ _ h => h) (fun o w e hS => exec_move w e (by kernel_rfl)) HT.out ?_
    refine takeG 7 (.slice 22 (.tmp 32) (.some (.tmp 33)) .none .none) (some 34) none (.slice (subA (some ⟨bA, oA, none⟩) c2 q) (m - q) (c2 - q)) (by kernel_rfl) (by kernel_rfl) (by kernel_rfl) (fun _ _ _ h => h) (fun o w e hS => exec_slice (u := .slice (some ⟨bA, oA, none⟩) m c2) w e (by kernel_rfl) (by kernel_rfl) (by kernel_rfl) (by kernel_rfl) (slice_fromZ (some ⟨bA, oA, none⟩) m c2 q _ rfl (by omega) _)) HT.out ?_
    refine takeG 8 (.move (.tmp 6)) (some 35) none (.int .i64 (k : Int)) (by kernel_rfl) (by kernel_rfl) (by kernel_rfl) (fun _ _ _ h => h) (fun o w e hS => exec_move w e (by kernel_rfl)) HT.out ?_
    refine takeG 10 (.move (.tmp 7)) (some 37) none (.int .i64 (q : Int)) (by kernel_rfl) (by kernel_rfl) (by kernel_rfl) (fun _ _ _ h => h) (fun o w e hS => exec_move w e (by kernel_rfl)) HT.out ?_
    refine loneG 9 (.call ⟨.value (.func 183), #[(.tmp 34), (.tmp 35)], #[22, 3]⟩) (some 36) none (by kernel_rfl) (by kernel_rfl) (by kernel_rfl) ?_
    intro o ho hod
    refine wp_callC (f := 183) (args := #[.slice (subA (some ⟨bA, oA, none⟩) c2 q) (m - q) (c2 - q), .int .i64 (k : Int)]) (by cases o; cases ho; kernel_rfl) (sound_any k (m - q) (c2 - q) w.heap.size (subA (some ⟨bA, oA, none⟩) c2 q) (fun i => bz (q + i)) ((k + 3 : Nat) : Int) w.drew HZT.out (Nat.le_refl _) (by omega) HCM.out HRT.out HLO.out (by omega) (by omega)) ?_
    rintro e w2 ⟨vs, rfl, hs2, hb2⟩
    obtain ⟨As, cs, hvs, hcs, hrd, hgs⟩ := own_ints2 hs2
    subst hvs
    refine ⟨.slice As (sndL (m - q) (fun i => bz (q + i)) k 3).length cs, rfl, ?_⟩
    rw [hod]
    clear hod ho
    have HIN := Lib.hid (HMK.out w2 hb2)
    have HRF := Lib.hid hrd
    have HGS := Lib.hid hgs
    have L2 := Lib.hid hb2
    clear hb2 hs2 hrd hgs
    refine ⟨fun _ => trivial, ?_⟩
    refine takeG 11 (.slice 22 (.tmp 36) .none (.some (.tmp 37)) .none) (some 38) none (.slice (subA As cs 0) q cs) (by kernel_rfl) (by kernel_rfl) (by kernel_rfl) (fun _ _ _ h => h) (fun o w e hS => exec_slice (u := .slice As (sndL (m - q) (fun i => bz (q + i)) k 3).length cs) w e (by kernel_rfl) (by kernel_rfl) (by kernel_rfl) (by kernel_rfl) (slice_toZ As _ cs q _ rfl (by have := HSF.out.1; omega) _)) HT.out ?_
    refine loneG 12 (.call ⟨.value (.func 182), #[(.tmp 27), (.tmp 28), (.tmp 31), (.tmp 38)], #[228, 139, 22, 22]⟩) (some 39) none (by kernel_rfl) (by kernel_rfl) (by kernel_rfl) ?_
    intro o ho hod
    refine wp_callC (f := 182) (args := #[.pointer (some ⟨b, 0, none⟩), .slice (some ⟨h0, 0, none⟩) (k + 3) c, .slice (subA (some ⟨bA, oA, none⟩) c2 0) q c2, .slice (subA As cs 0) q cs]) (by cases o; cases ho; kernel_rfl) (mendData_all b k q n h0 c base c2 cs (subA (some ⟨bA, oA, none⟩) c2 0) (subA As cs 0) H R (fun x => (bz x).toNat) (fun x => (sndL (m - q) (fun i => bz (q + i)) k 3).getD x 0) X D w2 HIN.out.1 hn1 hn hk0 hk (by omega) HIN.out.2.1 (HRF.out.take HSF.out.1) (fun bb o e => HIN.out.2.2.2 bb (sub_some e)) (fun bb o e => HIN.out.2.2.1.2 bb (HGS.out bb (sub_some e))) HIN.out.2.2.1.1) ?_
    rintro e W3 ⟨rfl, XX1, hC3, hD3, hP3, hf3, ho3⟩
    refine ⟨.tuple #[], rfl, ?_⟩
    rw [hod]
    clear hod ho
    refine ⟨fun _ => trivial, ?_⟩
    refine AnyZ.done (by kernel_rfl) ?_
    simp only [put_some, put_none, List.setIfInBounds_toArray, List.set_cons_succ, List.set_cons_zero]
    have C3 := Lib.hid hC3
    have F3 := Lib.hid hf3
    have O3 : Hid (OnlyL b (k + 3) R w W3) := Lib.hid (((OnlyL.refl b (k + 3) R w).drew).trans ((OnlyL.of_only (Only.of_below L2.out b)).trans ho3))
    have P3 := Lib.hid (And.intro hD3 hP3)
    clear hC3 hD3 hP3 hf3 ho3 HIN HRF HGS L2
    have hcq : ¬ c2 = q := by omega
    go_wp2_with fail
    have S0 : Hid (ParsAt W3 W3 base h0 c k n b m q 0 H R bz D XX1) := by
     refine ⟨C3.out, P3.out.1, fun a ha hc v hv => ?_, fun x _ hx v hv => ?_, F3.out, OnlyL.refl _ _ _ _⟩
     ·rcases hc with hc | ⟨x, hx, _⟩
      ·rw [P3.out.2 (k + a) (by omega) (by omega)]
       exact HG.out.1 (k + a) (by omega) hc v hv
      ·omega
     ·have h1 := HQ.out.2 (q + x) (by omega) hx
      have h2 := (HRI.out (q + x) hx).2
      rw [P3.out.2 (bz (q + x)).toNat (by omega) (by omega)]
      exact HG.out.2 _ (by omega) (isB_true hx (by omega)) v hv
    clear P3
    go_loopw [44] (fun t wr => ∃ (i : Nat) (XX : Nat → Nat → Nat), t = .int .i64 i ∧ i ≤ m - q ∧ Hid (ParsAt W3 wr base h0 c k n b m q i H R bz D XX)) (fun t _ => m - (intOf t).toNat)
    case atStart => exact ⟨0, _, rfl, by omega, S0⟩
    case round =>
     clear S0 C3 F3
     obtain ⟨i, XX, rfl, hi, M6⟩ := hrel
     by_cases hlt : i < m - q
     ·have hlo := HQ.out.2 (q + i) (by omega) (by omega)
      have hup := (HRI.out (q + i) (by omega)).2
      obtain ⟨a, hae⟩ : ∃ a : Nat, bz (q + i) = ((k + a : Nat) : Int) := ⟨(bz (q + i)).toNat - k, by omega⟩
      have ha : a < 3 := by omega
      have HBI : Hid (q + i < m ∧ bz (q + i) = ((k + a : Nat) : Int)) := ⟨by omega, hae⟩
      obtain ⟨bb, ob, qe, hbl2, hcb⟩ := HZZ.out (q + i) (by omega)
      injection qe with qe
      injection qe with q1 q2
      subst q1; subst q2
      have hcb2 : wr.cell? ⟨bA, oA + q + i, none⟩ = some (.int .i64 ((k + a : Nat) : Int)) := by
       rw [← hae, Nat.add_assoc, ← hcb]
       have hT := O3.out.trans M6.out.only
       exact cell_of_heap (hT.block bA hbl2 (HBA.out bA ⟨oA, rfl⟩).1 (HBA.out bA ⟨oA, rfl⟩).2)
      clear hcb hae hlo hup
      go_wp2_with fail
      have M7 := Lib.hid M6.out.drew
      have HF7 := Lib.hid M7.out.fld
      obtain ⟨cx, hcell, _, _⟩ := M7.out.cols.cell (j := k + a) (by omega)
      have HG7 : Hid (RowG wr.drew (R (k + a)) n (fun _ => 0)) := (M7.out.cols.row (k + a) (by omega)).2.congr fun v hv => by
       have h := M7.out.rest i (Nat.le_refl _) HBI.out.1 v hv
       rw [HBI.out.2, Int.toNat_natCast] at h
       exact h
      have hown := M7.out.cols.own
      have hob : (Value.slice (some ⟨h0, 0, none⟩) (k + 3) c).ownBlock = some h0 := by simp [Value.ownBlock]
      have hh0 := (hown.lt hob).1
      have HXL : Hid (∀ j, j < k + 3 → ∀ v, v < n → XX j v < 256) := fun j hj v hv => by
       by_cases e : j < k
       ·rw [M7.out.data j e v hv]; exact HDD.out.1 j hj v hv
       ·obtain ⟨a', rfl⟩ : ∃ a', j = k + a' := ⟨j - k, by omega⟩
        by_cases e2 : isB m bz (k + a') = true
        ·obtain ⟨y, hy, hye⟩ := isB_of e2
         by_cases e3 : q + i ≤ y
         ·have h := M7.out.rest (y - q) (by omega) (by omega) v hv
          rw [show q + (y - q) = y by omega, hye, Int.toNat_natCast] at h
          rw [h]; omega
         ·by_cases e4 : y < q
          ·have := HQ.out.1 y e4; omega
          ·rw [M7.out.pars a' (by omega) (.inr ⟨y - q, by omega, by rw [show q + (y - q) = y by omega]; exact hye⟩) v hv]
           exact HDD.out.1 _ hj v hv
        ·rw [M7.out.pars a' (by omega) (.inl (by simpa using e2)) v hv]
         exact HDD.out.1 _ hj v hv
      have HR7 := Lib.hid (M7.out.cols.rdr2 (kk := k) (g := R (k + a)) HXL.out HF7.out (by omega) (fun j hj => M7.out.cols.ne (by omega) (by omega) (by omega)) (hown.neG (M7.out.cols.row (k + a) (by omega)).2))
      have HL7 : Hid (∀ j, j < k → (H j).2.1 = n) := fun j hj => M7.out.cols.len (by omega)
      have HRB : Hid (R (k + a) ≠ b) := fun e => fld_ne_row HF7.out HG7.out e.symm
      have HST : Hid (∀ W, Only2 b (R (k + a)) wr.drew W → W.cell? ⟨h0, k + a, none⟩ = some (.slice (some ⟨R (k + a), 0, none⟩) n cx)) := fun W hW =>
       (cell_of_heap (hW.block h0 hh0 (fun e => fld_ne_own HF7.out hown (by rw [hob, e])) (fun e => hown.neG (M7.out.cols.row (k + a) (by omega)).2 (by rw [hob, e])))).trans hcell
      have HS := Lib.hid hcell
      clear M6 hcell hcb2 hown hh0
      refine region_anyZ (fun W : World => W.cell? ⟨h0, k + a, none⟩ = some (.slice (some ⟨R (k + a), 0, none⟩) n cx)) 12 (by kernel_rfl) ?_
      refine takeG 0 (.move (.tmp 0)) (some 48) none (.pointer (some ⟨b, 0, none⟩)) (by kernel_rfl) (by kernel_rfl) (by kernel_rfl) (fun _ _ _ h => h) (fun o w e hS => exec_move w e (by kernel_rfl)) HS.out ?_
      refine takeG 1 (.move (.tmp 1)) (some 49) none (.slice (some ⟨h0, 0, none⟩) (k + 3) c) (by kernel_rfl) (by kernel_rfl) (by kernel_rfl) (fun _ _ _ h => h) (fun o w e hS => exec_move w e (by kernel_rfl)) HS.out ?_
      refine takeG 2 (.move (.tmp 9)) (some 50) none (.int .i64 ((k + a : Nat) : Int)) (by kernel_rfl) (by kernel_rfl) (by kernel_rfl) (fun _ _ _ h => h) (fun o w e hS => exec_move w e (by kernel_rfl)) HS.out ?_
      refine takeG 3 (.indexAddr 139 (.tmp 49) (.tmp 50)) (some 51) none (.pointer (some ⟨h0, k + a, none⟩)) (by kernel_rfl) (by kernel_rfl) (by kernel_rfl) (fun _ _ _ h => h) (fun o w e hS => exec_index (u1 := .slice (some ⟨h0, 0, none⟩) (k + 3) c) (u2 := .int .i64 ((k + a : Nat) : Int)) w e (by kernel_rfl) (by kernel_rfl) (index_rows_zero h0 (k + 3) c (k + a) (by omega) _)) HS.out ?_
      refine takeG 4 (.load 41 (.tmp 51)) (some 52) none (.slice (some ⟨R (k + a), 0, none⟩) n cx) (by kernel_rfl) (by kernel_rfl) (by kernel_rfl) (fun _ _ _ h => h) (fun o w e hS => exec_load (x := (.tmp 51)) e (by kernel_rfl) (load_one Tryz.underlying41 (by kernel_rfl) hS)) HS.out ?_
      refine takeG 5 (.move (.tmp 9)) (some 53) none (.int .i64 ((k + a : Nat) : Int)) (by kernel_rfl) (by kernel_rfl) (by kernel_rfl) (fun _ _ _ h => h) (fun o w e hS => exec_move w e (by kernel_rfl)) HS.out ?_
      refine takeG 6 (.move (.tmp 6)) (some 54) none (.int .i64 (k : Int)) (by kernel_rfl) (by kernel_rfl) (by kernel_rfl) (fun _ _ _ h => h) (fun o w e hS => exec_move w e (by kernel_rfl)) HS.out ?_
      refine takeG 7 (.binOp .sub 3 (.tmp 53) (.tmp 54) 3) (some 55) none (.int .i64 (a : Int)) (by kernel_rfl) (by kernel_rfl) (by kernel_rfl) (fun _ _ _ h => h) (fun o w e hS => exec_bin (u1 := .int .i64 ((k + a : Nat) : Int)) (u2 := .int .i64 (k : Int)) w e (by kernel_rfl) (by kernel_rfl) (eqG_int ..) (sub_int k a (by omega) _)) HS.out ?_
      refine takeG 8 (.move (.tmp 1)) (some 56) none (.slice (some ⟨h0, 0, none⟩) (k + 3) c) (by kernel_rfl) (by kernel_rfl) (by kernel_rfl) (fun _ _ _ h => h) (fun o w e hS => exec_move w e (by kernel_rfl)) HS.out ?_
      refine takeG 9 (.move (.tmp 6)) (some 57) none (.int .i64 (k : Int)) (by kernel_rfl) (by kernel_rfl) (by kernel_rfl) (fun _ _ _ h => h) (fun o w e hS => exec_move w e (by kernel_rfl)) HS.out ?_
      refine takeG 10 (.slice 139 (.tmp 56) .none (.some (.tmp 57)) .none) (some 58) none (.slice (some ⟨h0, 0, none⟩) k c) (by kernel_rfl) (by kernel_rfl) (by kernel_rfl) (fun _ _ _ h => h) (fun o w e hS => exec_slice (u := .slice (some ⟨h0, 0, none⟩) (k + 3) c) w e (by kernel_rfl) (by kernel_rfl) (by kernel_rfl) (by kernel_rfl) (slice_headR h0 0 (k + 3) c k (by omega) _)) HS.out ?_
      refine loneG 11 (.call ⟨.value (.func 164), #[(.tmp 48), (.tmp 52), (.tmp 55), (.tmp 58)], #[228, 41, 3, 139]⟩) (some 59) none (by kernel_rfl) (by kernel_rfl) (by kernel_rfl) ?_
      intro o ho hod
      refine wp_callC (f := 164) (args := #[.pointer (some ⟨b, 0, none⟩), .slice (some ⟨R (k + a), 0, none⟩) n cx, .int .i64 (a : Int), .slice (some ⟨h0, 0, none⟩) k c]) (by cases o; cases ho; kernel_rfl) (addData_st b (R (k + a)) a n k cx c _ (some ⟨h0, 0, none⟩) _ _ _ XX (fun _ => 0) _ HF7.out HG7.out HR7.out HL7.out (fun _ => (by omega)) ha (by omega) HRB.out hn) ?_
      rintro e W8 ⟨rfl, hf8, hg8, ho8⟩
      refine ⟨.tuple #[], rfl, ?_⟩
      rw [hod]
      clear hod ho
      have M8 := Lib.hid (M7.out.step (X := XX) ha HBI.out HRI.out HDD.out.2 hf8 hg8 ho8)
      have HS8 := Lib.hid (HST.out W8 ho8)
      clear hf8 hg8 ho8
      refine ⟨fun _ => HS8.out, ?_⟩
      refine AnyZ.done (by kernel_rfl) ?_
      clear M7 HS HS8 HST HF7 HG7 HR7 HL7 HXL HRB
      simp only [put_some, put_none, List.setIfInBounds_toArray, List.set_cons_succ, List.set_cons_zero]
      go_wp2_with fail
      go_roundw
      case rel => exact ⟨i + 1, _, by go_num, by omega, M8⟩
      case measure => simp [intOf]; omega
     ·have hie : i = m - q := by omega
      have HIE := Lib.hid hie
      clear hie
      go_wp2_with fail
      go_end0
      refine ⟨rfl, XX, M6.out.cols, fun j hj v hv => ?_, M6.out.fld, O3.out.trans M6.out.only⟩
      by_cases e : j < k
      ·exact M6.out.data j e v hv
      ·obtain ⟨a', rfl⟩ : ∃ a', j = k + a' := ⟨j - k, by omega⟩
       refine M6.out.pars a' (by omega) ?_ v hv
       by_cases e2 : isB m bz (k + a') = true
       ·obtain ⟨y, hy, hye⟩ := isB_of e2
        by_cases e4 : y < q
        ·have := HQ.out.1 y e4; omega
        ·exact .inr ⟨y - q, by have := HIE.out; omega, by rw [show q + (y - q) = y by omega]; exact hye⟩
       ·exact .inl (by simpa using e2)
   ·have i1 : (m : Int) ≤ (q : Int) := by omega
    go_wp2_with fail
    have hbl := HFF.out.lt
    unfold maxLen at *
    refine region_anyZ (fun _ : World => True) 13 (by kernel_rfl) ?_
    refine takeG 0 (.move (.tmp 0)) (some 27) none (.pointer (some ⟨b, 0, none⟩)) (by kernel_rfl) (by kernel_rfl) (by kernel_rfl) (fun _ _ _ h => h) (fun o w e hS => exec_move w e (by kernel_rfl)) HT.out ?_
    refine takeG 1 (.move (.tmp 1)) (some 28) none (.slice (some ⟨h0, 0, none⟩) (k + 3) c) (by kernel_rfl) (by kernel_rfl) (by kernel_rfl) (fun _ _ _ h => h) (fun o w e hS => exec_move w e (by kernel_rfl)) HT.out ?_
    refine takeG 2 (.move (.tmp 2)) (some 29) none (.slice (some ⟨bA, oA, none⟩) m c2) (by kernel_rfl) (by kernel_rfl) (by kernel_rfl) (fun _ _ _ h => h) (fun o w e hS => exec_move w e (by kernel_rfl)) HT.out ?_
    refine takeG 3 (.move (.tmp 7)) (some 30) none (.int .i64 (q : Int)) (by kernel_rfl) (by kernel_rfl) (by kernel_rfl) (fun _ _ _ h => h) (fun o w e hS => exec_move w e (by kernel_rfl)) HT.out ?_
    refine takeG 4 (.slice 22 (.tmp 29) .none (.some (.tmp 30)) .none) (some 31) none (.slice (subA (some ⟨bA, oA, none⟩) c2 0) q c2) (by kernel_rfl) (by kernel_rfl) (by kernel_rfl) (fun _ _ _ h => h) (fun o w e hS => exec_slice (u := .slice (some ⟨bA, oA, none⟩) m c2) w e (by kernel_rfl) (by kernel_rfl) (by kernel_rfl) (by kernel_rfl) (slice_toZ (some ⟨bA, oA, none⟩) m c2 q _ rfl (by omega) _)) HT.out ?_
    refine takeG 5 (.move (.tmp 2)) (some 32) none (.slice (some ⟨bA, oA, none⟩) m c2) (by kernel_rfl) (by kernel_rfl) (by kernel_rfl) (fun _ _ _ h => h) (fun o w e hS => exec_move w e (by kernel_rfl)) HT.out ?_
    refine takeG 6 (.move (.tmp 7)) (some 33) none (.int .i64 (q : Int)) (by kernel_rfl) (by kernel_rfl) (by kernel_rfl) (fun _ _ _ h => h) (fun o w e hS => exec_move w e (by kernel_rfl)) HT.out ?_
    refine takeG 7 (.slice 22 (.tmp 32) (.some (.tmp 33)) .none .none) (some 34) none (.slice (subA (some ⟨bA, oA, none⟩) c2 q) (m - q) (c2 - q)) (by kernel_rfl) (by kernel_rfl) (by kernel_rfl) (fun _ _ _ h => h) (fun o w e hS => exec_slice (u := .slice (some ⟨bA, oA, none⟩) m c2) w e (by kernel_rfl) (by kernel_rfl) (by kernel_rfl) (by kernel_rfl) (slice_fromZ (some ⟨bA, oA, none⟩) m c2 q _ rfl (by omega) _)) HT.out ?_
    refine takeG 8 (.move (.tmp 6)) (some 35) none (.int .i64 (k : Int)) (by kernel_rfl) (by kernel_rfl) (by kernel_rfl) (fun _ _ _ h => h) (fun o w e hS => exec_move w e (by kernel_rfl)) HT.out ?_
    refine takeG 10 (.move (.tmp 7)) (some 37) none (.int .i64 (q : Int)) (by kernel_rfl) (by kernel_rfl) (by kernel_rfl) (fun _ _ _ h => h) (fun o w e hS => exec_move w e (by kernel_rfl)) HT.out ?_
    refine loneG 9 (.call ⟨.value (.func 183), #[(.tmp 34), (.tmp 35)], #[22, 3]⟩) (some 36) none (by kernel_rfl) (by kernel_rfl) (by kernel_rfl) ?_
    intro o ho hod
    refine wp_callC (f := 183) (args := #[.slice (subA (some ⟨bA, oA, none⟩) c2 q) (m - q) (c2 - q), .int .i64 (k : Int)]) (by cases o; cases ho; kernel_rfl) (sound_any k (m - q) (c2 - q) w.heap.size (subA (some ⟨bA, oA, none⟩) c2 q) (fun i => bz (q + i)) ((k + 3 : Nat) : Int) w.drew HZT.out (Nat.le_refl _) (by omega) HCM.out HRT.out HLO.out (by omega) (by omega)) ?_
    rintro e w2 ⟨vs, rfl, hs2, hb2⟩
    obtain ⟨As, cs, hvs, hcs, hrd, hgs⟩ := own_ints2 hs2
    subst hvs
    refine ⟨.slice As (sndL (m - q) (fun i => bz (q + i)) k 3).length cs, rfl, ?_⟩
    rw [hod]
    clear hod ho
    have HIN := Lib.hid (HMK.out w2 hb2)
    have HRF := Lib.hid hrd
    have HGS := Lib.hid hgs
    have L2 := Lib.hid hb2
    clear hb2 hs2 hrd hgs
    refine ⟨fun _ => trivial, ?_⟩
    refine takeG 11 (.slice 22 (.tmp 36) .none (.some (.tmp 37)) .none) (some 38) none (.slice (subA As cs 0) q cs) (by kernel_rfl) (by kernel_rfl) (by kernel_rfl) (fun _ _ _ h => h) (fun o w e hS => exec_slice (u := .slice As (sndL (m - q) (fun i => bz (q + i)) k 3).length cs) w e (by kernel_rfl) (by kernel_rfl) (by kernel_rfl) (by kernel_rfl) (slice_toZ As _ cs q _ rfl (by have := HSF.out.1; omega) _)) HT.out ?_
    refine loneG 12 (.call ⟨.value (.func 182), #[(.tmp 27), (.tmp 28), (.tmp 31), (.tmp 38)], #[228, 139, 22, 22]⟩) (some 39) none (by kernel_rfl) (by kernel_rfl) (by kernel_rfl) ?_
    intro o ho hod
    refine wp_callC (f := 182) (args := #[.pointer (some ⟨b, 0, none⟩), .slice (some ⟨h0, 0, none⟩) (k + 3) c, .slice (subA (some ⟨bA, oA, none⟩) c2 0) q c2, .slice (subA As cs 0) q cs]) (by cases o; cases ho; kernel_rfl) (mendData_all b k q n h0 c base c2 cs (subA (some ⟨bA, oA, none⟩) c2 0) (subA As cs 0) H R (fun x => (bz x).toNat) (fun x => (sndL (m - q) (fun i => bz (q + i)) k 3).getD x 0) X D w2 HIN.out.1 hn1 hn hk0 hk (by omega) HIN.out.2.1 (HRF.out.take HSF.out.1) (fun bb o e => HIN.out.2.2.2 bb (sub_some e)) (fun bb o e => HIN.out.2.2.1.2 bb (HGS.out bb (sub_some e))) HIN.out.2.2.1.1) ?_
    rintro e W3 ⟨rfl, XX1, hC3, hD3, hP3, hf3, ho3⟩
    refine ⟨.tuple #[], rfl, ?_⟩
    rw [hod]
    clear hod ho
    refine ⟨fun _ => trivial, ?_⟩
    refine AnyZ.done (by kernel_rfl) ?_
    simp only [put_some, put_none, List.setIfInBounds_toArray, List.set_cons_succ, List.set_cons_zero]
    have C3 := Lib.hid hC3
    have F3 := Lib.hid hf3
    have O3 : Hid (OnlyL b (k + 3) R w W3) := Lib.hid (((OnlyL.refl b (k + 3) R w).drew).trans ((OnlyL.of_only (Only.of_below L2.out b)).trans ho3))
    have P3 := Lib.hid (And.intro hD3 hP3)
    clear hC3 hD3 hP3 hf3 ho3 HIN HRF HGS L2
    have hmq : m - q = 0 := by omega
    have HMQ := Lib.hid hmq
    have HFIN : Hid (∀ j, j < k + 3 → ∀ v, v < n → XX1 j v = D j v) := fun j hj v hv => by
     by_cases e : j < k
     ·exact P3.out.1 j e v hv
     ·rw [P3.out.2 j (by omega) hj]
      refine HG.out.1 j hj (isB_false fun y hy hye => ?_) v hv
      have := HQ.out.1 y (by omega)
      omega
    by_cases hcq : c2 = q
    ·subst hcq
     go_wp2_with fail
     go_loop [44] (fun x => x = .int .i64 ((0 : Nat) : Int)) (fun x => 0)
     case atStart => rfl
     case round =>
      obtain rfl := hrel
      go_wp2_with fail
      go_end0
      exact ⟨rfl, XX1, C3.out, HFIN.out, F3.out, O3.out⟩
    ·go_wp2_with fail
     go_loop [44] (fun x => x = .int .i64 ((0 : Nat) : Int)) (fun x => 0)
     case atStart => rfl
     case round =>
      obtain rfl := hrel
      go_wp2_with fail
      go_end0
      exact ⟨rfl, XX1, C3.out, HFIN.out, F3.out, O3.out⟩
end Go.Proofs.YtkbndlnmbbbohaaGreatDoor
namespace Go.Proofs.YtkbndlnmbbbohaaGreatDoor
open Go Go.RowKit
set_option maxRecDepth 100000
set_option linter.unusedVariables false
end Go.Proofs.YtkbndlnmbbbohaaGreatDoor
namespace Go.Proofs.YtkbndlnmbbbohaaGreatDoor
open Go Go.RowKit
set_option maxRecDepth 100000
set_option linter.unusedVariables false
def trueL (f : Nat → Bool) (t : Nat) : List Nat := (List.range t).filter f
theorem trueL_succ (f : Nat → Bool) (t : Nat) : trueL f (t + 1) = trueL f t ++ (if f t then [t] else []) := by
 unfold trueL
 rw [List.range_succ, List.filter_append]
 cases h : f t <;> simp [h]
theorem trueL_facts (f : Nat → Bool) (t : Nat) : (∀ x, x < (trueL f t).length → (trueL f t).getD x 0 < t ∧ f ((trueL f t).getD x 0) = true) ∧ (∀ x y, x < y → y < (trueL f t).length → (trueL f t).getD x 0 < (trueL f t).getD y 0) ∧ ∀ i, i < t → f i = true → ∃ x, x < (trueL f t).length ∧ (trueL f t).getD x 0 = i := by
 induction t with
 | zero => exact ⟨fun x hx => absurd hx (by simp [trueL]), fun x y _ hy => absurd hy (by simp [trueL]), fun i hi => absurd hi (by omega)⟩
 | succ t ih =>
  obtain ⟨h1, h2, h3⟩ := ih
  rw [trueL_succ]
  cases hf : f t
  ·simp only [Bool.false_eq_true, if_false, List.append_nil]
   refine ⟨fun x hx => ⟨by have := (h1 x hx).1; omega, (h1 x hx).2⟩, h2, fun i hi hfi => ?_⟩
   by_cases e : i = t
   ·subst e; rw [hf] at hfi; cases hfi
   ·exact h3 i (by omega) hfi
  ·simp only [if_true]
   have g1 : ∀ x, x < (trueL f t).length → (trueL f t ++ [t]).getD x 0 = (trueL f t).getD x 0 := fun x hx => by
    simp only [List.getD_eq_getElem?_getD, List.getElem?_append_left hx]
   have g2 : (trueL f t ++ [t]).getD (trueL f t).length 0 = t := by simp [List.getD_eq_getElem?_getD]
   refine ⟨fun x hx => ?_, fun x y hxy hy => ?_, fun i hi hfi => ?_⟩
   ·rw [List.length_append] at hx
    simp at hx
    by_cases e : x < (trueL f t).length
    ·rw [g1 x e]; exact ⟨by have := (h1 x e).1; omega, (h1 x e).2⟩
    ·rw [show x = (trueL f t).length by omega, g2]
     exact ⟨by omega, hf⟩
   ·rw [List.length_append] at hy
    simp at hy
    by_cases e : y < (trueL f t).length
    ·rw [g1 x (by omega), g1 y e]; exact h2 x y hxy e
    ·rw [show y = (trueL f t).length by omega, g2, g1 x (by omega)]
     exact (h1 x (by omega)).1
   ·by_cases e : i = t
    ·exact ⟨(trueL f t).length, by simp, by rw [g2, e]⟩
    ·obtain ⟨x, hx, hxe⟩ := h3 i (by omega) hfi
     exact ⟨x, by simp; omega, by rw [g1 x hx, hxe]⟩
end Go.Proofs.YtkbndlnmbbbohaaGreatDoor
