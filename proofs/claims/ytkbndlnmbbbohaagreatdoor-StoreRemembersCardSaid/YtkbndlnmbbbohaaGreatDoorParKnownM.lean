/-
 'field.join' by a contract: a matrix of the call's own out of rows and right sides. Conditions: what is handed in is a system of one to eight equations.
-/
import Derived.Test.YtkbndlnmbbbohaaGreatDoorFieldElimM
import Derived.Laws.CopyOwn
import Derived.Laws.MakeOwn
import Derived.Deep.QuietTactic
import Derived.BigQuiet
namespace Go.Proofs.YtkbndlnmbbbohaaGreatDoor
open Go.RowKit
set_option maxRecDepth 100000
set_option linter.unusedVariables false
def hdP (n m i : Nat) (R : Nat → Nat) : Array Value := Array.ofFn (n := n) fun j => if j.val < i then .slice (some ⟨R j.val, 0, none⟩) m m else .slice none 0 0
theorem hdP_get {n m i : Nat} {R : Nat → Nat} {j : Nat} (h : j < n) : (hdP n m i R)[j]? = some (if j < i then .slice (some ⟨R j, 0, none⟩) m m else .slice none 0 0) := by simp [hdP, h]
theorem replicate_hd (n m : Nat) (R : Nat → Nat) : Array.replicate n (Value.slice none 0 0) = hdP n m 0 R := by
 apply Array.ext_getElem?
 intro i
 by_cases h : i < n
 ·rw [hdP_get h]; simp [h]
 ·rw [Array.getElem?_eq_none (by simp; omega), Array.getElem?_eq_none (by simp [hdP]; omega)]
theorem hdP_set {n m i : Nat} {R : Nat → Nat} (h : i < n) : (hdP n m i R).setIfInBounds i (.slice (some ⟨R i, 0, none⟩) m m) = hdP n m (i + 1) R := by
 apply Array.ext_getElem?
 intro j
 rw [Array.getElem?_setIfInBounds]
 have hs : (hdP n m i R).size = n := by simp [hdP]
 rw [hs]
 by_cases hj : j < n
 ·rw [hdP_get hj, hdP_get hj]
  by_cases e : i = j
  ·subst e
   rw [if_pos rfl, if_pos h, if_pos (by omega)]
  ·rw [if_neg e]
   by_cases e2 : j < i
   ·rw [if_pos e2, if_pos (by omega)]
   ·rw [if_neg e2, if_neg (by omega)]
 ·rw [if_neg (by omega), Array.getElem?_eq_none (by rw [hs]; omega), Array.getElem?_eq_none (by simp [hdP]; omega)]
theorem hdP_full (n m : Nat) (R : Nat → Nat) : hdP n m n R = hdArr n m R := by
 apply Array.ext_getElem?
 intro j
 by_cases hj : j < n
 ·rw [hdP_get hj, hdArr_get hj, if_pos hj]
 ·rw [Array.getElem?_eq_none (by simp [hdP]; omega), Array.getElem?_eq_none (by simp [hdArr]; omega)]
theorem info_bytes : (Tryz.prog.info? 41).map (fun i => (i.zero, i.size, i.bytes)) = some (some (.slice none 0 0), 1, 24) := by kernel_rfl
theorem make_rows (n m : Nat) (R : Nat → Nat) (hn : n ≤ 70000) (w : World) :
  (Instr.makeSlice 139 (.int .i64 (n : Int)) (.int .i64 (n : Int))).run Tryz.prog w = .ok (.slice (some ⟨w.heap.size, 0, none⟩) n n) (w.alloc (.cells (hdP n m 0 R) 41)) := by
 obtain ⟨i0, hi, hz0, hz1, hz2⟩ := info_parts info_bytes
 have h := run_make (P := Tryz.prog) (w := w) 139 41 i0 (.slice none 0 0) Tryz.underlying139 hi hz0 .i64 .i64 (n : Int) (n : Int) (by omega) (by omega) (by rw [hz2]; omega) (by omega)
 rw [h, hz1, Int.toNat_natCast, Nat.mul_one]
 show _ = _
 rw [show (Value.slice none 0 0).cells = #[.slice none 0 0] from rfl, madeCells_one, replicate_hd n m R]
def joinM (n : Nat) (x : Nat → Nat → Nat) (y : Nat → Nat) (i j : Nat) : Nat := if j < n then x i j else y i
structure JoinAt (w0 w : World) (n i : Nat) (x : Nat → Nat → Nat) (y : Nat → Nat) : Prop where
 head : Blk w w0.heap.size 41 (hdP n (n + 1) i (fun j => w0.heap.size + 1 + j))
 row : ∀ j, j < i → Blk w (w0.heap.size + 1 + j) 5 (rowArr (n + 1) (joinM n x y j))
 size : w.heap.size = w0.heap.size + 1 + i
 below : Below w0.heap.size w0 w
set_option maxRecDepth 100000 in
set_option maxHeartbeats 1600000 in
theorem join_any (A A2 : Option Addr) (n c c2 : Nat) (B B2 : Nat) (ra : Nat → Option Addr) (rl rc : Nat → Nat) (x : Nat → Nat → Nat) (y : Nat → Nat) (w : World) (hB : B ≤ w.heap.size) (hB2 : B2 ≤ w.heap.size)
  (hr : RdR w B A n ra rl rc x) (hy : RdB w B2 A2 n y) (hq : IsSq n n rl) :
  Calls Tryz.prog 193 #[.slice A n c, .slice A2 n c2] w fun e w' => e = .returned (.slice (some ⟨w.heap.size, 0, none⟩) n n) ∧ JoinAt w w' n n x y := by
 obtain ⟨hn1, hn8, _, hall⟩ := hq
 obtain ⟨b, o, rfl, hbB, _⟩ := hr 0 (by omega)
 obtain ⟨b2, o2, rfl, hbB2, _⟩ := hy 0 (by omega)
 have HX : Hid (∀ i, i < n → b < B ∧ w.cell? ⟨b, o + i, none⟩ = some (.slice (ra i) n (rc i)) ∧ RdB w B (ra i) n (x i)) := by
  intro i hi
  obtain ⟨b', o', h1, h2, h3, h4⟩ := hr i hi
  injection h1 with h1
  injection h1 with h1 h2'
  subst h1; subst h2'
  rw [hall i hi] at h3 h4
  exact ⟨h2, h3, h4⟩
 have HY : Hid (∀ i, i < n → b2 < B2 ∧ w.cell? ⟨b2, o2 + i, none⟩ = some (.int .u8 (y i : Nat)) ∧ y i < 256) := by
  intro i hi
  obtain ⟨b', o', h1, h2, h3, h4⟩ := hy i hi
  injection h1 with h1
  injection h1 with h1 h2'
  subst h1; subst h2'
  exact ⟨h2, h3, h4⟩
 clear hr hy hall
 have hmk := make_rows n (n + 1) (fun j => w.heap.size + 1 + j) (by omega)
 have hmb := fun W => make_bytes (n + 1) (by omega) W ((n : Int) + 1) (by omega)
 have J0 : Hid (JoinAt w (w.alloc (.cells (hdP n (n + 1) 0 (fun j => w.heap.size + 1 + j)) 41)) n 0 x y) :=
  ⟨Blk.new _ _ _, fun j hj => absurd hj (by omega), by simp, (Below.refl _ _).alloc (Nat.le_refl _) _⟩
 go_enter Tryz.func193, Tryz.ntmps193
 go_wp2_with fail
 generalize hwz : w.heap.size = z at *
 go_loopw [13] (fun v wr => ∃ i : Nat, i ≤ n ∧ v = .int .i64 i ∧ Hid (JoinAt w wr n i x y)) (fun v _ => n - (intOf v).toNat)
 case atStart => exact ⟨0, by omega, rfl, J0⟩
 case round =>
  obtain ⟨i, hi, rfl, H⟩ := hrel
  by_cases hlt : i < n
  ·have hz := H.out.size
   rw [hwz] at hz
   obtain ⟨q1, q2, q3⟩ := HX.out i hlt
   obtain ⟨s1, s2, s3⟩ := HY.out i hlt
   have cb : wr.cell? ⟨b, o + i, none⟩ = some (.slice (ra i) n (rc i)) := (H.out.below.cell (p := ⟨b, o + i, none⟩) (by show b < w.heap.size; omega)).trans q2
   have hh := H.out.head
   rw [hwz] at hh
   have zlt := hh.lt
   have h1 : ∀ o, (wr.alloc o).cell? ⟨z, i, none⟩ = some (.slice none 0 0) := fun o => by
    rw [(hh.alloc o).cell, hdP_get hlt, if_neg (by omega)]
   have f1 : ∀ o, (wr.alloc o).frozen? ⟨z, i, none⟩ = false := fun o => (hh.alloc o).frozen i
   obtain ⟨b3, o3, hai, hb3, _⟩ := q3 0 (by omega)
   have HSRC : Hid (∀ W : World, Below z w W → ∀ j, j < n → W.cell? ⟨b3, o3 + j, none⟩ = some (.int .u8 (x i j : Nat))) := by
    intro W hW j hj
    obtain ⟨b', o', e1, e2, e3, _⟩ := q3 j hj
    rw [hai] at e1
    injection e1 with e1
    injection e1 with e1 e1'
    subst e1; subst e1'
    exact (hW.cell (p := ⟨b3, o3 + j, none⟩) (by show b3 < z; omega)).trans e3
   have HB0 := Lib.hid (hwz ▸ H.out.below)
   have HROW := Lib.hid H.out.row
   have HS2 := Lib.hid s2
   have HH := Lib.hid hh
   rw [hai] at cb
   clear q2 q3 s2 hh hmk hai
   have HWZ := Lib.hid hwz
   clear hwz
   generalize rc i = ci at *
   have B1 : Hid (Below z w ((wr.alloc (.cells (rowArr (n + 1) fun _ => 0) 5)).setCell ⟨z, i, none⟩ (.slice (some ⟨z + 1 + i, 0, none⟩) (n + 1) (n + 1)))) :=
    (HB0.out.alloc (by omega) _).setCell (p := ⟨z, i, none⟩) (Nat.le_refl _) _
   have G1 : Hid (Blk ((wr.alloc (.cells (rowArr (n + 1) fun _ => 0) 5)).setCell ⟨z, i, none⟩ (.slice (some ⟨z + 1 + i, 0, none⟩) (n + 1) (n + 1))) (z + 1 + i) 5 (rowArr (n + 1) fun _ => 0)) := by
    have h := (Blk.new wr 5 (rowArr (n + 1) fun _ => 0)).far (p := ⟨z, i, none⟩) (show wr.heap.size ≠ z by omega) (.slice (some ⟨z + 1 + i, 0, none⟩) (n + 1) (n + 1))
    rw [hz] at h
    exact h
   have D1 : Hid (Blk ((wr.alloc (.cells (rowArr (n + 1) fun _ => 0) 5)).setCell ⟨z, i, none⟩ (.slice (some ⟨z + 1 + i, 0, none⟩) (n + 1) (n + 1))) z 41 (hdP n (n + 1) (i + 1) (fun j => z + 1 + j))) := by
    have h := (HH.out.alloc (.cells (rowArr (n + 1) fun _ => 0) 5)).set_ i (.slice (some ⟨z + 1 + i, 0, none⟩) (n + 1) (n + 1))
    rw [hdP_set (R := fun j => z + 1 + j) hlt] at h
    exact h
   have E1 : Hid (∀ j, j < i → Blk ((wr.alloc (.cells (rowArr (n + 1) fun _ => 0) 5)).setCell ⟨z, i, none⟩ (.slice (some ⟨z + 1 + i, 0, none⟩) (n + 1) (n + 1))) (z + 1 + j) 5 (rowArr (n + 1) (joinM n x y j))) := by
    intro j hj
    have h := HROW.out j hj
    rw [HWZ.out] at h
    exact (h.alloc _).far (p := ⟨z, i, none⟩) (show z + 1 + j ≠ z by omega) _
   have S1 : Hid (((wr.alloc (.cells (rowArr (n + 1) fun _ => 0) 5)).setCell ⟨z, i, none⟩ (.slice (some ⟨z + 1 + i, 0, none⟩) (n + 1) (n + 1))).heap.size = z + 1 + i + 1) := by
    show _ = _
    simp [hz]
   go_wp2_with ((with_reducible refine wpList_copyB rfl (.tmp 28) (.tmp 29) _ _ rfl Tryz.underlying41 (z + 1 + i) (n + 1) b3 o3 n ci rfl rfl (fun _ => 0) (x i) G1.out (HSRC.out _ B1.out) (by omega) ?_); intro w2 hb2 ho2 hs2)
   have hD2 := ho2.blk D1.out (show z ≠ z + 1 + i by omega)
   have d1 : w2.cell? ⟨z, i, none⟩ = some (.slice (some ⟨z + 1 + i, 0, none⟩) (n + 1) (n + 1)) := by
    rw [hD2.cell, hdP_get hlt, if_pos (by omega)]
   have hbel2 : Below z w w2 := B1.out.trans (ho2.below (B := z) (by omega) (by rw [S1.out]; omega))
   have d2 : w2.cell? ⟨b2, o2 + i, none⟩ = some (.int .u8 (y i : Nat)) := (hbel2.cell (p := ⟨b2, o2 + i, none⟩) (by show b2 < z; omega)).trans HS2.out
   have d3 : w2.cell? ⟨z + 1 + i, n, none⟩ = some (.int .u8 0) := by
    rw [hb2.cell, rowArr_get (by omega), if_neg (by omega)]; rfl
   have d4 : w2.frozen? ⟨z + 1 + i, n, none⟩ = false := hb2.frozen n
   have HB2 := Lib.hid hb2
   have HD2 := Lib.hid hD2
   have HBEL := Lib.hid hbel2
   have HO2 := Lib.hid ho2
   have HSZ : Hid (w2.heap.size = z + 1 + i + 1) := by show _ = _; rw [hs2, S1.out]
   clear hb2 hD2 hbel2 ho2 hs2 cb h1 f1 hz
   refine region_quiet_tail 10 (by kernel_rfl) (by kernel_rfl) ?_
   simp only [List.take_succ_cons, List.take_zero, List.drop_succ_cons, List.drop_zero]
   repeat (quiet_step (fail))
   refine wpQuiet_nil ?_
   rintro _ ⟨nq, rfl⟩
   go_wp2_with fail
   have HJ : Hid (JoinAt w ((w2.drewN nq).setCell ⟨z + 1 + i, n, none⟩ (.int .u8 ((y i : Nat) : Int))) n (i + 1) x y) := by
    refine ⟨?_, ?_, ?_, ?_⟩
    ·rw [HWZ.out]
     exact (HD2.out.drewN nq).far (p := ⟨z + 1 + i, n, none⟩) (show z ≠ z + 1 + i by omega) _
    ·intro j hj
     rw [HWZ.out]
     by_cases e : j = i
     ·subst e
      have h := (HB2.out.drewN nq).set_ n (.int .u8 ((y j : Nat) : Int))
      rw [rowArr_set (by omega)] at h
      have h2 : rowArr (n + 1) (fun c => if c = n then y j else if c < n then x j c else 0) = rowArr (n + 1) (joinM n x y j) := rowArr_congr fun c hc => by
       unfold joinM
       by_cases e : c = n
       ·rw [if_pos e, if_neg (by omega)]
       ·rw [if_neg e, if_pos (by omega), if_pos (by omega)]
      rw [← h2]
      exact h
     ·have h := HO2.out.blk (E1.out j (by omega)) (show z + 1 + j ≠ z + 1 + i by omega)
      exact (h.drewN nq).far (p := ⟨z + 1 + i, n, none⟩) (show z + 1 + j ≠ z + 1 + i by omega) _
    ·rw [HWZ.out]
     have h := HSZ.out
     show ((w2.drewN nq).setCell ⟨z + 1 + i, n, none⟩ (.int .u8 ((y i : Nat) : Int))).heap.size = _
     simp [World.setCell, World.drewN]
     omega
    ·rw [HWZ.out]
     have h := HBEL.out
     have h' : Below z w (w2.drewN nq) := ⟨h.os, h.tape, h.output, h.size, h.block⟩
     exact h'.setCell (p := ⟨z + 1 + i, n, none⟩) (show z ≤ z + 1 + i by omega) _
   go_roundw
   case rel => exact ⟨i + 1, by omega, by go_num, HJ⟩
   case measure => simp [intOf]; omega
  ·have HJ : Hid (JoinAt w wr n n x y) := by
    have e : i = n := by omega
    rw [e] at H
    exact H
   clear H hmb hmk
   have HWZ := Lib.hid hwz
   clear hwz
   go_wp2_with fail
   go_ret
   exact ⟨by rw [HWZ.out]; rfl, HJ.out⟩
end Go.Proofs.YtkbndlnmbbbohaaGreatDoor
namespace Go.Proofs.YtkbndlnmbbbohaaGreatDoor
open Go.RowKit
set_option maxRecDepth 100000
set_option linter.unusedVariables false
theorem hdP_congr {n m i : Nat} {R S : Nat → Nat} (h : ∀ j, j < i → R j = S j) : hdP n m i R = hdP n m i S := by
 unfold hdP
 congr 1
 funext j
 by_cases e : j.val < i
 ·rw [if_pos e, if_pos e, h _ e]
 ·rw [if_neg e, if_neg e]
structure SumsAt (w0 w : World) (b n k j : Nat) (x : Nat → Nat → Nat) (R : Nat → Nat) : Prop where
 head : Blk w w0.heap.size 41 (hdP 3 n j R)
 row : ∀ i, i < j → w0.heap.size < R i ∧ RowG w (R i) n (M.par k i x)
 fld : Fld w b
 only : Only b w0 w
 apart : ∀ i i', i < i' → i' < j → R i ≠ R i'
theorem SumsAt.next {w0 w w3 : World} {b n k j : Nat} {x : Nat → Nat → Nat} {R : Nat → Nat} (h : SumsAt w0 w b n k j x R) (hj : j < 3) (hb : b < w0.heap.size)
  (hf : Fld w3 b) (hg : RowG w3 w.heap.size n (fun v => 0 ^^^ M.par k j x v))
  (ho : Only2 b w.heap.size ((w.alloc (.cells (rowArr n fun _ => 0) 5)).setCell ⟨w0.heap.size, j, none⟩ (.slice (some ⟨w.heap.size, 0, none⟩) n n)) w3) :
  SumsAt w0 w3 b n k (j + 1) x (fun i => if i = j then w.heap.size else R i) := by
 have hs := h.only.size
 have hlt := h.head.lt
 have sz : ((w.alloc (.cells (rowArr n fun _ => 0) 5)).setCell ⟨w0.heap.size, j, none⟩ (.slice (some ⟨w.heap.size, 0, none⟩) n n)).heap.size = w.heap.size + 1 := by simp [World.setCell]
 have hh := (h.head.alloc (.cells (rowArr n fun _ => 0) 5)).set_ j (.slice (some ⟨w.heap.size, 0, none⟩) n n)
 rw [hdP_congr (S := fun i => if i = j then w.heap.size else R i) (fun i hi => (if_neg (by omega)).symm)] at hh
 have e : (hdP 3 n j fun i => if i = j then w.heap.size else R i).setIfInBounds j (.slice (some ⟨w.heap.size, 0, none⟩) n n) = hdP 3 n (j + 1) (fun i => if i = j then w.heap.size else R i) := by
  have h1 := hdP_set (n := 3) (m := n) (R := fun i => if i = j then w.heap.size else R i) hj
  simp only [if_true] at h1
  exact h1
 rw [e] at hh
 refine ⟨(ho.block _ (by omega) (by omega) (by omega)).trans hh, fun i hi => ?_, hf, ?_, fun i i' h1 h2 => ?_⟩
 ·by_cases e2 : i = j
  ·subst e2
   simp only [if_true]
   exact ⟨hlt, hg.congr fun v _ => Nat.zero_xor _⟩
  ·simp only [if_neg e2]
   obtain ⟨h1, h2⟩ := h.row i (by omega)
   have hl := h2.lt
   refine ⟨h1, ?_⟩
   have h3 := (h2.alloc (.cells (rowArr n fun _ => 0) 5)).far (p := ⟨w0.heap.size, j, none⟩) (show R i ≠ w0.heap.size by omega) (.slice (some ⟨w.heap.size, 0, none⟩) n n)
   exact h3.heap (ho.block _ (by omega) (by omega) (by omega))
 ·have o1 : Only b w0 ((w.alloc (.cells (rowArr n fun _ => 0) 5)).setCell ⟨w0.heap.size, j, none⟩ (.slice (some ⟨w.heap.size, 0, none⟩) n n)) :=
   (h.only.alloc _).setNew (p := ⟨w0.heap.size, j, none⟩) (Nat.le_refl _) _
  exact ⟨ho.os.trans o1.os, ho.tape.trans o1.tape, ho.output.trans o1.output, Nat.le_trans o1.size ho.size, fun i hi hne =>
   (ho.block i (by omega) (fun e => hne (by rw [e])) (by omega)).trans (o1.block i hi hne)⟩
 ·have hl := (h.row i (by omega)).2.lt
  show (if i = j then w.heap.size else R i) ≠ (if i' = j then w.heap.size else R i')
  rw [if_neg (by omega)]
  by_cases e2 : i' = j
  ·rw [if_pos e2]; omega
  ·rw [if_neg e2]; exact h.apart i i' h1 (by omega)
set_option maxHeartbeats 1600000 in
theorem sums_any (b n k cd B : Nat) (A : Option Addr) (ra : Nat → Option Addr) (rl rc : Nat → Nat) (x : Nat → Nat → Nat) (w : World) (hb : Fld w b) (hr : RdR w B A k ra rl rc x) (hl : ∀ i, i < k → rl i = n)
  (hk0 : 0 < k) (hk : k ≤ 60) (hbb : B ≤ b) (hn : n ≤ 4096) (hB : B ≤ w.heap.size) :
  Calls Tryz.prog 129 #[.pointer (some ⟨b, 0, none⟩), .slice A k cd] w fun e w' => e = .returned (.slice (some ⟨w.heap.size, 0, none⟩) 3 3) ∧ ∃ R, SumsAt w w' b n k 3 x R := by
 have hmk : ∀ W : World, (Instr.makeSlice 139 (.int .i64 3) (.int .i64 3)).run Tryz.prog W = .ok (.slice (some ⟨W.heap.size, 0, none⟩) 3 3) (W.alloc (.cells (hdP 3 n 0 (fun j => w.heap.size + 1 + j)) 41)) := fun W => make_rows 3 n (fun j => w.heap.size + 1 + j) (by omega) W
 have hmb := fun W => make_bytes n (by omega) W (n : Int) rfl
 have hbl := hb.lt
 have J0 : Hid (SumsAt w (w.alloc (.cells (hdP 3 n 0 (fun j => w.heap.size + 1 + j)) 41)) b n k 0 x (fun j => w.heap.size + 1 + j)) :=
  ⟨Blk.new _ _ _, fun j hj => absurd hj (by omega), hb.alloc _, (Only.refl _ _).alloc _, fun i i' _ h => absurd h (by omega)⟩
 have HR := Lib.hid hr
 have HL := Lib.hid hl
 have HBD : Hid (B ≤ b ∧ B ≤ w.heap.size ∧ b < w.heap.size) := ⟨hbb, hB, hbl⟩
 clear hr hl hb hbb hB hbl
 go_enter Tryz.func129, Tryz.ntmps129
 go_wp2_with fail
 generalize hwz : w.heap.size = z at *
 go_loopw [10] (fun v wr => ∃ i : Nat, i ≤ 3 ∧ v = .int .i64 i ∧ ∃ R, Hid (SumsAt w wr b n k i x R)) (fun v _ => 3 - (intOf v).toNat)
 case atStart => exact ⟨0, by omega, rfl, _, J0⟩
 case round =>
  obtain ⟨i, hi, rfl, R, H⟩ := hrel
  clear J0
  by_cases hlt : i < 3
  ·have sz := H.out.only.size
   rw [hwz] at sz
   have hh := H.out.head
   rw [hwz] at hh
   have BL : Hid (Below B w wr) := H.out.only.below HBD.out.1 (by rw [hwz]; exact HBD.out.2.1)
   have XR := Lib.hid (HR.out.below BL.out (Nat.le_refl _))
   obtain ⟨bx, ox, rfl, hbx, hcx, _⟩ := XR.out 0 hk0
   rw [HL.out 0 hk0, Nat.add_zero] at hcx
   have h1 : ∀ o, (wr.alloc o).cell? ⟨z, i, none⟩ = some (.slice none 0 0) := fun o => by
    rw [(hh.alloc o).cell, hdP_get hlt, if_neg (by omega)]
   have f1 : ∀ o, (wr.alloc o).frozen? ⟨z, i, none⟩ = false := fun o => (hh.alloc o).frozen i
   have hzl := hh.lt
   have d1 : ((wr.alloc (.cells (rowArr n fun _ => 0) 5)).setCell ⟨z, i, none⟩ (.slice (some ⟨wr.heap.size, 0, none⟩) n n)).cell? ⟨z, i, none⟩ = some (.slice (some ⟨wr.heap.size, 0, none⟩) n n) := World.cell?_setCell_same _ _ _ (h1 _)
   have G1 : Hid (RowG ((wr.alloc (.cells (rowArr n fun _ => 0) 5)).setCell ⟨z, i, none⟩ (.slice (some ⟨wr.heap.size, 0, none⟩) n n)) wr.heap.size n (fun _ => 0)) :=
    RowG.far (RowG.of_blk (Blk.new wr 5 (rowArr n fun _ => 0)) (Nat.le_refl _)) (p := ⟨z, i, none⟩) (show wr.heap.size ≠ z by omega) _
   have F1 : Hid (Fld ((wr.alloc (.cells (rowArr n fun _ => 0) 5)).setCell ⟨z, i, none⟩ (.slice (some ⟨wr.heap.size, 0, none⟩) n n)) b) :=
    (H.out.fld.alloc _).far (p := ⟨z, i, none⟩) (show b ≠ z by have := HBD.out.2.2; omega) _
   have B1 : Hid (Below B wr ((wr.alloc (.cells (rowArr n fun _ => 0) 5)).setCell ⟨z, i, none⟩ (.slice (some ⟨wr.heap.size, 0, none⟩) n n))) :=
    ((Below.refl B wr).alloc (by have := HBD.out.2.1; omega) _).setCell (p := ⟨z, i, none⟩) HBD.out.2.1 _
   have X1 := Lib.hid (XR.out.below B1.out (Nat.le_refl _))
   have S1 : Hid (B ≤ ((wr.alloc (.cells (rowArr n fun _ => 0) 5)).setCell ⟨z, i, none⟩ (.slice (some ⟨wr.heap.size, 0, none⟩) n n)).heap.size) := by
    have h := HBD.out.2.1
    have e : ((wr.alloc (.cells (rowArr n fun _ => 0) 5)).setCell ⟨z, i, none⟩ (.slice (some ⟨wr.heap.size, 0, none⟩) n n)).heap.size = wr.heap.size + 1 := by simp [World.setCell]
    show B ≤ _
    rw [e]
    omega
   have HWZ := Lib.hid hwz
   have HZL := Lib.hid hzl
   clear hh BL XR hbx B1 hmk hwz hzl
   go_wp2_with fail
   refine (addData_any b wr.heap.size i n k n cd B _ ra rl rc x (fun _ => 0) _ F1.out G1.out X1.out HL.out (fun _ => (by omega)) hlt hk (by have := HBD.out.2.1; omega) HBD.out.1 (by have := HBD.out.2.2; have := HZL.out; omega) hn S1.out).mono ?_
   rintro e w3 ⟨rfl, hf3, hg3, ho3⟩
   have H3 := Lib.hid (H.out.next hlt (by rw [HWZ.out]; exact HBD.out.2.2) hf3 hg3 (by rw [HWZ.out]; exact ho3))
   clear hf3 hg3 ho3 F1 G1 X1 S1 H h1 f1 d1 hcx
   go_wp2_with fail
   go_roundw
   case rel => exact ⟨i + 1, by omega, by go_num, _, H3⟩
   case measure => simp [intOf]; omega
  ·obtain rfl : i = 3 := by omega
   have HWZ := Lib.hid hwz
   clear hmk hwz
   go_wp2_with fail
   go_ret
   exact ⟨by rw [HWZ.out]; rfl, R, H.out⟩
end Go.Proofs.YtkbndlnmbbbohaaGreatDoor
namespace Go.Proofs.YtkbndlnmbbbohaaGreatDoor
open Go.RowKit
set_option maxRecDepth 100000
set_option linter.unusedVariables false
set_option maxHeartbeats 400000 in
theorem length_nil (k cd B : Nat) (A : Option Addr) (ra : Nat → Option Addr) (rl rc : Nat → Nat) (x : Nat → Nat → Nat) (w : World) (hr : RdR w B A k ra rl rc x) (hk0 : 0 < k) :
  Calls Tryz.prog 163 #[.slice A k cd, .slice none 0 0] w fun e w' => e = .returned (.int .i64 (rl 0 : Nat)) ∧ w = w' := by
 obtain ⟨bx, ox, rfl, hbx, hcx, _⟩ := hr 0 hk0
 rw [Nat.add_zero] at hcx
 clear hr
 go_enter Tryz.func163, Tryz.ntmps163
 go_wp2
 go_loop [9] (fun x => x = .int .i64 ((0 : Nat) : Int)) (fun x => k - (intOf x).toNat)
 case atStart => rfl
 case round =>
  obtain rfl := hrel
  generalize ra 0 = r1 at *
  generalize rc 0 = c1 at *
  generalize hn : rl 0 = n at *
  have HN := Lib.hid hn
  clear hn
  go_wp2
  go_ret
  exact ⟨by rw [HN.out]; rfl, rfl⟩
def Alike (k : Nat) (rl : Nat → Nat) : Prop := 1 ≤ rl 0 ∧ rl 0 ≤ 4096 ∧ ∀ i, i < k → rl i = rl 0
set_option maxHeartbeats 400000 in
theorem alike_yes (k cd B : Nat) (A : Option Addr) (ra : Nat → Option Addr) (rl rc : Nat → Nat) (x : Nat → Nat → Nat) (w : World) (hr : RdR w B A k ra rl rc x) (hk0 : 0 < k) (hk : k ≤ 16) (ha : Alike k rl) :
  Calls Tryz.prog 128 #[.slice A k cd, .slice none 0 0] w fun e w' => e = .returned (.bool true) ∧ w = w' := by
 obtain ⟨h1, h2, h3⟩ := ha
 have HA := Lib.hid h3
 have HR := Lib.hid hr
 have t1 : ((rl 0 : Int) < 1) = False := by simp; omega
 have t2 : ((4096 : Int) < (rl 0 : Int)) = False := by simp; omega
 clear h3 hr
 go_enter Tryz.func128, Tryz.ntmps128
 go_wp2_with fail
 refine (length_nil k cd B A ra rl rc x _ HR.out hk0).mono ?_
 rintro e w1 ⟨rfl, rfl⟩
 generalize hn : rl 0 = n at *
 have HN := Lib.hid hn
 clear hn
 go_wp2_with fail
 go_loop [1, 19] (fun y x => ∃ i : Nat, i ≤ k ∧ y = .slice none 0 0 ∧ x = .int .i64 i) (fun y x => k - (intOf x).toNat)
 case atStart => exact ⟨0, by omega, rfl, rfl⟩
 case round =>
  obtain ⟨i, hi, rfl, rfl⟩ := hrel
  by_cases hlt : i < k
  ·obtain ⟨bx, ox, rfl, hbx, hcx, _⟩ := HR.out i hlt
   rw [HA.out i hlt] at hcx
   generalize ra i = r1 at *
   generalize rc i = c1 at *
   clear hbx
   go_wp2_with fail
   go_round
   case rel => exact ⟨i + 1, by omega, rfl, by go_num⟩
   case measure => simp [intOf]; omega
  ·obtain rfl : i = k := by omega
   go_wp2_with fail
   go_ret
   exact ⟨rfl, rfl⟩
end Go.Proofs.YtkbndlnmbbbohaaGreatDoor
namespace Go.Proofs.YtkbndlnmbbbohaaGreatDoor
open Go.RowKit
set_option maxRecDepth 100000
set_option linter.unusedVariables false
end Go.Proofs.YtkbndlnmbbbohaaGreatDoor
