/-
 'field.square' and 'field.pivot', each by a contract. Conditions: what is handed in reads as rows of bytes.
-/
import Derived.Test.YtgbehfkimchglaaGreatDoorFieldMulM
import Derived.Test.YtgbehfkimchglaaGreatDoorParAddM
import Derived.Test.YtgbehfkimchglaaGreatDoorStoKM
import Derived.Test.YtgbehfkimchglaaGreatDoorArrMathM
import Derived.Test.YtgbehfkimchglaaGreatDoorRackPowerM
import Derived.Laws.CopyOwn
import Derived.Laws.MakeOwn
import Derived.Deep.QuietTactic
import Derived.BigQuiet
namespace Go.Proofs.YtgbehfkimchglaaGreatDoor
open Go.RowKit
set_option maxRecDepth 100000
set_option linter.unusedVariables false
def RdR (w : World) (B : Nat) (A : Option Addr) (n : Nat) (ra : Nat → Option Addr) (rl rc : Nat → Nat) (x : Nat → Nat → Nat) : Prop :=
 ∀ i, i < n → ∃ b o, A = some ⟨b, o, none⟩ ∧ b < B ∧ w.cell? ⟨b, o + i, none⟩ = some (.slice (ra i) (rl i) (rc i)) ∧ RdB w B (ra i) (rl i) (x i)
theorem RdR.below {w w' : World} {B B' : Nat} {A : Option Addr} {n : Nat} {ra : Nat → Option Addr} {rl rc : Nat → Nat} {x : Nat → Nat → Nat} (h : RdR w B A n ra rl rc x) (hb : Below B' w w') (hB : B ≤ B') : RdR w' B A n ra rl rc x := by
 intro i hi
 obtain ⟨b, o, h1, h2, h3, h4⟩ := h i hi
 exact ⟨b, o, h1, h2, (hb.cell (p := ⟨b, o + i, none⟩) (by show b < B'; omega)).trans h3, h4.below hb hB⟩
end Go.Proofs.YtgbehfkimchglaaGreatDoor
namespace Go.Proofs.YtgbehfkimchglaaGreatDoor
open Go.RowKit
set_option maxRecDepth 100000
set_option linter.unusedVariables false
set_option maxHeartbeats 1600000 in
theorem addData_any (b g j n k cg cd B : Nat) (A : Option Addr) (ra : Nat → Option Addr) (rl rc : Nat → Nat) (x : Nat → Nat → Nat) (T : Nat → Nat) (w : World) (hb : Fld w b) (hg : RowG w g n T) (hr : RdR w B A k ra rl rc x) (hl : ∀ i, i < k → rl i = n)
  (hT : ∀ v, T v < 256) (hj : j < 3) (hk : k ≤ 60) (hgb : B ≤ g) (hbb : B ≤ b) (hne : g ≠ b) (hn : n ≤ 4096) (hB : B ≤ w.heap.size) :
  Calls Tryz.prog 239 #[.pointer (some ⟨b, 0, none⟩), .slice (some ⟨g, 0, none⟩) n cg, .int .i64 (j : Int), .slice A k cd] w fun e w' => e = .returned (.tuple #[]) ∧ Fld w' b ∧ RowG w' g n (fun v => T v ^^^ M.par k j x v) ∧ Only2 b g w w' := by
 have HR := Lib.hid hr
 have HL := Lib.hid hl
 have HT := Lib.hid hT
 have HNE := Lib.hid hne
 have F0 := Lib.hid hb
 have G0 : Hid (RowG w g n (fun v => T v ^^^ M.par 0 j x v)) := hg.congr fun v _ => (Nat.xor_zero _).symm
 have HBD : Hid (B ≤ g ∧ B ≤ b ∧ B ≤ w.heap.size) := ⟨hgb, hbb, hB⟩
 clear hr hl hT hne hb hg hgb hbb hB
 go_enter Tryz.func239, Tryz.ntmps239
 go_wp2_with fail
 go_loopw [12] (fun u wr => ∃ i : Nat, i ≤ k ∧ u = .int .i64 i ∧ Hid (Fld wr b) ∧ Hid (RowG wr g n (fun v => T v ^^^ M.par i j x v)) ∧ Hid (Only2 b g w wr)) (fun u _ => k - (intOf u).toNat)
 case atStart => exact ⟨0, by omega, rfl, F0, G0, Only2.refl _ _ _⟩
 case round =>
  obtain ⟨i, hi, rfl, F1, G1, O1⟩ := hrel
  clear F0 G0
  by_cases hlt : i < k
  ·have BL := Lib.hid (O1.out.below HBD.out.2.1 HBD.out.1 HBD.out.2.2)
   obtain ⟨bx, ox, rfl, hbx, hcx, hrx⟩ := (HR.out.below BL.out (Nat.le_refl _)) i hlt
   rw [HL.out i hlt] at hcx hrx
   have HRX := Lib.hid hrx
   clear hrx hbx
   generalize hra : ra i = r1 at *
   generalize hrc : rc i = c1 at *
   clear hra hrc
   go_wp2_with fail
   refine (factor_any b j i _ hj (by omega) F1.out).mono ?_
   rintro e w2 ⟨rfl, hf2, ho2⟩
   have sz := Nat.le_trans HBD.out.2.2 O1.out.size
   have F2 := Lib.hid hf2
   have G2 := Lib.hid (G1.out.only ho2 HNE.out)
   have O2 := Lib.hid (O1.out.only ho2)
   have X2 := Lib.hid (HRX.out.below (ho2.below HBD.out.2.1 sz) (Nat.le_refl _))
   have s2 := Nat.le_trans sz ho2.size
   clear hf2 ho2 F1 G1 O1 HRX BL
   have hp := M.pw_any_lt (i * j)
   generalize hpe : M.pw (i * j) = p at *
   have HPE := Lib.hid hpe
   clear hpe
   go_wp2_with fail
   refine (addTimes_any b g p n cg c1 B r1 (fun v => T v ^^^ M.par i j x v) (x i) _ F2.out G2.out X2.out (fun v => M.xor_lt (HT.out v) (M.par_lt _ _ _ _)) hp HBD.out.1 HBD.out.2.1 HNE.out hn s2).mono ?_
   rintro e w3 ⟨rfl, hf3, hg3, ho3⟩
   have F3 := Lib.hid hf3
   have G3 : Hid (RowG w3 g n (fun v => T v ^^^ M.par (i + 1) j x v)) := hg3.congr fun v _ => by
    rw [M.par_succ, HPE.out, Nat.xor_assoc]
   have O3 := Lib.hid (O2.out.trans ho3)
   clear hf3 hg3 ho3 F2 G2 O2 X2
   go_wp2_with fail
   go_roundw
   case rel => exact ⟨i + 1, by omega, by go_num, F3, G3, O3⟩
   case measure => simp [intOf]; omega
  ·obtain rfl : i = k := by omega
   go_wp2_with fail
   go_end0
   exact ⟨rfl, F1.out, G1.out, O1.out⟩
end Go.Proofs.YtgbehfkimchglaaGreatDoor
namespace Go.Proofs.YtgbehfkimchglaaGreatDoor
open Go.RowKit
set_option maxRecDepth 100000
set_option linter.unusedVariables false
def hdArr (n m : Nat) (R : Nat → Nat) : Array Value := Array.ofFn (n := n) fun i => .slice (some ⟨R i.val, 0, none⟩) m m
structure Mat (w : World) (bo n : Nat) (R : Nat → Nat) (m : Nat → Nat → Nat) : Prop where
 head : Blk w bo 76 (hdArr n (n + 1) R)
 row : ∀ i, i < n → Blk w (R i) 5 (rowArr (n + 1) (m i))
 inj : ∀ i j, i < n → j < n → R i = R j → i = j
section
variable {w w' : World} {bo n : Nat} {R : Nat → Nat} {m : Nat → Nat → Nat}
end
structure OnlyR (n : Nat) (R : Nat → Nat) (a w : World) : Prop where
 os : w.os = a.os
 tape : w.tape = a.tape
 output : w.output = a.output
 size : w.heap.size = a.heap.size
 block : ∀ q, (∀ i, i < n → q ≠ R i) → w.heap[q]? = a.heap[q]?
section
variable {a b c w : World} {n : Nat} {R : Nat → Nat}
end
end Go.Proofs.YtgbehfkimchglaaGreatDoor
namespace Go.Proofs.YtgbehfkimchglaaGreatDoor
open Go.RowKit
set_option maxRecDepth 100000
set_option linter.unusedVariables false
end Go.Proofs.YtgbehfkimchglaaGreatDoor
namespace Go.Proofs.YtgbehfkimchglaaGreatDoor
open Go.RowKit
set_option maxRecDepth 100000
set_option linter.unusedVariables false
def hdP (n m i : Nat) (R : Nat → Nat) : Array Value := Array.ofFn (n := n) fun j => if j.val < i then .slice (some ⟨R j.val, 0, none⟩) m m else .slice none 0 0
theorem hdP_get {n m i : Nat} {R : Nat → Nat} {j : Nat} (h : j < n) : (hdP n m i R)[j]? = some (if j < i then .slice (some ⟨R j, 0, none⟩) m m else .slice none 0 0) := by simp [hdP, h]
theorem replicate_hd (n m : Nat) (R : Nat → Nat) : Array.replicate n (Value.slice none 0 0) = hdP n m 0 R := by
 apply Array.ext_getElem?
 intro i
 by_cases h : i < n
 ·rw [hdP_get h]; simp [h]
 ·rw [Array.getElem?_eq_none (by simp; omega), Array.getElem?_eq_none (by simp [hdP]; omega)]
theorem hdP_set {n m i : Nat} {R : Nat → Nat} (h : i < n) : (hdP n m i R).setIfInBounds i (.slice (some ⟨R i, 0, none⟩) m m) = hdP n m (i + 1) R := by
 apply Array.ext_getElem?
 intro j
 rw [Array.getElem?_setIfInBounds]
 have hs : (hdP n m i R).size = n := by simp [hdP]
 rw [hs]
 by_cases hj : j < n
 ·rw [hdP_get hj, hdP_get hj]
  by_cases e : i = j
  ·subst e
   rw [if_pos rfl, if_pos h, if_pos (by omega)]
  ·rw [if_neg e]
   by_cases e2 : j < i
   ·rw [if_pos e2, if_pos (by omega)]
   ·rw [if_neg e2, if_neg (by omega)]
 ·rw [if_neg (by omega), Array.getElem?_eq_none (by rw [hs]; omega), Array.getElem?_eq_none (by simp [hdP]; omega)]
theorem info_bytes : (Tryz.prog.info? 76).map (fun i => (i.zero, i.size, i.bytes)) = some (some (.slice none 0 0), 1, 24) := by kernel_rfl
theorem make_rows (n m : Nat) (R : Nat → Nat) (hn : n ≤ 70000) (w : World) :
  (Instr.makeSlice 189 (.int .i64 (n : Int)) (.int .i64 (n : Int))).run Tryz.prog w = .ok (.slice (some ⟨w.heap.size, 0, none⟩) n n) (w.alloc (.cells (hdP n m 0 R) 76)) := by
 obtain ⟨i0, hi, hz0, hz1, hz2⟩ := info_parts info_bytes
 have h := run_make (P := Tryz.prog) (w := w) 189 76 i0 (.slice none 0 0) Tryz.underlying189 hi hz0 .i64 .i64 (n : Int) (n : Int) (by omega) (by omega) (by rw [hz2]; omega) (by omega)
 rw [h, hz1, Int.toNat_natCast, Nat.mul_one]
 show _ = _
 rw [show (Value.slice none 0 0).cells = #[.slice none 0 0] from rfl, madeCells_one, replicate_hd n m R]
def joinM (n : Nat) (x : Nat → Nat → Nat) (y : Nat → Nat) (i j : Nat) : Nat := if j < n then x i j else y i
structure JoinAt (w0 w : World) (n i : Nat) (x : Nat → Nat → Nat) (y : Nat → Nat) : Prop where
 head : Blk w w0.heap.size 76 (hdP n (n + 1) i (fun j => w0.heap.size + 1 + j))
 row : ∀ j, j < i → Blk w (w0.heap.size + 1 + j) 5 (rowArr (n + 1) (joinM n x y j))
 size : w.heap.size = w0.heap.size + 1 + i
 below : Below w0.heap.size w0 w
end Go.Proofs.YtgbehfkimchglaaGreatDoor
namespace Go.Proofs.YtgbehfkimchglaaGreatDoor
open Go.RowKit
set_option maxRecDepth 100000
set_option linter.unusedVariables false
theorem hdP_congr {n m i : Nat} {R S : Nat → Nat} (h : ∀ j, j < i → R j = S j) : hdP n m i R = hdP n m i S := by
 unfold hdP
 congr 1
 funext j
 by_cases e : j.val < i
 ·rw [if_pos e, if_pos e, h _ e]
 ·rw [if_neg e, if_neg e]
structure SumsAt (w0 w : World) (b n k j : Nat) (x : Nat → Nat → Nat) (R : Nat → Nat) : Prop where
 head : Blk w w0.heap.size 76 (hdP 3 n j R)
 row : ∀ i, i < j → w0.heap.size < R i ∧ RowG w (R i) n (M.par k i x)
 fld : Fld w b
 only : Only b w0 w
 apart : ∀ i i', i < i' → i' < j → R i ≠ R i'
theorem SumsAt.next {w0 w w3 : World} {b n k j : Nat} {x : Nat → Nat → Nat} {R : Nat → Nat} (h : SumsAt w0 w b n k j x R) (hj : j < 3) (hb : b < w0.heap.size)
  (hf : Fld w3 b) (hg : RowG w3 w.heap.size n (fun v => 0 ^^^ M.par k j x v))
  (ho : Only2 b w.heap.size ((w.alloc (.cells (rowArr n fun _ => 0) 5)).setCell ⟨w0.heap.size, j, none⟩ (.slice (some ⟨w.heap.size, 0, none⟩) n n)) w3) :
  SumsAt w0 w3 b n k (j + 1) x (fun i => if i = j then w.heap.size else R i) := by
 have hs := h.only.size
 have hlt := h.head.lt
 have sz : ((w.alloc (.cells (rowArr n fun _ => 0) 5)).setCell ⟨w0.heap.size, j, none⟩ (.slice (some ⟨w.heap.size, 0, none⟩) n n)).heap.size = w.heap.size + 1 := by simp [World.setCell]
 have hh := (h.head.alloc (.cells (rowArr n fun _ => 0) 5)).set_ j (.slice (some ⟨w.heap.size, 0, none⟩) n n)
 rw [hdP_congr (S := fun i => if i = j then w.heap.size else R i) (fun i hi => (if_neg (by omega)).symm)] at hh
 have e : (hdP 3 n j fun i => if i = j then w.heap.size else R i).setIfInBounds j (.slice (some ⟨w.heap.size, 0, none⟩) n n) = hdP 3 n (j + 1) (fun i => if i = j then w.heap.size else R i) := by
  have h1 := hdP_set (n := 3) (m := n) (R := fun i => if i = j then w.heap.size else R i) hj
  simp only [if_true] at h1
  exact h1
 rw [e] at hh
 refine ⟨(ho.block _ (by omega) (by omega) (by omega)).trans hh, fun i hi => ?_, hf, ?_, fun i i' h1 h2 => ?_⟩
 ·by_cases e2 : i = j
  ·subst e2
   simp only [if_true]
   exact ⟨hlt, hg.congr fun v _ => Nat.zero_xor _⟩
  ·simp only [if_neg e2]
   obtain ⟨h1, h2⟩ := h.row i (by omega)
   have hl := h2.lt
   refine ⟨h1, ?_⟩
   have h3 := (h2.alloc (.cells (rowArr n fun _ => 0) 5)).far (p := ⟨w0.heap.size, j, none⟩) (show R i ≠ w0.heap.size by omega) (.slice (some ⟨w.heap.size, 0, none⟩) n n)
   exact h3.heap (ho.block _ (by omega) (by omega) (by omega))
 ·have o1 : Only b w0 ((w.alloc (.cells (rowArr n fun _ => 0) 5)).setCell ⟨w0.heap.size, j, none⟩ (.slice (some ⟨w.heap.size, 0, none⟩) n n)) :=
   (h.only.alloc _).setNew (p := ⟨w0.heap.size, j, none⟩) (Nat.le_refl _) _
  exact ⟨ho.os.trans o1.os, ho.tape.trans o1.tape, ho.output.trans o1.output, Nat.le_trans o1.size ho.size, fun i hi hne =>
   (ho.block i (by omega) (fun e => hne (by rw [e])) (by omega)).trans (o1.block i hi hne)⟩
 ·have hl := (h.row i (by omega)).2.lt
  show (if i = j then w.heap.size else R i) ≠ (if i' = j then w.heap.size else R i')
  rw [if_neg (by omega)]
  by_cases e2 : i' = j
  ·rw [if_pos e2]; omega
  ·rw [if_neg e2]; exact h.apart i i' h1 (by omega)
set_option maxHeartbeats 1600000 in
theorem sums_any (b n k cd B : Nat) (A : Option Addr) (ra : Nat → Option Addr) (rl rc : Nat → Nat) (x : Nat → Nat → Nat) (w : World) (hb : Fld w b) (hr : RdR w B A k ra rl rc x) (hl : ∀ i, i < k → rl i = n)
  (hk0 : 0 < k) (hk : k ≤ 60) (hbb : B ≤ b) (hn : n ≤ 4096) (hB : B ≤ w.heap.size) :
  Calls Tryz.prog 200 #[.pointer (some ⟨b, 0, none⟩), .slice A k cd] w fun e w' => e = .returned (.slice (some ⟨w.heap.size, 0, none⟩) 3 3) ∧ ∃ R, SumsAt w w' b n k 3 x R := by
 have hmk : ∀ W : World, (Instr.makeSlice 189 (.int .i64 3) (.int .i64 3)).run Tryz.prog W = .ok (.slice (some ⟨W.heap.size, 0, none⟩) 3 3) (W.alloc (.cells (hdP 3 n 0 (fun j => w.heap.size + 1 + j)) 76)) := fun W => make_rows 3 n (fun j => w.heap.size + 1 + j) (by omega) W
 have hmb := fun W => make_bytes n (by omega) W (n : Int) rfl
 have hbl := hb.lt
 have J0 : Hid (SumsAt w (w.alloc (.cells (hdP 3 n 0 (fun j => w.heap.size + 1 + j)) 76)) b n k 0 x (fun j => w.heap.size + 1 + j)) :=
  ⟨Blk.new _ _ _, fun j hj => absurd hj (by omega), hb.alloc _, (Only.refl _ _).alloc _, fun i i' _ h => absurd h (by omega)⟩
 have HR := Lib.hid hr
 have HL := Lib.hid hl
 have HBD : Hid (B ≤ b ∧ B ≤ w.heap.size ∧ b < w.heap.size) := ⟨hbb, hB, hbl⟩
 clear hr hl hb hbb hB hbl
 go_enter Tryz.func200, Tryz.ntmps200
 go_wp2_with fail
 generalize hwz : w.heap.size = z at *
 go_loopw [10] (fun v wr => ∃ i : Nat, i ≤ 3 ∧ v = .int .i64 i ∧ ∃ R, Hid (SumsAt w wr b n k i x R)) (fun v _ => 3 - (intOf v).toNat)
 case atStart => exact ⟨0, by omega, rfl, _, J0⟩
 case round =>
  obtain ⟨i, hi, rfl, R, H⟩ := hrel
  clear J0
  by_cases hlt : i < 3
  ·have sz := H.out.only.size
   rw [hwz] at sz
   have hh := H.out.head
   rw [hwz] at hh
   have BL : Hid (Below B w wr) := H.out.only.below HBD.out.1 (by rw [hwz]; exact HBD.out.2.1)
   have XR := Lib.hid (HR.out.below BL.out (Nat.le_refl _))
   obtain ⟨bx, ox, rfl, hbx, hcx, _⟩ := XR.out 0 hk0
   rw [HL.out 0 hk0, Nat.add_zero] at hcx
   have h1 : ∀ o, (wr.alloc o).cell? ⟨z, i, none⟩ = some (.slice none 0 0) := fun o => by
    rw [(hh.alloc o).cell, hdP_get hlt, if_neg (by omega)]
   have f1 : ∀ o, (wr.alloc o).frozen? ⟨z, i, none⟩ = false := fun o => (hh.alloc o).frozen i
   have hzl := hh.lt
   have d1 : ((wr.alloc (.cells (rowArr n fun _ => 0) 5)).setCell ⟨z, i, none⟩ (.slice (some ⟨wr.heap.size, 0, none⟩) n n)).cell? ⟨z, i, none⟩ = some (.slice (some ⟨wr.heap.size, 0, none⟩) n n) := World.cell?_setCell_same _ _ _ (h1 _)
   have G1 : Hid (RowG ((wr.alloc (.cells (rowArr n fun _ => 0) 5)).setCell ⟨z, i, none⟩ (.slice (some ⟨wr.heap.size, 0, none⟩) n n)) wr.heap.size n (fun _ => 0)) :=
    RowG.far (RowG.of_blk (Blk.new wr 5 (rowArr n fun _ => 0)) (Nat.le_refl _)) (p := ⟨z, i, none⟩) (show wr.heap.size ≠ z by omega) _
   have F1 : Hid (Fld ((wr.alloc (.cells (rowArr n fun _ => 0) 5)).setCell ⟨z, i, none⟩ (.slice (some ⟨wr.heap.size, 0, none⟩) n n)) b) :=
    (H.out.fld.alloc _).far (p := ⟨z, i, none⟩) (show b ≠ z by have := HBD.out.2.2; omega) _
   have B1 : Hid (Below B wr ((wr.alloc (.cells (rowArr n fun _ => 0) 5)).setCell ⟨z, i, none⟩ (.slice (some ⟨wr.heap.size, 0, none⟩) n n))) :=
    ((Below.refl B wr).alloc (by have := HBD.out.2.1; omega) _).setCell (p := ⟨z, i, none⟩) HBD.out.2.1 _
   have X1 := Lib.hid (XR.out.below B1.out (Nat.le_refl _))
   have S1 : Hid (B ≤ ((wr.alloc (.cells (rowArr n fun _ => 0) 5)).setCell ⟨z, i, none⟩ (.slice (some ⟨wr.heap.size, 0, none⟩) n n)).heap.size) := by
    have h := HBD.out.2.1
    have e : ((wr.alloc (.cells (rowArr n fun _ => 0) 5)).setCell ⟨z, i, none⟩ (.slice (some ⟨wr.heap.size, 0, none⟩) n n)).heap.size = wr.heap.size + 1 := by simp [World.setCell]
    show B ≤ _
    rw [e]
    omega
   have HWZ := Lib.hid hwz
   have HZL := Lib.hid hzl
   clear hh BL XR hbx B1 hmk hwz hzl
   go_wp2_with fail
   refine (addData_any b wr.heap.size i n k n cd B _ ra rl rc x (fun _ => 0) _ F1.out G1.out X1.out HL.out (fun _ => (by omega)) hlt hk (by have := HBD.out.2.1; omega) HBD.out.1 (by have := HBD.out.2.2; have := HZL.out; omega) hn S1.out).mono ?_
   rintro e w3 ⟨rfl, hf3, hg3, ho3⟩
   have H3 := Lib.hid (H.out.next hlt (by rw [HWZ.out]; exact HBD.out.2.2) hf3 hg3 (by rw [HWZ.out]; exact ho3))
   clear hf3 hg3 ho3 F1 G1 X1 S1 H h1 f1 d1 hcx
   go_wp2_with fail
   go_roundw
   case rel => exact ⟨i + 1, by omega, by go_num, _, H3⟩
   case measure => simp [intOf]; omega
  ·obtain rfl : i = 3 := by omega
   have HWZ := Lib.hid hwz
   clear hmk hwz
   go_wp2_with fail
   go_ret
   exact ⟨by rw [HWZ.out]; rfl, R, H.out⟩
end Go.Proofs.YtgbehfkimchglaaGreatDoor
namespace Go.Proofs.YtgbehfkimchglaaGreatDoor
open Go.RowKit
set_option maxRecDepth 100000
set_option linter.unusedVariables false
set_option maxHeartbeats 400000 in
theorem length_nil (k cd B : Nat) (A : Option Addr) (ra : Nat → Option Addr) (rl rc : Nat → Nat) (x : Nat → Nat → Nat) (w : World) (hr : RdR w B A k ra rl rc x) (hk0 : 0 < k) :
  Calls Tryz.prog 238 #[.slice A k cd, .slice none 0 0] w fun e w' => e = .returned (.int .i64 (rl 0 : Nat)) ∧ w = w' := by
 obtain ⟨bx, ox, rfl, hbx, hcx, _⟩ := hr 0 hk0
 rw [Nat.add_zero] at hcx
 clear hr
 go_enter Tryz.func238, Tryz.ntmps238
 go_wp2
 go_loop [9] (fun x => x = .int .i64 ((0 : Nat) : Int)) (fun x => k - (intOf x).toNat)
 case atStart => rfl
 case round =>
  obtain rfl := hrel
  generalize ra 0 = r1 at *
  generalize rc 0 = c1 at *
  generalize hn : rl 0 = n at *
  have HN := Lib.hid hn
  clear hn
  go_wp2
  go_ret
  exact ⟨by rw [HN.out]; rfl, rfl⟩
def Alike (k : Nat) (rl : Nat → Nat) : Prop := 1 ≤ rl 0 ∧ rl 0 ≤ 4096 ∧ ∀ i, i < k → rl i = rl 0
set_option maxHeartbeats 400000 in
theorem alike_yes (k cd B : Nat) (A : Option Addr) (ra : Nat → Option Addr) (rl rc : Nat → Nat) (x : Nat → Nat → Nat) (w : World) (hr : RdR w B A k ra rl rc x) (hk0 : 0 < k) (hk : k ≤ 16) (ha : Alike k rl) :
  Calls Tryz.prog 199 #[.slice A k cd, .slice none 0 0] w fun e w' => e = .returned (.bool true) ∧ w = w' := by
 obtain ⟨h1, h2, h3⟩ := ha
 have HA := Lib.hid h3
 have HR := Lib.hid hr
 have t1 : ((rl 0 : Int) < 1) = False := by simp; omega
 have t2 : ((4096 : Int) < (rl 0 : Int)) = False := by simp; omega
 clear h3 hr
 go_enter Tryz.func199, Tryz.ntmps199
 go_wp2_with fail
 refine (length_nil k cd B A ra rl rc x _ HR.out hk0).mono ?_
 rintro e w1 ⟨rfl, rfl⟩
 generalize hn : rl 0 = n at *
 have HN := Lib.hid hn
 clear hn
 go_wp2_with fail
 go_loop [1, 19] (fun y x => ∃ i : Nat, i ≤ k ∧ y = .slice none 0 0 ∧ x = .int .i64 i) (fun y x => k - (intOf x).toNat)
 case atStart => exact ⟨0, by omega, rfl, rfl⟩
 case round =>
  obtain ⟨i, hi, rfl, rfl⟩ := hrel
  by_cases hlt : i < k
  ·obtain ⟨bx, ox, rfl, hbx, hcx, _⟩ := HR.out i hlt
   rw [HA.out i hlt] at hcx
   generalize ra i = r1 at *
   generalize rc i = c1 at *
   clear hbx
   go_wp2_with fail
   go_round
   case rel => exact ⟨i + 1, by omega, rfl, by go_num⟩
   case measure => simp [intOf]; omega
  ·obtain rfl : i = k := by omega
   go_wp2_with fail
   go_ret
   exact ⟨rfl, rfl⟩
end Go.Proofs.YtgbehfkimchglaaGreatDoor
namespace Go.Proofs.YtgbehfkimchglaaGreatDoor
open Go.RowKit
set_option maxRecDepth 100000
set_option linter.unusedVariables false
end Go.Proofs.YtgbehfkimchglaaGreatDoor
