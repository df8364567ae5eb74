/-
 'field.square' and 'field.pivot', each by a contract. Conditions: what is handed in reads as rows of bytes.
-/
import Derived.Test.YtkbndlnmbbbohaaGreatDoorFieldU8M
import Derived.Test.YtkbndlnmbbbohaaGreatDoorStoKM
import Derived.Test.YtkbndlnmbbbohaaGreatDoorParAddM
import Derived.Test.YtkbndlnmbbbohaaGreatDoorFieldGaussM
import Derived.Test.YtkbndlnmbbbohaaGreatDoorRackHasM
namespace Go.Proofs.YtkbndlnmbbbohaaGreatDoor
open Go.RowKit
set_option maxRecDepth 100000
set_option linter.unusedVariables false
def RdR (w : World) (B : Nat) (A : Option Addr) (n : Nat) (ra : Nat → Option Addr) (rl rc : Nat → Nat) (x : Nat → Nat → Nat) : Prop :=
 ∀ i, i < n → ∃ b o, A = some ⟨b, o, none⟩ ∧ b < B ∧ w.cell? ⟨b, o + i, none⟩ = some (.slice (ra i) (rl i) (rc i)) ∧ RdB w B (ra i) (rl i) (x i)
theorem RdR.below {w w' : World} {B B' : Nat} {A : Option Addr} {n : Nat} {ra : Nat → Option Addr} {rl rc : Nat → Nat} {x : Nat → Nat → Nat} (h : RdR w B A n ra rl rc x) (hb : Below B' w w') (hB : B ≤ B') : RdR w' B A n ra rl rc x := by
 intro i hi
 obtain ⟨b, o, h1, h2, h3, h4⟩ := h i hi
 exact ⟨b, o, h1, h2, (hb.cell (p := ⟨b, o + i, none⟩) (by show b < B'; omega)).trans h3, h4.below hb hB⟩
def IsSq (n m : Nat) (rl : Nat → Nat) : Prop := 1 ≤ n ∧ n ≤ 8 ∧ m = n ∧ ∀ i, i < n → rl i = n
set_option maxRecDepth 100000 in
set_option maxHeartbeats 400000 in
theorem square_yes (A A2 : Option Addr) (n c m c2 : Nat) (B : Nat) (ra : Nat → Option Addr) (rl rc : Nat → Nat) (x : Nat → Nat → Nat) (w : World) (hr : RdR w B A n ra rl rc x) (hq : IsSq n m rl) :
  Calls Tryz.prog 192 #[.slice A n c, .slice A2 m c2] w fun e w' => e = .returned (.bool true) ∧ w = w' := by
 obtain ⟨hn1, hn8, rfl, hall⟩ := hq
 have HA := Lib.hid hall
 clear hall
 obtain ⟨b, o, rfl, _⟩ := hr 0 (by omega)
 have HR : Hid (∀ i, i < m → w.cell? ⟨b, o + i, none⟩ = some (.slice (ra i) (rl i) (rc i))) := by
  intro i hi
  obtain ⟨b', o', h1, _, h3, _⟩ := hr i hi
  injection h1 with h1
  injection h1 with h1 h2
  subst h1; subst h2
  exact h3
 clear hr
 have t1 : ((m : Int) < 1) = False := by simp; omega
 have t2 : ((8 : Int) < (m : Int)) = False := by simp; omega
 go_enter Tryz.func192, Tryz.ntmps192
 go_wp2
 go_loop [24] (fun x => ∃ k : Nat, k ≤ m ∧ x = .int .i64 k) (fun x => m - (intOf x).toNat)
 case atStart => exact ⟨0, by omega, rfl⟩
 case round =>
  obtain ⟨k, hk, rfl⟩ := hrel
  by_cases hlt : k < m
  ·have hc := HR.out k hlt
   rw [HA.out k hlt] at hc
   generalize ra k = r1 at *
   generalize rc k = r2 at *
   go_wp2
   go_round
   case rel => exact ⟨k + 1, by omega, by go_num⟩
   case measure => simp [intOf]; omega
  ·obtain rfl : k = m := by omega
   go_wp2
   go_ret
   exact ⟨rfl, rfl⟩
theorem least_bad {n : Nat} {rl : Nat → Nat} (h : ¬ ∀ i, i < n → rl i = n) : ∃ i0, i0 < n ∧ rl i0 ≠ n ∧ ∀ i, i < i0 → rl i = n := by
 have aux : ∀ k, k ≤ n → (∀ i, i < k → rl i = n) ∨ ∃ i0, i0 < n ∧ rl i0 ≠ n ∧ ∀ i, i < i0 → rl i = n := by
  intro k
  induction k with
  | zero => exact fun _ => .inl fun i hi => absurd hi (by omega)
  | succ k ih =>
   intro hk
   rcases ih (by omega) with h1 | h1
   ·by_cases e : rl k = n
    ·refine .inl fun i hi => ?_
     by_cases e2 : i = k
     ·rw [e2, e]
     ·exact h1 i (by omega)
    ·exact .inr ⟨k, by omega, e, h1⟩
   ·exact .inr h1
 rcases aux n (Nat.le_refl _) with h1 | h1
 ·exact absurd h1 h
 ·exact h1
set_option maxRecDepth 100000 in
set_option maxHeartbeats 400000 in
theorem square_no (A A2 : Option Addr) (n c m c2 : Nat) (B : Nat) (ra : Nat → Option Addr) (rl rc : Nat → Nat) (x : Nat → Nat → Nat) (w : World) (hr : RdR w B A n ra rl rc x) (hq : ¬ IsSq n m rl) :
  Calls Tryz.prog 192 #[.slice A n c, .slice A2 m c2] w fun e w' => e = .returned (.bool false) ∧ w = w' := by
 by_cases h1 : n = 0
 ·subst h1
  go_enter Tryz.func192, Tryz.ntmps192
  go_wp2
  go_ret
  exact ⟨rfl, rfl⟩
 by_cases h8 : 8 < n
 ·clear hr hq
  have t1 : ((n : Int) < 1) = False := by simp; omega
  have t2 : ((8 : Int) < (n : Int)) = True := by simp; omega
  go_enter Tryz.func192, Tryz.ntmps192
  go_wp2
  go_ret
  exact ⟨rfl, rfl⟩
 have t1 : ((n : Int) < 1) = False := by simp; omega
 have t2 : ((8 : Int) < (n : Int)) = False := by simp; omega
 by_cases hm : m = n
 ·subst hm
  obtain ⟨i0, hi0, hbad, hall⟩ := least_bad (n := m) (rl := rl) (fun h => hq ⟨by omega, by omega, rfl, h⟩)
  have HA := Lib.hid hall
  have HN := Lib.hid hbad
  clear hall hq hbad
  obtain ⟨b, o, rfl, _⟩ := hr 0 (by omega)
  have HR : Hid (∀ i, i < m → w.cell? ⟨b, o + i, none⟩ = some (.slice (ra i) (rl i) (rc i))) := by
   intro i hi
   obtain ⟨b', o', h1, _, h3, _⟩ := hr i hi
   injection h1 with h1
   injection h1 with h1 h2
   subst h1; subst h2
   exact h3
  clear hr
  go_enter Tryz.func192, Tryz.ntmps192
  go_wp2
  go_loop [24] (fun x => ∃ k : Nat, k ≤ i0 ∧ x = .int .i64 k) (fun x => m - (intOf x).toNat)
  case atStart => exact ⟨0, by omega, rfl⟩
  case round =>
   obtain ⟨k, hk, rfl⟩ := hrel
   by_cases hlt : k < i0
   ·have hc := HR.out k (by omega)
    rw [HA.out k hlt] at hc
    generalize ra k = r1 at *
    generalize rc k = r2 at *
    go_wp2
    go_round
    case rel => exact ⟨k + 1, by omega, by go_num⟩
    case measure => simp [intOf]; omega
   ·obtain rfl : k = i0 := by omega
    have hc := HR.out k (by omega)
    have hne : ((rl k : Int) != (m : Int)) = true := by rw [bne_iff_ne]; have := HN.out; omega
    generalize ra k = r1 at *
    generalize rc k = r2 at *
    generalize rl k = r3 at *
    go_wp2
    go_ret
    exact ⟨rfl, rfl⟩
 ·clear hr hq
  have hne : ((m : Int) != (n : Int)) = true := by rw [bne_iff_ne]; omega
  go_enter Tryz.func192, Tryz.ntmps192
  go_wp2
  go_ret
  exact ⟨rfl, rfl⟩
end Go.Proofs.YtkbndlnmbbbohaaGreatDoor
namespace Go.Proofs.YtkbndlnmbbbohaaGreatDoor
open Go.RowKit
set_option maxRecDepth 100000
set_option linter.unusedVariables false
set_option maxHeartbeats 1600000 in
theorem addData_any (b g j n k cg cd B : Nat) (A : Option Addr) (ra : Nat → Option Addr) (rl rc : Nat → Nat) (x : Nat → Nat → Nat) (T : Nat → Nat) (w : World) (hb : Fld w b) (hg : RowG w g n T) (hr : RdR w B A k ra rl rc x) (hl : ∀ i, i < k → rl i = n)
  (hT : ∀ v, T v < 256) (hj : j < 3) (hk : k ≤ 60) (hgb : B ≤ g) (hbb : B ≤ b) (hne : g ≠ b) (hn : n ≤ 4096) (hB : B ≤ w.heap.size) :
  Calls Tryz.prog 164 #[.pointer (some ⟨b, 0, none⟩), .slice (some ⟨g, 0, none⟩) n cg, .int .i64 (j : Int), .slice A k cd] w fun e w' => e = .returned (.tuple #[]) ∧ Fld w' b ∧ RowG w' g n (fun v => T v ^^^ M.par k j x v) ∧ Only2 b g w w' := by
 have HR := Lib.hid hr
 have HL := Lib.hid hl
 have HT := Lib.hid hT
 have HNE := Lib.hid hne
 have F0 := Lib.hid hb
 have G0 : Hid (RowG w g n (fun v => T v ^^^ M.par 0 j x v)) := hg.congr fun v _ => (Nat.xor_zero _).symm
 have HBD : Hid (B ≤ g ∧ B ≤ b ∧ B ≤ w.heap.size) := ⟨hgb, hbb, hB⟩
 clear hr hl hT hne hb hg hgb hbb hB
 go_enter Tryz.func164, Tryz.ntmps164
 go_wp2_with fail
 go_loopw [12] (fun u wr => ∃ i : Nat, i ≤ k ∧ u = .int .i64 i ∧ Hid (Fld wr b) ∧ Hid (RowG wr g n (fun v => T v ^^^ M.par i j x v)) ∧ Hid (Only2 b g w wr)) (fun u _ => k - (intOf u).toNat)
 case atStart => exact ⟨0, by omega, rfl, F0, G0, Only2.refl _ _ _⟩
 case round =>
  obtain ⟨i, hi, rfl, F1, G1, O1⟩ := hrel
  clear F0 G0
  by_cases hlt : i < k
  ·have BL := Lib.hid (O1.out.below HBD.out.2.1 HBD.out.1 HBD.out.2.2)
   obtain ⟨bx, ox, rfl, hbx, hcx, hrx⟩ := (HR.out.below BL.out (Nat.le_refl _)) i hlt
   rw [HL.out i hlt] at hcx hrx
   have HRX := Lib.hid hrx
   clear hrx hbx
   generalize hra : ra i = r1 at *
   generalize hrc : rc i = c1 at *
   clear hra hrc
   go_wp2_with fail
   refine (factor_any b j i _ hj (by omega) F1.out).mono ?_
   rintro e w2 ⟨rfl, hf2, ho2⟩
   have sz := Nat.le_trans HBD.out.2.2 O1.out.size
   have F2 := Lib.hid hf2
   have G2 := Lib.hid (G1.out.only ho2 HNE.out)
   have O2 := Lib.hid (O1.out.only ho2)
   have X2 := Lib.hid (HRX.out.below (ho2.below HBD.out.2.1 sz) (Nat.le_refl _))
   have s2 := Nat.le_trans sz ho2.size
   clear hf2 ho2 F1 G1 O1 HRX BL
   have hp := M.pw_any_lt (i * j)
   generalize hpe : M.pw (i * j) = p at *
   have HPE := Lib.hid hpe
   clear hpe
   go_wp2_with fail
   refine (addTimes_any b g p n cg c1 B r1 (fun v => T v ^^^ M.par i j x v) (x i) _ F2.out G2.out X2.out (fun v => M.xor_lt (HT.out v) (M.par_lt _ _ _ _)) hp HBD.out.1 HBD.out.2.1 HNE.out hn s2).mono ?_
   rintro e w3 ⟨rfl, hf3, hg3, ho3⟩
   have F3 := Lib.hid hf3
   have G3 : Hid (RowG w3 g n (fun v => T v ^^^ M.par (i + 1) j x v)) := hg3.congr fun v _ => by
    rw [M.par_succ, HPE.out, Nat.xor_assoc]
   have O3 := Lib.hid (O2.out.trans ho3)
   clear hf3 hg3 ho3 F2 G2 O2 X2
   go_wp2_with fail
   go_roundw
   case rel => exact ⟨i + 1, by omega, by go_num, F3, G3, O3⟩
   case measure => simp [intOf]; omega
  ·obtain rfl : i = k := by omega
   go_wp2_with fail
   go_end0
   exact ⟨rfl, F1.out, G1.out, O1.out⟩
end Go.Proofs.YtkbndlnmbbbohaaGreatDoor
namespace Go.Proofs.YtkbndlnmbbbohaaGreatDoor
open Go.RowKit
set_option maxRecDepth 100000
set_option linter.unusedVariables false
def hdArr (n m : Nat) (R : Nat → Nat) : Array Value := Array.ofFn (n := n) fun i => .slice (some ⟨R i.val, 0, none⟩) m m
theorem hdArr_get {n m : Nat} {R : Nat → Nat} {i : Nat} (h : i < n) : (hdArr n m R)[i]? = some (.slice (some ⟨R i, 0, none⟩) m m) := by simp [hdArr, h]
theorem hdArr_congr {n m : Nat} {f g : Nat → Nat} (h : ∀ c, c < n → f c = g c) : hdArr n m f = hdArr n m g := by
 unfold hdArr
 congr 1
 funext c
 rw [h c.val c.isLt]
theorem hdArr_set {n m : Nat} {R : Nat → Nat} {i r : Nat} (h : i < n) : (hdArr n m R).setIfInBounds i (.slice (some ⟨r, 0, none⟩) m m) = hdArr n m (fun j => if j = i then r else R j) := by
 apply Array.ext_getElem?
 intro j
 rw [Array.getElem?_setIfInBounds]
 have hs : (hdArr n m R).size = n := by simp [hdArr]
 rw [hs]
 by_cases hj : j < n
 ·rw [hdArr_get hj, hdArr_get hj]
  by_cases e : i = j
  ·rw [if_pos e, if_pos h, if_pos e.symm]
  ·rw [if_neg e, if_neg (fun x => e x.symm)]
 ·rw [if_neg (by omega), Array.getElem?_eq_none (by rw [hs]; omega), Array.getElem?_eq_none (by simp [hdArr]; omega)]
structure Mat (w : World) (bo n : Nat) (R : Nat → Nat) (m : Nat → Nat → Nat) : Prop where
 head : Blk w bo 41 (hdArr n (n + 1) R)
 row : ∀ i, i < n → Blk w (R i) 5 (rowArr (n + 1) (m i))
 inj : ∀ i j, i < n → j < n → R i = R j → i = j
section
variable {w w' : World} {bo n : Nat} {R : Nat → Nat} {m : Nat → Nat → Nat}
theorem Mat.headCell (h : Mat w bo n R m) {i : Nat} (hi : i < n) : w.cell? ⟨bo, i, none⟩ = some (.slice (some ⟨R i, 0, none⟩) (n + 1) (n + 1)) := (h.head.cell i).trans (hdArr_get hi)
theorem Mat.cell (h : Mat w bo n R m) {i j : Nat} (hi : i < n) (hj : j ≤ n) : w.cell? ⟨R i, j, none⟩ = some (.int .u8 ((m i j : Nat) : Int)) := ((h.row i hi).cell j).trans (rowArr_get (by omega))
theorem Mat.frozen (h : Mat w bo n R m) {i : Nat} (hi : i < n) (j : Nat) : w.frozen? ⟨R i, j, none⟩ = false := (h.row i hi).frozen j
theorem Mat.drewN (h : Mat w bo n R m) (k : Nat) : Mat (w.drewN k) bo n R m := ⟨h.head, h.row, h.inj⟩
theorem Mat.ne_ (h : Mat w bo n R m) {i : Nat} (hi : i < n) : bo ≠ R i := Blk.ne_ h.head (h.row i hi) (by decide)
theorem Mat.set_ (h : Mat w bo n R m) {i j v : Nat} (hi : i < n) (hj : j ≤ n) : Mat (w.setCell ⟨R i, j, none⟩ (.int .u8 ((v : Nat) : Int))) bo n R (fun a b => if a = i ∧ b = j then v else m a b) := by
 refine ⟨h.head.far (h.ne_ hi) _, fun a ha => ?_, h.inj⟩
 by_cases e : a = i
 ·subst e
  have h1 := (h.row a ha).set_ j (.int .u8 ((v : Nat) : Int))
  rw [rowArr_set (by omega)] at h1
  have h2 : rowArr (n + 1) (fun b => if b = j then v else m a b) = rowArr (n + 1) (fun b => if a = a ∧ b = j then v else m a b) := rowArr_congr fun c _ => by simp
  rw [h2] at h1
  exact h1
 ·have h1 := (h.row a ha).far (p := ⟨R i, j, none⟩) (fun x => e (h.inj a i ha hi x)) (.int .u8 ((v : Nat) : Int))
  have h2 : rowArr (n + 1) (m a) = rowArr (n + 1) (fun b => if a = i ∧ b = j then v else m a b) := rowArr_congr fun c _ => by rw [if_neg (fun x => e x.1)]
  rw [h2] at h1
  exact h1
theorem Mat.congr {m' : Nat → Nat → Nat} (h : Mat w bo n R m) (hm : ∀ i, i < n → ∀ j, j ≤ n → m i j = m' i j) : Mat w bo n R m' :=
 ⟨h.head, fun i hi => by rw [← rowArr_congr (fun c hc => hm i hi c (by omega))]; exact h.row i hi, h.inj⟩
end
structure OnlyR (n : Nat) (R : Nat → Nat) (a w : World) : Prop where
 os : w.os = a.os
 tape : w.tape = a.tape
 output : w.output = a.output
 size : w.heap.size = a.heap.size
 block : ∀ q, (∀ i, i < n → q ≠ R i) → w.heap[q]? = a.heap[q]?
section
variable {a b c w : World} {n : Nat} {R : Nat → Nat}
theorem OnlyR.refl (n : Nat) (R : Nat → Nat) (w : World) : OnlyR n R w w := ⟨rfl, rfl, rfl, rfl, fun _ _ => rfl⟩
theorem OnlyR.drewN (h : OnlyR n R a w) (k : Nat) : OnlyR n R a (w.drewN k) := ⟨h.os, h.tape, h.output, h.size, h.block⟩
theorem OnlyR.set_ (h : OnlyR n R a w) {i : Nat} (hi : i < n) (j : Nat) (u : Value) : OnlyR n R a (w.setCell ⟨R i, j, none⟩ u) :=
 ⟨h.os, h.tape, h.output, by simpa [World.setCell] using h.size, fun q hq => (Below.heap_setCell w ⟨R i, j, none⟩ u q (hq i hi)).trans (h.block q hq)⟩
theorem OnlyR.blk (h : OnlyR n R a w) {g : Nat} {t : TypeId} {cs : Array Value} (hg : Blk a g t cs) (hne : ∀ i, i < n → g ≠ R i) : Blk w g t cs := (h.block g hne).trans hg
theorem OnlyR.below (h : OnlyR n R a w) {B : Nat} (hB : ∀ i, i < n → B ≤ R i) : Below B a w :=
 ⟨h.os, h.tape, h.output, Nat.le_of_eq h.size.symm, fun k hk => h.block k fun i hi e => by have := hB i hi; omega⟩
end
set_option maxRecDepth 100000 in
set_option maxHeartbeats 400000 in
theorem pivot_yes (bo n k p : Nat) (R : Nat → Nat) (m : Nat → Nat → Nat) (w : World) (hn : n ≤ 8) (h : Mat w bo n R m) (hkp : k ≤ p) (hp : p < n) (hne : m p k ≠ 0) (hz : ∀ i, k ≤ i → i < p → m i k = 0) :
  Calls Tryz.prog 194 #[.slice (some ⟨bo, 0, none⟩) n n, .int .i64 k] w fun e w' => e = .returned (.int .i64 p) ∧ w = w' := by
 have H := Lib.hid h
 have HZ := Lib.hid hz
 have HN := Lib.hid hne
 clear h hz hne
 go_enter Tryz.func194, Tryz.ntmps194
 go_wp2
 go_loop [5] (fun x => ∃ i : Nat, k ≤ i ∧ i ≤ p ∧ x = .int .i64 i) (fun x => n - (intOf x).toNat)
 case atStart => exact ⟨k, by omega, hkp, rfl⟩
 case round =>
  obtain ⟨i, hki, hip, rfl⟩ := hrel
  have c1 := H.out.headCell (i := i) (by omega)
  have c2 := H.out.cell (i := i) (j := k) (by omega) (by omega)
  by_cases hlt : i < p
  ·rw [HZ.out i hki hlt] at c2
   generalize R i = r at *
   go_wp2
   go_round
   case rel => exact ⟨i + 1, by omega, by omega, by go_num⟩
   case measure => simp [intOf]; omega
  ·obtain rfl : i = p := by omega
   have hv : (((m i k : Nat) : Int) != 0) = true := by rw [bne_iff_ne]; have := HN.out; omega
   generalize R i = r at *
   generalize m i k = v at *
   go_wp2
   go_ret
   exact ⟨rfl, rfl⟩
set_option maxRecDepth 100000 in
set_option maxHeartbeats 400000 in
theorem pivot_no (bo n k : Nat) (R : Nat → Nat) (m : Nat → Nat → Nat) (w : World) (hn : n ≤ 8) (hk : k < n) (h : Mat w bo n R m) (hz : ∀ i, k ≤ i → i < n → m i k = 0) :
  Calls Tryz.prog 194 #[.slice (some ⟨bo, 0, none⟩) n n, .int .i64 k] w fun e w' => e = .returned (.int .i64 (-1)) ∧ w = w' := by
 have H := Lib.hid h
 have HZ := Lib.hid hz
 clear h hz
 go_enter Tryz.func194, Tryz.ntmps194
 go_wp2
 go_loop [5] (fun x => ∃ i : Nat, k ≤ i ∧ i ≤ n ∧ x = .int .i64 i) (fun x => n - (intOf x).toNat)
 case atStart => exact ⟨k, by omega, by omega, rfl⟩
 case round =>
  obtain ⟨i, hki, hip, rfl⟩ := hrel
  by_cases hlt : i < n
  ·have c1 := H.out.headCell (i := i) (by omega)
   have c2 := H.out.cell (i := i) (j := k) (by omega) (by omega)
   rw [HZ.out i hki hlt] at c2
   generalize R i = r at *
   go_wp2
   go_round
   case rel => exact ⟨i + 1, by omega, by omega, by go_num⟩
   case measure => simp [intOf]; omega
  ·obtain rfl : i = n := by omega
   go_wp2
   go_ret
   exact ⟨rfl, rfl⟩
end Go.Proofs.YtkbndlnmbbbohaaGreatDoor
namespace Go.Proofs.YtkbndlnmbbbohaaGreatDoor
open Go.RowKit
set_option maxRecDepth 100000
set_option linter.unusedVariables false
theorem ready_full (b : Nat) (w : World) (hb : Blk w b 236 (fcells 1 0 255)) :
  Calls Tryz.prog 188 #[.pointer (some ⟨b, 0, none⟩)] w fun e w' => e = .returned (.pointer (some ⟨b, 0, none⟩)) ∧ w = w' := by
 have hmf : ∀ (fn : Fn) (first cap : Array Value) (w : World), (Instr.makeFunc fn first cap).run Tryz.prog w = .ok (.func fn first cap) w := fun _ _ _ _ => rfl
 have HB := Lib.hid hb
 clear hb
 go_enter Tryz.func188, Tryz.ntmps188
 go_wp2_with fail
 refine (do_again b _ _ HB.out).mono ?_
 rintro e w2 ⟨rfl, rfl⟩
 go_wp2_with fail
 go_ret
 exact ⟨rfl, rfl⟩
theorem full_ready {b : Nat} {w : World} (hb : Blk w b 236 (fcells 1 0 255)) : Ready (.pointer (some ⟨b, 0, none⟩)) b w (fun w' => w' = w) := by
 refine (ready_full b w hb).mono ?_
 rintro e w' ⟨rfl, rfl⟩
 exact ⟨rfl, hb, rfl⟩
theorem via_full {b : Nat} {w w' : World} (h : w = w' ∨ ∃ w2 n, w' = w2.drewN n ∧ Blk w2 b 236 (fcells 1 0 255) ∧ w2 = w) : ∃ n, w' = w.drewN n := by
 rcases h with rfl | ⟨w2, n, rfl, _, rfl⟩
 ·exact ⟨0, rfl⟩
 ·exact ⟨n, rfl⟩
theorem mul_full {b x y : Nat} (hx : x < 256) (hy : y < 256) {w : World} (hb : Blk w b 236 (fcells 1 0 255)) :
  Calls Tryz.prog 185 #[.pointer (some ⟨b, 0, none⟩), .int .u8 x, .int .u8 y] w fun e w' => e = .returned (.int .u8 (M.gmul x y : Nat)) ∧ ∃ n, w' = w.drewN n :=
 (mul_via _ b x y hx hy w _ (full_ready hb)).mono fun _ _ ⟨he, h⟩ => ⟨he, via_full h⟩
theorem inv_full {b x : Nat} (h0 : x ≠ 0) (hx : x < 256) {w : World} (hb : Blk w b 236 (fcells 1 0 255)) :
  Calls Tryz.prog 198 #[.pointer (some ⟨b, 0, none⟩), .int .u8 x] w fun e w' => e = .returned (.tuple #[.int .u8 (M.ginv x : Nat), .int .i64 0]) ∧ ∃ n, w' = w.drewN n := by
 have h := (inv_via _ b x hx w _ (full_ready hb)).mono fun _ _ ⟨he, h⟩ => (⟨he, via_full h⟩ : _ ∧ _)
 rw [if_neg h0, if_neg h0] at h
 exact h
def elim1 (m : Nat → Nat → Nat) (k iv c i j : Nat) : Nat := if i = k ∧ j < c then M.gmul (m k j) iv else m i j
def elim2 (m : Nat → Nat → Nat) (k iv i0 i j : Nat) : Nat := if i = k then M.gmul (m k j) iv else if i < i0 then m i j ^^^ M.gmul (m i k) (M.gmul (m k j) iv) else m i j
def elim3 (m : Nat → Nat → Nat) (k iv i1 c i j : Nat) : Nat := if i = i1 ∧ j < c then m i1 j ^^^ M.gmul (m i1 k) (M.gmul (m k j) iv) else elim2 m k iv i1 i j
theorem elim1_step {w : World} {bo n k iv c : Nat} {R : Nat → Nat} {m : Nat → Nat → Nat} (h : Mat w bo n R (elim1 m k iv c)) (hk : k < n) (hc : c < n + 1) (j : Nat) {r q : Nat} (hr : R k = r) (hq : m k c = q) :
  Mat ((w.drewN j).setCell ⟨r, c, none⟩ (.int .u8 ((M.gmul q iv : Nat) : Int))) bo n R (elim1 m k iv (c + 1)) := by
 subst hr; subst hq
 refine ((h.drewN j).set_ hk (by omega)).congr fun a _ b _ => ?_
 unfold elim1
 by_cases e : a = k ∧ b = c
 ·obtain ⟨rfl, rfl⟩ := e
  rw [if_pos ⟨rfl, rfl⟩, if_pos ⟨rfl, by omega⟩]
 ·rw [if_neg e]
  by_cases e2 : a = k ∧ b < c
  ·rw [if_pos e2, if_pos ⟨e2.1, by omega⟩]
  ·rw [if_neg e2, if_neg (by omega)]
theorem elim1_done {w : World} {bo n k iv : Nat} {R : Nat → Nat} {m : Nat → Nat → Nat} (h : Mat w bo n R (elim1 m k iv (n + 1))) : Mat w bo n R (elim2 m k iv 0) :=
 h.congr fun a _ b hb => by
  unfold elim1 elim2
  by_cases e : a = k
  ·subst e
   rw [if_pos ⟨rfl, by omega⟩, if_pos rfl]
  ·rw [if_neg (fun x => e x.1), if_neg e, if_neg (by omega)]
theorem elim2_skip {w : World} {bo n k iv : Nat} {R : Nat → Nat} {m : Nat → Nat → Nat} (h : Mat w bo n R (elim2 m k iv k)) : Mat w bo n R (elim2 m k iv (k + 1)) :=
 h.congr fun a _ b hb => by
  unfold elim2
  by_cases e : a = k
  ·rw [if_pos e, if_pos e]
  ·rw [if_neg e, if_neg e]
   by_cases e2 : a < k
   ·rw [if_pos e2, if_pos (by omega)]
   ·rw [if_neg e2, if_neg (by omega)]
theorem elim3_start {w : World} {bo n k iv i : Nat} {R : Nat → Nat} {m : Nat → Nat → Nat} (h : Mat w bo n R (elim2 m k iv i)) : Mat w bo n R (elim3 m k iv i 0) :=
 h.congr fun a _ b hb => by unfold elim3; rw [if_neg (by omega)]
theorem elim3_done {w : World} {bo n k iv i : Nat} {R : Nat → Nat} {m : Nat → Nat → Nat} (h : Mat w bo n R (elim3 m k iv i (n + 1))) (hik : i ≠ k) : Mat w bo n R (elim2 m k iv (i + 1)) :=
 h.congr fun a _ b hb => by
  unfold elim3 elim2
  by_cases e : a = i
  ·subst e
   rw [if_pos ⟨rfl, by omega⟩, if_neg hik, if_pos (by omega)]
  ·rw [if_neg (fun x => e x.1)]
   by_cases e1 : a = k
   ·rw [if_pos e1, if_pos e1]
   ·rw [if_neg e1, if_neg e1]
    by_cases e2 : a < i
    ·rw [if_pos e2, if_pos (by omega)]
    ·rw [if_neg e2, if_neg (by omega)]
theorem elim3_step {w : World} {bo n k iv i c : Nat} {R : Nat → Nat} {m : Nat → Nat → Nat} (h : Mat w bo n R (elim3 m k iv i c)) (hi : i < n) (hc : c < n + 1) (j : Nat) {r x y : Nat} (hr : R i = r) (hx : m i c = x) (hy : M.gmul (m i k) (M.gmul (m k c) iv) = y) :
  Mat ((w.drewN j).setCell ⟨r, c, none⟩ (.int .u8 ((x ^^^ y : Nat) : Int))) bo n R (elim3 m k iv i (c + 1)) := by
 subst hr; subst hx; subst hy
 refine ((h.drewN j).set_ hi (by omega)).congr fun a _ b _ => ?_
 unfold elim3
 by_cases e : a = i ∧ b = c
 ·obtain ⟨rfl, rfl⟩ := e
  rw [if_pos ⟨rfl, rfl⟩, if_pos ⟨rfl, by omega⟩]
 ·rw [if_neg e]
  by_cases e2 : a = i ∧ b < c
  ·rw [if_pos e2, if_pos ⟨e2.1, by omega⟩]
  ·rw [if_neg e2, if_neg (by omega)]
theorem elim2_done {w : World} {bo n k iv : Nat} {R : Nat → Nat} {m : Nat → Nat → Nat} (h : Mat w bo n R (elim2 m k iv n)) (hiv : M.ginv (m k k) = iv) : Mat w bo n R (M.elim m k) :=
 h.congr fun a ha b hb => by
  unfold elim2 M.elim
  rw [hiv]
  by_cases e : a = k
  ·rw [if_pos e, if_pos e]
  ·rw [if_neg e, if_neg e, if_pos ha]
set_option maxRecDepth 100000 in
set_option maxHeartbeats 1600000 in
theorem elim_any (b bo n k : Nat) (R : Nat → Nat) (m : Nat → Nat → Nat) (w : World) (hn : n ≤ 8) (hk : k < n) (hb : Blk w b 236 (fcells 1 0 255)) (h : Mat w bo n R m) (hs : M.Small n m) (hne : m k k ≠ 0) :
  Calls Tryz.prog 195 #[.pointer (some ⟨b, 0, none⟩), .slice (some ⟨bo, 0, none⟩) n n, .int .i64 k] w fun e w' => e = .returned (.tuple #[]) ∧ Mat w' bo n R (M.elim m k) ∧ OnlyR n R w w' := by
 have H := Lib.hid h
 have HS := Lib.hid hs
 have HB := Lib.hid hb
 have HN := Lib.hid hne
 have c1 := h.headCell hk
 have c2 := h.cell (i := k) (j := k) hk (by omega)
 have c3 := hs k hk k (by omega)
 clear h hs hb hne
 generalize hv : m k k = v at *
 have HV := Lib.hid hv
 clear hv
 generalize hr : R k = r at *
 have HR := Lib.hid hr
 clear hr
 go_enter Tryz.func195, Tryz.ntmps195
 go_wp2_with fail
 refine (inv_full HN.out c3 HB.out).mono ?_
 rintro e w1 ⟨rfl, n1, rfl⟩
 go_wp2_with fail
 have hiv := M.ginv_lt v
 go_loopw [30] (fun x wr => ∃ c : Nat, c ≤ n + 1 ∧ x = .int .i64 c ∧ Hid (Mat wr bo n R (elim1 m k (M.ginv v) c)) ∧ Hid (OnlyR n R w wr)) (fun x _ => n + 1 - (intOf x).toNat)
 case atStart => exact ⟨0, by omega, rfl, (H.out.drewN _).congr fun i _ j _ => by unfold elim1; rw [if_neg (by omega)], (OnlyR.refl _ _ _).drewN _⟩
 case round =>
  obtain ⟨c, hc, rfl, H1, O1⟩ := hrel
  by_cases hlt : c < n + 1
  ·have d1 := H1.out.headCell hk
   rw [HR.out] at d1
   have d2 := H1.out.cell (i := k) (j := c) hk (by omega)
   have d3 := H1.out.frozen hk c
   rw [HR.out] at d2 d3
   have B1 := Lib.hid (O1.out.blk HB.out (fun i hi => HB.out.ne_ (H.out.row i hi) (by decide)))
   have e1 := Lib.hid (show elim1 m k (M.ginv v) c k c = m k c from if_neg (by omega))
   rw [e1.out] at d2
   have hmk := HS.out k hk c (by omega)
   clear c1 c2
   generalize hq : m k c = q at *
   have HQ := Lib.hid hq
   clear hq
   go_wp2_with fail
   refine region_quiet_tail 16 (by kernel_rfl) (by kernel_rfl) ?_
   simp only [List.take_succ_cons, List.take_zero, List.drop_succ_cons, List.drop_zero]
   repeat (quiet_step ((go_at_call 185; exact Calls.quiet_of (mul_full hmk hiv (B1.out.drewN _)))))
   refine wpQuiet_nil ?_
   rintro _ ⟨nq, rfl⟩
   go_wp2_with fail
   have H2 : Hid (Mat ((wr.drewN nq).setCell ⟨r, c, none⟩ (.int .u8 ((M.gmul q (M.ginv v) : Nat) : Int))) bo n R (elim1 m k (M.ginv v) (c + 1))) := elim1_step H1.out hk hlt nq HR.out HQ.out
   have O2 : Hid (OnlyR n R w ((wr.drewN nq).setCell ⟨r, c, none⟩ (.int .u8 ((M.gmul q (M.ginv v) : Nat) : Int)))) := by
    have h := (O1.out.drewN nq).set_ hk c (.int .u8 ((M.gmul q (M.ginv v) : Nat) : Int))
    rw [HR.out] at h
    exact h
   go_roundw
   case rel => exact ⟨c + 1, by omega, by go_num, H2, O2⟩
   case measure => simp [intOf]; omega
  ·have H2 := Lib.hid (elim1_done (show Mat wr bo n R (elim1 m k (M.ginv v) (n + 1)) by
    have e : c = n + 1 := by omega
    rw [← e]
    exact H1.out))
   have O2 := Lib.hid O1.out
   clear H1 O1 c1 c2
   go_wp2_with fail
   obtain ⟨wa, rfl⟩ : ∃ wa : World, wa = wr := ⟨_, rfl⟩
   go_loopw [52] (fun x wr => ∃ i : Nat, i ≤ n ∧ x = .int .i64 i ∧ Hid (Mat wr bo n R (elim2 m k (M.ginv v) i)) ∧ Hid (OnlyR n R w wr)) (fun x _ => n - (intOf x).toNat)
   case atStart => exact ⟨0, by omega, rfl, H2, O2⟩
   case round =>
    obtain ⟨i, hi, rfl, H3, O3⟩ := hrel
    clear H2 O2
    by_cases hlt : i < n
    ·have d1 := H3.out.headCell hlt
     by_cases hik : i = k
     ·subst hik
      have H4 := Lib.hid (elim2_skip H3.out)
      go_wp2_with fail
      go_roundw
      case rel => exact ⟨i + 1, by omega, by go_num, H4, O3⟩
      case measure => simp [intOf]; omega
     ·have t1 : ((i : Int) == (k : Int)) = false := beq_eq_false_iff_ne.2 (by omega)
      have d2 := H3.out.cell (i := i) (j := k) hlt (by omega)
      have e1 := Lib.hid (show elim2 m k (M.ginv v) i i k = m i k by unfold elim2; rw [if_neg hik, if_neg (by omega)])
      rw [e1.out] at d2
      have hf := HS.out i hlt k (by omega)
      generalize hfq : m i k = f at *
      have HF := Lib.hid hfq
      clear hfq
      generalize hri : R i = ri at *
      have HRI := Lib.hid hri
      clear hri
      have H4 := Lib.hid (elim3_start H3.out)
      clear H3
      go_wp2_with fail
      obtain ⟨wb, rfl⟩ : ∃ wb : World, wb = wr := ⟨_, rfl⟩
      go_loopw [66] (fun x wr => ∃ c : Nat, c ≤ n + 1 ∧ x = .int .i64 c ∧ Hid (Mat wr bo n R (elim3 m k (M.ginv v) i c)) ∧ Hid (OnlyR n R w wr)) (fun x _ => n + 1 - (intOf x).toNat)
      case atStart => exact ⟨0, by omega, rfl, H4, O3⟩
      case round =>
       obtain ⟨c, hc, rfl, H5, O5⟩ := hrel
       clear H4 O3 d1 d2
       by_cases hlc : c < n + 1
       ·have g1 := H5.out.headCell hk
        rw [HR.out] at g1
        have g2 := H5.out.cell (i := k) (j := c) hk (by omega)
        rw [HR.out] at g2
        have g3 := H5.out.cell (i := i) (j := c) hlt (by omega)
        have g4 := H5.out.frozen hlt c
        rw [HRI.out] at g3 g4
        have B5 := Lib.hid (O5.out.blk HB.out (fun i hi => HB.out.ne_ (H.out.row i hi) (by decide)))
        have e2 := Lib.hid (show elim3 m k (M.ginv v) i c k c = M.gmul (m k c) (M.ginv v) by unfold elim3 elim2; rw [if_neg (by omega), if_pos rfl])
        have e3 := Lib.hid (show elim3 m k (M.ginv v) i c i c = m i c by unfold elim3 elim2; rw [if_neg (by omega), if_neg hik, if_neg (by omega)])
        rw [e2.out] at g2
        rw [e3.out] at g3
        have hx := HS.out i hlt c (by omega)
        have hy := M.gmul_lt f (M.gmul (m k c) (M.ginv v))
        have hz := M.gmul_lt (m k c) (M.ginv v)
        clear e2 e3
        generalize hxq : m i c = x at *
        have HX := Lib.hid hxq
        clear hxq
        generalize hzq : M.gmul (m k c) (M.ginv v) = z at *
        have HZ := Lib.hid hzq
        clear hzq
        have xr := u8_xor_nat x (M.gmul f z) hx hy
        go_wp2_with fail
        refine region_quiet_tail 16 (by kernel_rfl) (by kernel_rfl) ?_
        simp only [List.take_succ_cons, List.take_zero, List.drop_succ_cons, List.drop_zero]
        repeat (quiet_step ((go_at_call 185; exact Calls.quiet_of (mul_full hf hz (B5.out.drewN _)))))
        refine wpQuiet_nil ?_
        rintro _ ⟨nq, rfl⟩
        go_wp2_with fail
        have H6 : Hid (Mat ((wr.drewN nq).setCell ⟨ri, c, none⟩ (.int .u8 ((x ^^^ M.gmul f z : Nat) : Int))) bo n R (elim3 m k (M.ginv v) i (c + 1))) :=
         elim3_step H5.out hlt hlc nq HRI.out HX.out (by rw [HF.out, HZ.out])
        have O6 : Hid (OnlyR n R w ((wr.drewN nq).setCell ⟨ri, c, none⟩ (.int .u8 ((x ^^^ M.gmul f z : Nat) : Int)))) := by
         have h := (O5.out.drewN nq).set_ hlt c (.int .u8 ((x ^^^ M.gmul f z : Nat) : Int))
         rw [HRI.out] at h
         exact h
        go_roundw
        case rel => exact ⟨c + 1, by omega, by go_num, H6, O6⟩
        case measure => simp [intOf]; omega
       ·have H6 := Lib.hid (elim3_done (show Mat wr bo n R (elim3 m k (M.ginv v) i (n + 1)) by
         have e : c = n + 1 := by omega
         rw [← e]
         exact H5.out) hik)
        have O6 := Lib.hid O5.out
        clear H5 O5
        go_wp2_with fail
        go_roundw
        case rel => exact ⟨i + 1, by omega, by go_num, H6, O6⟩
        case measure => simp [intOf]; omega
    ·obtain rfl : i = n := by omega
     have H4 := Lib.hid (elim2_done H3.out (by rw [HV.out]))
     clear H3
     go_wp2_with fail
     go_end0
     exact ⟨rfl, H4.out, O3.out⟩
end Go.Proofs.YtkbndlnmbbbohaaGreatDoor
