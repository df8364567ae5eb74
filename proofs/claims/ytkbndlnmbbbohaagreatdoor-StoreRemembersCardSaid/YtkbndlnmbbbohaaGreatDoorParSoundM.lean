/-
 'parity.whole' by a contract. Conditions: what is handed in reads as rows of bytes, and as a row of numbers.
-/
import Derived.Test.YtkbndlnmbbbohaaGreatDoorParFaultM
import Derived.Deep.Cut
import Derived.Test.YtkbndlnmbbbohaaGreatDoorArrCallsM
import Derived.Test.YtkbndlnmbbbohaaGreatDoorFieldU8M
import Derived.Test.YtkbndlnmbbbohaaGreatDoorRackWriteM
import Derived.Laws.OwnMore
namespace Go.Proofs.YtkbndlnmbbbohaaGreatDoor
open Go Go.RowKit
set_option maxRecDepth 100000
set_option linter.unusedVariables false
def isB (m : Nat) (b : Nat → Int) (i : Nat) : Bool := (List.range m).any fun j => b j == (i : Int)
theorem isB_true {m i j : Nat} {b : Nat → Int} (hj : j < m) (h : b j = (i : Int)) : isB m b i = true := by
 unfold isB
 rw [List.any_eq_true]
 exact ⟨j, by simpa using hj, by simpa using h⟩
theorem isB_false {m i : Nat} {b : Nat → Int} (h : ∀ j, j < m → b j ≠ (i : Int)) : isB m b i = false := by
 unfold isB
 rw [List.any_eq_false]
 intro j hj
 simpa using h j (by simpa using hj)
def goodX (m : Nat) (b : Nat → Int) (x : Nat → Nat → Nat) (j : Nat) : Nat → Nat := if isB m b j then fun _ => 0 else x j
structure WholeAt (w0 w : World) (n k i : Nat) (X : Nat → Nat → Nat) : Prop where
 head : Blk w w0.heap.size 41 (hdP k n i (fun j => w0.heap.size + 1 + j))
 row : ∀ j, j < i → Blk w (w0.heap.size + 1 + j) 5 (rowArr n (X j))
 size : w.heap.size = w0.heap.size + 1 + i
 below : Below w0.heap.size w0 w
theorem WholeAt.cols {w0 w : World} {n k : Nat} {X : Nat → Nat → Nat} (h : WholeAt w0 w n k k X) (hk : k ≤ 16) (hn : n ≤ 4096) :
  Cols w w0.heap.size (.slice (some ⟨w0.heap.size, 0, none⟩) k k) k n (fun j => (some ⟨w0.heap.size + 1 + j, 0, none⟩, n, n)) (fun j => w0.heap.size + 1 + j) X := by
 refine ⟨.inr ⟨w0.heap.size, k, _, (0, 0), rfl, Nat.le_refl _, h.head, .inl (Nat.le_refl _), Nat.le_refl _, by unfold maxLen; omega, by simp [hdP], fun j hj => ?_⟩, fun j hj => ⟨n, rfl, Nat.le_refl _, by unfold maxLen; omega⟩, fun j hj => ⟨by omega, RowG.of_blk (h.row j hj) (Nat.le_refl _)⟩, fun j j' h1 h2 => by omega⟩
 rw [hdP_get hj, if_pos hj]
 rfl
theorem Left.below {w w' : World} {B B' m t q i : Nat} {v : Value} {b : Nat → Int} (h : Left w B v m t q i b) (hb : Below B' w w') (hB : B ≤ B') : Left w' B v m t q i b := by
 obtain ⟨g1, ⟨A', c', g2, g3, g4, g5⟩, g6, g7⟩ := h
 exact ⟨g1, ⟨A', c', g2, g3, g4, g5.below hb hB⟩, g6, g7⟩
theorem rowArr_ext {n : Nat} {X Y : Nat → Nat} (h : ∀ v, v < n → X v = Y v) : rowArr n X = rowArr n Y := rowArr_congr h
theorem WholeAt.next {w0 W w2 : World} {z n k i : Nat} {X : Nat → Nat → Nat} {Y : Nat → Nat} (hz : w0.heap.size = z) (hd : Blk W z 41 (hdP k n (i + 1) (fun j => z + 1 + j))) (he : ∀ j, j < i → Blk W (z + 1 + j) 5 (rowArr n (X j)))
  (hs : W.heap.size = z + 1 + i + 1) (hb0 : Below z w0 W) (hb : Blk w2 (z + 1 + i) 5 (rowArr n Y)) (ho : Only (z + 1 + i) W w2) (hs2 : w2.heap.size = W.heap.size) (hY : ∀ v, v < n → Y v = X i v) : WholeAt w0 w2 n k (i + 1) X := by
 subst hz
 refine ⟨ho.blk hd (by omega), fun j hj => ?_, by omega, hb0.trans (ho.below (by omega) (by omega))⟩
 by_cases e : j = i
 ·subst e
  rw [← rowArr_ext hY]
  exact hb
 ·exact ho.blk (he j (by omega)) (by omega)
set_option maxHeartbeats 3200000 in
theorem whole_any (k cd B m c B2 f : Nat) (A A2 : Option Addr) (ra : Nat → Option Addr) (rl rc : Nat → Nat) (x : Nat → Nat → Nat) (b : Nat → Int) (w : World) (hr : RdR w B A k ra rl rc x) (hz : RdZ w B2 A2 m b) (hB : B ≤ w.heap.size) (hB2 : B2 ≤ w.heap.size) (hmc : m ≤ c) (hcm : c ≤ maxLen) (hri : Rise m b (k : Int)) (hf : First m b f) (hfk : f < k) (hk : k ≤ 16) (hm : m ≤ 16) (ha : AlikeB k m (rl f) b rl) :
  Calls Tryz.prog 169 #[.slice A k cd, .slice A2 m c] w fun e w' => e = .returned (.slice (some ⟨w.heap.size, 0, none⟩) k k) ∧ WholeAt w w' (rl f) k k (goodX m b x) := by
 obtain ⟨h1, h2, h3⟩ := ha
 have HA := Lib.hid h3
 have HR := Lib.hid hr
 have HZ := Lib.hid hz
 have HRI := Lib.hid hri
 have HF := Lib.hid hf
 have HBB := Lib.hid (And.intro hB hB2)
 have L0 : Hid (Left w B2 (.slice A2 m c) m 0 m 0 b) := Lib.hid (Left.start hz hmc hcm hri)
 clear h3 hr hz hri hf hB hB2
 go_enter Tryz.func169, Tryz.ntmps169
 go_wp2_with fail
 refine (length_at k cd B m c B2 f A A2 ra rl rc x b _ HR.out HZ.out HF.out hfk hk hm).mono ?_
 rintro e w1 ⟨rfl, rfl⟩
 generalize hn : rl f = n at *
 have HN := Lib.hid hn
 clear hn
 have hmk : ∀ W : World, (Instr.makeSlice 139 (.int .i64 (k : Int)) (.int .i64 (k : Int))).run Tryz.prog W = .ok (.slice (some ⟨W.heap.size, 0, none⟩) k k) (W.alloc (.cells (hdP k n 0 (fun j => w.heap.size + 1 + j)) 41)) := fun W => make_rows k n (fun j => w.heap.size + 1 + j) (by omega) W
 have hmb := fun W => make_bytes n (by omega) W (n : Int) rfl
 have J0 : Hid (WholeAt w (w.alloc (.cells (hdP k n 0 (fun j => w.heap.size + 1 + j)) 41)) n k 0 (goodX m b x)) :=
  Lib.hid ⟨Blk.new _ _ _, fun j hj => absurd hj (by omega), by simp, (Below.refl _ _).alloc (Nat.le_refl _) _⟩
 go_wp2_with fail
 clear hmk
 generalize hwz : w.heap.size = z at *
 have HWZ := Lib.hid hwz
 clear hwz
 go_loopw [1, 17] (fun y x' wr => ∃ i t q : Nat, i ≤ k ∧ x' = .int .i64 i ∧ Hid (Left wr B2 y m t q i b) ∧ Hid (WholeAt w wr n k i (goodX m b x))) (fun _ x' _ => k - (intOf x').toNat)
 case atStart => exact ⟨0, 0, m, by omega, rfl, Lib.hid (by
  have h := J0.out.below
  obtain ⟨g1, ⟨A', c', g2, g3, g4, g5⟩, g6, g7⟩ := L0.out
  exact ⟨g1, ⟨A', c', g2, g3, g4, g5.below h (by rw [HWZ.out]; exact HBB.out.2)⟩, g6, g7⟩), J0⟩
 case round =>
  clear L0 J0
  obtain ⟨i, t, q, hi, rfl, L, H⟩ := hrel
  by_cases hlt : i < k
  ·have hsz := H.out.size
   rw [HWZ.out] at hsz
   have hh := H.out.head
   rw [HWZ.out] at hh
   have HBE := Lib.hid (H.out.below)
   obtain ⟨bx, ox, rfl, hbx, hcx, hrx⟩ := (HR.out.below HBE.out (by rw [HWZ.out]; exact HBB.out.1)) i hlt
   obtain ⟨A', c', rfl, hqc, hcm', hz'⟩ := L.out.row
   unfold maxLen at hcm'
   have hzl := hh.lt
   have hbz : bx < z := by have := HBB.out.1; omega
   -- the world behind the new row
   have c1 : ∀ o, (wr.alloc o).cell? ⟨z, i, none⟩ = some (.slice none 0 0) := fun o => by
    rw [(hh.alloc o).cell, hdP_get hlt, if_neg (by omega)]
   have f1 : ∀ o, (wr.alloc o).frozen? ⟨z, i, none⟩ = false := fun o => (hh.alloc o).frozen i
   obtain ⟨W, hW⟩ : ∃ W, W = (wr.alloc (.cells (rowArr n fun _ => 0) 5)).setCell ⟨z, i, none⟩ (.slice (some ⟨z + 1 + i, 0, none⟩) n n) := ⟨_, rfl⟩
   have G1 : Hid (Blk W (z + 1 + i) 5 (rowArr n fun _ => 0)) := by
    have h := (Blk.new wr 5 (rowArr n fun _ => 0)).far (p := ⟨z, i, none⟩) (show wr.heap.size ≠ z by omega) (.slice (some ⟨z + 1 + i, 0, none⟩) n n)
    rw [hW]
    rw [hsz] at h
    exact h
   have D1 : Hid (Blk W z 41 (hdP k n (i + 1) (fun j => z + 1 + j))) := by
    have h := (hh.alloc (.cells (rowArr n fun _ => 0) 5)).set_ i (.slice (some ⟨z + 1 + i, 0, none⟩) n n)
    rw [hdP_set (R := fun j => z + 1 + j) hlt] at h
    rw [hW]
    exact h
   have E1 : Hid (∀ j, j < i → Blk W (z + 1 + j) 5 (rowArr n (goodX m b x j))) := by
    intro j hj
    have h := H.out.row j hj
    rw [HWZ.out] at h
    rw [hW]
    exact (h.alloc _).far (p := ⟨z, i, none⟩) (show z + 1 + j ≠ z by omega) _
   have S1 : Hid (W.heap.size = z + 1 + i + 1) := by
    show _ = _
    rw [hW]
    simp [hsz]
   have B1 : Hid (Below z wr W) := by
    rw [hW]
    exact ((Below.refl z wr).alloc (by omega) _).setCell (p := ⟨z, i, none⟩) (Nat.le_refl _) _
   have B0 : Hid (Below z w W) := Lib.hid ((HWZ.out ▸ HBE.out).trans B1.out)
   have cx : W.cell? ⟨bx, ox + i, none⟩ = some (.slice (ra i) (rl i) (rc i)) := (B1.out.cell (p := ⟨bx, ox + i, none⟩) hbz).trans hcx
   have HRX := Lib.hid (hrx.below B1.out HBB.out.1)
   have d1 : W.cell? ⟨z, i, none⟩ = some (.slice (some ⟨z + 1 + i, 0, none⟩) n n) := by rw [D1.out.cell, hdP_get hlt, if_pos (by omega)]
   have HWW := Lib.hid hW
   have HR' := Lib.hid hz'
   clear hW hh hrx hbx
   go_upto_region 7 with (fail)
   rw [← HWW.out]
   have zl : z ≤ W.heap.size := by have := S1.out; omega
   have LW := Lib.hid (L.out.below B1.out HBB.out.2)
   clear c1 f1 hcx hmb hbz HWW hzl L
   by_cases hq : q = 0
   ·subst hq
    have hnb := LW.out.not_bad (.inl rfl) HRI.out
    rw [HA.out i hlt hnb] at cx ⊢
    have HRX2 := HRX.out
    rw [HA.out i hlt hnb] at HRX2
    have HRX3 := Lib.hid HRX2
    have L2 := Lib.hid (LW.out.keep (.inl rfl) HRI.out)
    have HGX : Hid (goodX m b x i = x i) := by unfold goodX; show _ = _; rw [isB_false hnb]; rfl
    clear hz' HRX HRX2 hnb
    generalize ra i = r1 at *
    generalize rc i = c1 at *
    go_wp2_with ((with_reducible refine wpList_copyRd rfl (.tmp 42) (.tmp 43) _ _ rfl Tryz.underlying41 (z + 1 + i) n n c1 B r1 rfl rfl (fun _ => 0) (x i) G1.out HRX3.out (Nat.le_refl _) ?_); intro w2 hb2 ho2 hs2; refine of_hid ?_)
    refine Lib.hid ?_
    have H2 := Lib.hid (WholeAt.next HWZ.out D1.out E1.out S1.out B0.out hb2 ho2 hs2 (fun v hv => by rw [if_pos hv, HGX.out]))
    have L3 := Lib.hid (L2.out.below (ho2.below (B := B2) (by have := HBB.out.2; omega) (by have := HBB.out.2; omega)) (Nat.le_refl _))
    clear hb2 ho2 hs2 L2 G1 D1 E1 B1 B0 H LW
    go_wp2_with fail
    go_roundw
    case rel => exact ⟨i + 1, t, 0, by omega, by go_num, L3, H2⟩
    case measure => simp [intOf]; omega
   ·obtain ⟨q, rfl⟩ : ∃ q', q = q' + 1 := ⟨q - 1, by omega⟩
    obtain ⟨bb, ob, rfl, hbb, hcb⟩ := hz' 0 (by omega)
    have hcb : W.cell? ⟨bb, ob, none⟩ = some (.int .i64 (b t)) := (B1.out.cell (p := ⟨bb, ob, none⟩) (by have := HBB.out.2; show bb < z; omega)).trans hcb
    by_cases hb : b t = (i : Int)
    ·have hz2 : RdZ W B2 (some ⟨bb, ob + 1, none⟩) q (fun j => b (t + 1 + j)) := fun j hj => by
      obtain ⟨b', o', e, h1, h2⟩ := (hz'.below B1.out HBB.out.2) (j + 1) (by omega)
      injection e with e
      injection e with e1 e2
      subst e1; subst e2
      refine ⟨bb, ob + 1, rfl, h1, ?_⟩
      rw [show ob + 1 + j = ob + (j + 1) by omega]
      show _ = some (Value.int .i64 (b (t + 1 + j)))
      rw [show t + 1 + j = t + (j + 1) by omega]
      exact h2
     have hz3 : q = 0 → RdZ W B2 (some ⟨bb, ob, none⟩) q (fun j => b (t + 1 + j)) := fun e j hj => absurd hj (by omega)
     have hsum := LW.out.sum
     rw [hb] at hcb
     have HZ2 := Lib.hid hz2
     have HZ3 := Lib.hid hz3
     have HB := Lib.hid hb
     have HL2 := Lib.hid (fun A c h1 h2 h3 => Lib.hid (LW.out.next (A := A) (c := c) HRI.out HB.out h1 h2 h3))
     have H2 := Lib.hid (WholeAt.next (X := goodX m b x) HWZ.out D1.out E1.out S1.out B0.out G1.out (Only.refl _ _) rfl (fun v hv => by unfold goodX; rw [isB_true (by omega) HB.out]; rfl))
     generalize ra i = r1 at *
     generalize rc i = c1 at *
     generalize rl i = l1 at *
     clear hz' hz2 hz3 hbb hb LW G1 D1 E1 B1 B0 H HRX hsum
     by_cases hc1 : c' = 1
     ·subst hc1
      obtain rfl : q = 0 := by omega
      go_wp2_with fail
      go_roundw
      case rel => exact ⟨i + 1, t + 1, 0, by omega, by go_num, HL2.out _ _ (by omega) (by unfold maxLen; omega) (HZ3.out rfl), H2⟩
      case measure => simp [intOf]; omega
     ·have hc2 : 1 < c' := by omega
      go_wp2_with fail
      go_roundw
      case rel => exact ⟨i + 1, t + 1, q, by omega, by go_num, HL2.out _ _ (by omega) (by unfold maxLen; omega) HZ2.out, H2⟩
      case measure => simp [intOf]; omega
    ·have hne : (b t == (i : Int)) = false := by rw [beq_eq_false_iff_ne]; exact hb
     have hnb := LW.out.not_bad (.inr hb) HRI.out
     rw [HA.out i hlt hnb] at cx ⊢
     have HRX2 := HRX.out
     rw [HA.out i hlt hnb] at HRX2
     have HRX3 := Lib.hid HRX2
     have L2 := Lib.hid (LW.out.keep (.inr hb) HRI.out)
     have HGX : Hid (goodX m b x i = x i) := by unfold goodX; show _ = _; rw [isB_false hnb]; rfl
     clear hz' HRX HRX2 hnb hbb hb
     generalize ra i = r1 at *
     generalize rc i = c1 at *
     generalize b t = bt at *
     go_wp2_with ((with_reducible refine wpList_copyRd rfl (.tmp 42) (.tmp 43) _ _ rfl Tryz.underlying41 (z + 1 + i) n n c1 B r1 rfl rfl (fun _ => 0) (x i) G1.out HRX3.out (Nat.le_refl _) ?_); intro w2 hb2 ho2 hs2; refine of_hid ?_)
     refine Lib.hid ?_
     have H2 := Lib.hid (WholeAt.next HWZ.out D1.out E1.out S1.out B0.out hb2 ho2 hs2 (fun v hv => by rw [if_pos hv, HGX.out]))
     have L3 := Lib.hid (L2.out.below (ho2.below (B := B2) (by have := HBB.out.2; omega) (by have := HBB.out.2; omega)) (Nat.le_refl _))
     clear hb2 ho2 hs2 L2 G1 D1 E1 B1 B0 H LW
     go_wp2_with fail
     go_roundw
     case rel => exact ⟨i + 1, t, q + 1, by omega, by go_num, L3, H2⟩
     case measure => simp [intOf]; omega
  ·obtain rfl : i = k := by omega
   go_wp2_with fail
   go_ret
   exact ⟨by rw [HWZ.out]; rfl, by rw [HN.out]; exact H.out⟩
end Go.Proofs.YtkbndlnmbbbohaaGreatDoor
namespace Go.Proofs.YtkbndlnmbbbohaaGreatDoor
open Go Go.RowKit
set_option maxRecDepth 100000
set_option linter.unusedVariables false
theorem index_rows (b o n c i : Nat) (h : i < n) (w : World) : (Instr.indexAt 139 (.slice (some ⟨b, o, none⟩) n c) (.int .i64 (i : Int))).run Tryz.prog w = .ok (.pointer (some ⟨b, o + i, none⟩)) w :=
 index_slice (P := Tryz.prog) (t := 139) (e := 41) Tryz.underlying139 (by kernel_rfl) b o n c i h w
theorem index_rows_zero (b n c i : Nat) (h : i < n) (w : World) : (Instr.indexAt 139 (.slice (some ⟨b, 0, none⟩) n c) (.int .i64 (i : Int))).run Tryz.prog w = .ok (.pointer (some ⟨b, i, none⟩)) w := by
 have h := index_rows b 0 n c i h w
 rw [Nat.zero_add] at h
 exact h
theorem RdR.head {w : World} {B n i b o : Nat} {ra : Nat → Option Addr} {rl rc : Nat → Nat} {x : Nat → Nat → Nat} (h : RdR w B (some ⟨b, o, none⟩) n ra rl rc x) (hi : i < n) : b < B ∧ w.cell? ⟨b, o + i, none⟩ = some (.slice (ra i) (rl i) (rc i)) ∧ RdB w B (ra i) (rl i) (x i) := by
 obtain ⟨b', o', q, h1, h2, h3⟩ := h i hi
 injection q with q
 injection q with q1 q2
 subst q1; subst q2
 exact ⟨h1, h2, h3⟩
theorem below_drew {B : Nat} {a w : World} (h : Below B a w) : Below B a w.drew := ⟨h.os, h.tape, h.output, h.size, h.block⟩
end Go.Proofs.YtkbndlnmbbbohaaGreatDoor
namespace Go.Proofs.YtkbndlnmbbbohaaGreatDoor
open Go Go.RowKit
set_option maxRecDepth 100000
set_option linter.unusedVariables false
theorem infoZ : (Tryz.prog.info? 3).map (fun i => (i.zero, i.size, i.bytes)) = some (some (.int .i64 0), 1, 8) := by kernel_rfl
theorem sizeOf_int (w : World) : (sizeOf 3).run Tryz.prog w = .ok 1 w := by
 obtain ⟨i0, hi, hz0, hz1, hz2⟩ := info_parts infoZ
 simp [sizeOf, typeInfo, hi, hz1]
theorem slice_toZ (A : Option Addr) (n c hi : Nat) (H : Int) (hH : H = (hi : Int)) (h : hi ≤ c) (w : World) :
  (Instr.sliceAt 22 (.slice A n c) none (some (.int .i64 H)) none).run Tryz.prog w = .ok (.slice (subA A c 0) hi c) w := by
 subst hH
 have hu : Tryz.prog.underlying 22 = some (.slice (Tryz.prog.elem 22)) := by kernel_rfl
 have he : Tryz.prog.elem 22 = 3 := by kernel_rfl
 rw [run_sliceAt_slice (P := Tryz.prog) (w := w) (h := hu), run_slice_h (P := Tryz.prog) (w := w) 22 A n c hu .i64 (hi : Int) (by omega) (by omega), he, sizeOf_int]
 simp [sliced, subA]
theorem wpList_pushZ {w : World} {ops : Array Oper} {rest : List Oper} {o : Oper} {a : Act} {Q : Exit → Act → World → Prop} (hgd : o.guard = none) (s x : Operand)
  (ho : o.op = .call { callee := .builtin .append, args := #[s, x], argTypes := #[22, 22] }) {base : Nat}
  {v : Value} {n : Nat} {xs : List Value} (hs : a.eval s = v) (hown : w.ownsRow base 3 1 v n xs) {ad : Addr} (hx : a.eval x = .slice (some ad) 1 1) {u : Int} (hc : w.cell? ad = some (.int .i64 u)) (hn : n + 1 ≤ 1000000) (hbase : base ≤ w.heap.size)
  (h : ∀ v' w', w'.ownsRow base 3 1 v' (n + 1) (xs ++ [.int .i64 u]) → w.grownBy w' v.ownBlock → wpList Tryz.prog ops Q rest (a.put o.dst v') w') : wpList Tryz.prog ops Q (o :: rest) a w := by
 obtain ⟨i0, hi0, h0, h1, h2⟩ := info_parts infoZ
 refine wpList_append_own w hgd s x 22 ho base 3 i0 (.int .i64 0) 1 8 Tryz.underlying22 hi0 h0 h1 h2 rfl (by omega) v n xs hs hown ad 1 1 [.int .i64 u] hx rfl ?_ ?_ (by simp only [maxLen]; omega) ?_ hbase (fun v' w' a1 a2 _ => h v' w' a1 a2)
 ·intro j y hj
  have hj0 : j = 0 := by
   rcases Nat.eq_zero_or_pos j with e | e
   ·exact e
   ·simp [show j ≠ 0 by omega] at hj
  subst hj0
  simp at hj
  subst hj
  rw [show ad.add 0 = ad by obtain ⟨b, o, s⟩ := ad; cases s <;> simp [Addr.add]]
  exact hc
 ·intro y hy
  simp at hy
  subst hy
  rfl
 ·omega
theorem below_grown {w0 w w' : World} {base n : Nat} {v : Value} {e : TypeId} {xs : List Value} (hb : Below base w0 w) (ho : w.ownsRow base e 1 v n xs) (hg : w.grownBy w' v.ownBlock) (hs : base ≤ w.heap.size) : Below base w0 w' :=
 hb.trans ⟨hg.os, hg.tape, hg.output, hg.size, fun k hk => hg.block k (by omega) (fun e => by
  rcases ho.2 with ⟨rfl, _⟩ | ⟨g, cap, cur, rfl, h1, _⟩
  ·cases e
  ·simp [Value.ownBlock] at e
   omega)⟩
end Go.Proofs.YtkbndlnmbbbohaaGreatDoor
namespace Go.Proofs.YtkbndlnmbbbohaaGreatDoor
open Go Go.RowKit
set_option maxRecDepth 100000
set_option linter.unusedVariables false
def sndL (m : Nat) (b : Nat → Int) (k i : Nat) : List Nat := (List.range i).filter fun j => !isB m b (k + j)
theorem sndL_bad {m k i : Nat} {b : Nat → Int} (h : isB m b (k + i) = true) : sndL m b k (i + 1) = sndL m b k i := by
 unfold sndL
 rw [List.range_succ, List.filter_append]
 simp [h]
theorem sndL_good {m k i : Nat} {b : Nat → Int} (h : isB m b (k + i) = false) : sndL m b k (i + 1) = sndL m b k i ++ [i] := by
 unfold sndL
 rw [List.range_succ, List.filter_append]
 simp [h]
theorem sndL_le (m : Nat) (b : Nat → Int) (k i : Nat) : (sndL m b k i).length ≤ i := by
 unfold sndL
 exact Nat.le_trans (List.length_filter_le _ _) (by simp)
def natL (l : List Nat) : List Value := l.map fun (j : Nat) => Value.int .i64 ((j : Nat) : Int)
theorem natL_snoc (l : List Nat) (i : Nat) : natL (l ++ [i]) = natL l ++ [.int .i64 (i : Int)] := by simp [natL]
set_option maxHeartbeats 1600000 in
theorem sound_any (k m c B : Nat) (A : Option Addr) (b : Nat → Int) (N : Int) (w : World) (hz : RdZ w B A m b) (hB : B ≤ w.heap.size) (hmc : m ≤ c) (hcm : c ≤ maxLen) (hri : Rise m b N) (hlo : ∀ i, i < m → (k : Int) ≤ b i) (hk : k ≤ 16) (hm : m ≤ 16) :
  Calls Tryz.prog 183 #[.slice A m c, .int .i64 (k : Int)] w fun e w' => ∃ v, e = .returned v ∧ w'.ownsRow w.heap.size 3 1 v (sndL m b k 3).length (natL (sndL m b k 3)) ∧ Below w.heap.size w w' := by
 have hmk : ∀ W : World, (Instr.makeSlice 22 (.int .i64 0) (.int .i64 3)).run Tryz.prog W = .ok (.slice (some ⟨W.heap.size, 0, none⟩) 0 3) (W.alloc (.cells #[.int .i64 0, .int .i64 0, .int .i64 0] 3)) := fun _ => by kernel_rfl
 have O0 : Hid ((w.alloc (.cells #[.int .i64 0, .int .i64 0, .int .i64 0] 3)).ownsRow w.heap.size 3 1 (.slice (some ⟨w.heap.size, 0, none⟩) 0 3) (sndL m b k 0).length (natL (sndL m b k 0))) :=
  Lib.hid ⟨rfl, .inr ⟨w.heap.size, 3, _, rfl, Nat.le_refl _, Blk.new w 3 _, Nat.zero_le _, by simp [maxLen], rfl, rfl⟩⟩
 have L0 : Hid (Below w.heap.size w (w.alloc (.cells #[.int .i64 0, .int .i64 0, .int .i64 0] 3))) := Lib.hid ((Below.refl _ _).alloc (Nat.le_refl _) _)
 have T0 : Hid (Left (w.alloc (.cells #[.int .i64 0, .int .i64 0, .int .i64 0] 3)) B (.slice A m c) m 0 m (k + 0) b) :=
  Lib.hid ⟨by omega, ⟨A, c, rfl, hmc, hcm, fun j hj => by
   show ∃ b_1 o, A = some ⟨b_1, o, none⟩ ∧ b_1 < B ∧ World.cell? _ ⟨b_1, o + j, none⟩ = some (.int .i64 (b (0 + j)))
   rw [Nat.zero_add]; exact hz.below L0.out hB j hj⟩, fun j hj => absurd hj (by omega), fun j _ hj => by have := hlo j hj; omega⟩
 have HRI := Lib.hid hri
 have HB := Lib.hid hB
 clear hz hri hlo hB
 go_enter Tryz.func183, Tryz.ntmps183
 go_wp2_with fail
 clear hmk
 generalize hwz : w.heap.size = z at *
 have HWZ := Lib.hid hwz
 clear hwz
 go_loopw [0, 5, 8] (fun y v x wr => ∃ j t q : Nat, x = .int .i64 j ∧ j ≤ 3 ∧ Hid (Left wr B y m t q (k + j) b) ∧ Hid (wr.ownsRow z 3 1 v (sndL m b k j).length (natL (sndL m b k j))) ∧ Hid (Below z w wr)) (fun _ _ x _ => 3 - (intOf x).toNat)
 case atStart => exact ⟨0, 0, m, rfl, by omega, T0, O0, L0⟩
 case round =>
  clear O0 L0 T0
  obtain ⟨j, t, q, rfl, hj, T1, O1, L1⟩ := hrel
  have s1 := L1.out.size
  rw [HWZ.out] at s1
  by_cases hlt : j < 3
  ·have e1 : IntKind.i64.wrap ((k : Int) + (j : Int)) = ((k + j : Nat) : Int) := by rw [IntKind.wrap_i64]; omega
   obtain ⟨A', c', rfl, hqc, hcm', hz'⟩ := T1.out.row
   unfold maxLen at hcm'
   have hbl : B ≤ wr.heap.size := Nat.le_trans HB.out s1
   -- one more that is sound
   have O2 : Hid ((wr.alloc (.cells #[.int .i64 (j : Int)] 3)).ownsRow z 3 1 u5 (sndL m b k j).length (natL (sndL m b k j))) := Lib.hid (O1.out.alloc _)
   have HC : Hid ((wr.alloc (.cells #[.int .i64 (j : Int)] 3)).cell? ⟨wr.heap.size, 0, none⟩ = some (.int .i64 (j : Int))) := by
    show _ = _
    rw [(Blk.new wr _ _).cell]
    rfl
   have hzz : z ≤ (wr.alloc (.cells #[.int .i64 (j : Int)] 3)).heap.size := by simp; omega
   have HZ := Lib.hid hzz
   have hsl := sndL_le m b k j
   clear hzz
   by_cases hq : q = 0
   ·subst hq
    have hnb := isB_false (T1.out.not_bad (.inl rfl) HRI.out)
    have HNB := Lib.hid (sndL_good hnb)
    have T2 := Lib.hid (T1.out.keep (.inl rfl) HRI.out)
    clear hz' hnb T1 O1
    go_wp2_with ((with_reducible refine wpList_pushZ rfl (.tmp 25) (.tmp 27) rfl rfl O2.out rfl HC.out (by omega) HZ.out ?_); intro v2 w2 ho2 hg2; refine of_hid ?_)
    refine Lib.hid ?_
    have L3 := Lib.hid (below_grown (L1.out.alloc (by omega) _) O2.out hg2 HZ.out)
    have O3 : Hid (w2.ownsRow z 3 1 v2 (sndL m b k (j + 1)).length (natL (sndL m b k (j + 1)))) := by rw [HNB.out, natL_snoc, List.length_append]; exact ho2
    have T3 := Lib.hid (T2.out.below (below_grown (show Below z wr _ from (Below.refl z wr).alloc (by omega) _) O2.out hg2 HZ.out) HB.out)
    clear ho2 hg2 O2 HC HZ L1 T2
    go_wp2_with fail
    go_roundw
    case rel => exact ⟨j + 1, t, 0, by go_num, by omega, T3, O3, L3⟩
    case measure => simp [intOf]; omega
   ·obtain ⟨q, rfl⟩ : ∃ q', q = q' + 1 := ⟨q - 1, by omega⟩
    obtain ⟨bb, ob, rfl, hbb, hcb⟩ := hz' 0 (by omega)
    have hcb : wr.cell? ⟨bb, ob, none⟩ = some (.int .i64 (b t)) := hcb
    by_cases hb : b t = ((k + j : Nat) : Int)
    ·have hz2 : RdZ wr B (some ⟨bb, ob + 1, none⟩) q (fun j => b (t + 1 + j)) := fun j hj => by
      obtain ⟨b', o', e, h1, h2⟩ := hz' (j + 1) (by omega)
      injection e with e
      injection e with e1 e2
      subst e1; subst e2
      refine ⟨bb, ob + 1, rfl, h1, ?_⟩
      rw [show ob + 1 + j = ob + (j + 1) by omega]
      show _ = some (Value.int .i64 (b (t + 1 + j)))
      rw [show t + 1 + j = t + (j + 1) by omega]
      exact h2
     have hz3 : q = 0 → RdZ wr B (some ⟨bb, ob, none⟩) q (fun j => b (t + 1 + j)) := fun e j hj => absurd hj (by omega)
     have hsum := T1.out.sum
     rw [hb] at hcb
     have HZ2 := Lib.hid hz2
     have HZ3 := Lib.hid hz3
     have HBT := Lib.hid hb
     have HL2 := Lib.hid (fun A c h1 h2 h3 => Lib.hid (T1.out.next (A := A) (c := c) HRI.out HBT.out h1 h2 h3))
     have O3 : Hid (wr.ownsRow z 3 1 u5 (sndL m b k (j + 1)).length (natL (sndL m b k (j + 1)))) := by rw [sndL_bad (isB_true (by omega) hb)]; exact O1
     clear hz' hz2 hz3 hbb hb T1 O1 O2 HC HZ hsum
     by_cases hc1 : c' = 1
     ·subst hc1
      obtain rfl : q = 0 := by omega
      go_wp2_with fail
      go_roundw
      case rel => exact ⟨j + 1, t + 1, 0, by go_num, by omega, HL2.out _ _ (by omega) (by unfold maxLen; omega) (HZ3.out rfl), O3, L1⟩
      case measure => simp [intOf]; omega
     ·have hc2 : 1 < c' := by omega
      go_wp2_with fail
      go_roundw
      case rel => exact ⟨j + 1, t + 1, q, by go_num, by omega, HL2.out _ _ (by omega) (by unfold maxLen; omega) HZ2.out, O3, L1⟩
      case measure => simp [intOf]; omega
    ·have hne : (b t == (k : Int) + (j : Int)) = false := by rw [beq_eq_false_iff_ne]; omega
     have hnb := isB_false (T1.out.not_bad (.inr hb) HRI.out)
     have HNB := Lib.hid (sndL_good hnb)
     have T2 := Lib.hid (T1.out.keep (.inr hb) HRI.out)
     clear hz' hnb hbb hb T1 O1
     generalize b t = bt at *
     go_wp2_with ((with_reducible refine wpList_pushZ rfl (.tmp 25) (.tmp 27) rfl rfl O2.out rfl HC.out (by omega) HZ.out ?_); intro v2 w2 ho2 hg2; refine of_hid ?_)
     refine Lib.hid ?_
     have L3 := Lib.hid (below_grown (L1.out.alloc (by omega) _) O2.out hg2 HZ.out)
     have O3 : Hid (w2.ownsRow z 3 1 v2 (sndL m b k (j + 1)).length (natL (sndL m b k (j + 1)))) := by rw [HNB.out, natL_snoc, List.length_append]; exact ho2
     have T3 := Lib.hid (T2.out.below (below_grown (show Below z wr _ from (Below.refl z wr).alloc (by omega) _) O2.out hg2 HZ.out) HB.out)
     clear ho2 hg2 O2 HC HZ L1 T2
     go_wp2_with fail
     go_roundw
     case rel => exact ⟨j + 1, t, q + 1, by go_num, by omega, T3, O3, L3⟩
     case measure => simp [intOf]; omega
  ·obtain rfl : j = 3 := by omega
   go_wp2_with fail
   go_ret
   exact ⟨_, rfl, by rw [HWZ.out]; exact O1.out, by rw [HWZ.out]; exact L1.out⟩
end Go.Proofs.YtkbndlnmbbbohaaGreatDoor
