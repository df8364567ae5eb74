/-
 'memory.remember' by a contract. The conditions: no more than 64 blocks are remembered; the block has 1 to 1024 bytes, its sum no more than 2^40.
-/
import Derived.Test.YtgbehfkimchglaaGreatDoorStoCloneM
namespace Go.Proofs.YtgbehfkimchglaaGreatDoor
open Go Go.RowKit refRack
set_option maxRecDepth 100000
set_option linter.unusedVariables false
namespace Sto
open Sp
theorem clone_off (w : World) (g o n c : Nat) (X : Nat → Nat) (hx : ∀ j, j < n → w.cell? ⟨g, o + j, none⟩ = some (.int .u8 ((X j : Nat) : Int))) (hn : n ≤ 70000) :
  Calls Tryz.prog 119 #[.slice (some ⟨g, o, none⟩) n c] w fun e w' => ∃ v, e = .returned v ∧ w'.ownsRow w.heap.size 5 1 v n (rowL n X) ∧ Below w.heap.size w w' := by
 obtain ⟨i0, hi, hz0, hz1, hz2⟩ := info_parts info_u8
 have HX := Lib.hid hx
 clear hx
 have he : ∀ w : World, (binOp .eql 76 (.slice (some ⟨g, o, none⟩) n c) (.slice none 0 0)).run Tryz.prog w = .ok (.bool false) w := by
  intro w
  simp only [binOp]
  simp [Op.equal, Op.maxDepth, Lib.run_equalIn_slice_nil w 9999 76 _ _ n c 0 0 Tryz.underlying76]
 go_enter Tryz.func119, Tryz.ntmps119
 have OW : Hid ((w.alloc (.cells #[] 5)).ownsRow w.heap.size 5 1 (.slice (some ⟨w.heap.size, 0, none⟩) 0 0) 0 []) :=
  ⟨rfl, .inr ⟨w.heap.size, 0, #[], rfl, Nat.le_refl _, (Blk.new w 5 #[]), Nat.le_refl _, by simp [maxLen], rfl, rfl⟩⟩
 go_wp2_with (at_builtin; refine wpList_append_own _ rfl (.tmp 5) (.tmp 6) 76 rfl w.heap.size 5 i0 (.int .u8 0) 1 1 Tryz.underlying76 hi hz0 hz1 hz2 rfl (by decide) _ _ _ rfl OW.out ⟨g, o, none⟩ n c (rowL n X) rfl (by simp [rowL_length]) ?_ ?_ (by simp only [maxLen]; omega) (by omega) (by simp) ?_)
 ·intro j u hj
  have hjn : j < n := by have := (List.getElem?_eq_some_iff.1 hj).1; rw [rowL_length] at this; exact this
  rw [rowL_get X hjn] at hj
  injection hj with hj
  subst hj
  have h1 := HX.out j hjn
  rw [add_plain]
  exact ((w.cell?_alloc_old _ _ (Nat.ne_of_lt (block_lt_of_cell h1))).trans h1)
 ·intro u hu
  simp only [rowL, List.mem_map] at hu
  obtain ⟨j, _, rfl⟩ := hu
  rfl
 ·intro v' w2 hv2 hg2 _
  have HV := Lib.hid hv2
  have HG := Lib.hid hg2
  clear hv2 hg2
  go_wp2_with fail
  go_ret
  refine ⟨v', rfl, ?_, ?_⟩
  ·exact HV.out
  ·exact ((Below.refl _ w).alloc (Nat.le_refl _) _).grown HG.out (by simp) (fun k hk => by
    injection hk with hk
    exact Nat.le_of_eq hk)
theorem exec_bld3 {P : Program} {a : Act} {o : Oper} {ty : TypeId} {i j k : Nat} {x y z : Operand} {u0 u1 u2 r : Value} (w : World) (e : o.op = .build ty #[(i, x), (j, y), (k, z)]) (hx : a.eval x = u0) (hy : a.eval y = u1) (hz : a.eval z = u2)
  (hl : (Instr.build ty #[(i, u0), (j, u1), (k, u2)]).run P w = .ok r w) : (execOp a.eval o).run P w = .ok (.value r) w := by
 unfold execOp; simp only [e, List.map_toArray, List.map_cons, List.map_nil, hx, hy, hz, hl, Sem.run_bind, Sem.run_pure, Result.andThen_ok]
theorem set_twice {cs : Array Value} {i : Nat} {u v : Value} : (cs.setIfInBounds i u).setIfInBounds i v = cs.setIfInBounds i v := by
 apply Array.ext_getElem?
 intro j
 simp only [Array.getElem?_setIfInBounds, Array.size_setIfInBounds]
 by_cases e : i = j
 ·simp [e]
 ·simp [e]
theorem byt_cell {w W : World} {g o : Nat} {dat : List Nat} (h : Byt w (some ⟨g, o, none⟩) dat) (hb : Below w.heap.size w W) {j : Nat} (hj : j < dat.length) : W.cell? ⟨g, o + j, none⟩ = some (.int .u8 ((dat.getD j 0 : Nat) : Int)) := by
 obtain ⟨b, q, e, h1, h2, _⟩ := h.rdb j hj
 injection e with e
 injection e with e1 e2
 subst e1 e2
 exact (hb.cell (p := ⟨g, o + j, none⟩) h1).trans h2
theorem size_slk : (Tryz.prog.info? 93).map (·.size) = some 1 := by kernel_rfl
theorem bs_kb (ad : Int) (sm : ByteArray) (A : Option Addr) (n c : Nat) (W : World) : (Instr.buildSlice 93 1 #[(0, .agg #[.int .i64 ad, .string sm, .slice A n c])]).run Tryz.prog W = .ok (.slice (some ⟨W.heap.size, 0, none⟩) 1 1) (W.alloc (.cells #[.int .i64 ad, .string sm, .slice A n c] 202)) := by kernel_rfl
def SR (p bx : Nat) (v : Value) (ad : Int) (sm : ByteArray) (w : World) : Prop := w.cell? ⟨p, 5, none⟩ = some v ∧ w.cell? ⟨bx, 0, none⟩ = some (.int .i64 ad) ∧ w.cell? ⟨bx, 3, none⟩ = some (.string sm)
section
variable {p bx : Nat} {v : Value} {ad : Int} {sm : ByteArray} {w w' : World} {B : Nat}
theorem SR.below (h : SR p bx v ad sm w) (hb : Below w.heap.size w w') : SR p bx v ad sm w' :=
 ⟨(hb.cell (p := ⟨p, 5, none⟩) (block_lt_of_cell h.1)).trans h.1, (hb.cell (p := ⟨bx, 0, none⟩) (block_lt_of_cell h.2.1)).trans h.2.1, (hb.cell (p := ⟨bx, 3, none⟩) (block_lt_of_cell h.2.2)).trans h.2.2⟩
theorem SR.grow {v8 : Value} {l : List Kx} (h : SR p bx v ad sm w) (hp : ∀ g, v.ownBlock = some g → p ≠ g) (hb : ∀ g, v.ownBlock = some g → bx ≠ g) (ho : Gr.OwnG 202 3 csK w B v l) (hg : Arr.GrowB v v8 w w') : SR p bx v ad sm w' := by
 have h1 : w'.heap[p]? = w.heap[p]? := hg.2.1 p (block_lt_of_cell h.1) (fun e => hp _ e rfl)
 have h2 : w'.heap[bx]? = w.heap[bx]? := hg.2.1 bx (block_lt_of_cell h.2.1) (fun e => hb _ e rfl)
 exact ⟨(World.cell?_of_block (a := ⟨p, 5, none⟩) h1).trans h.1, (World.cell?_of_block (a := ⟨bx, 0, none⟩) h2).trans h.2.1, (World.cell?_of_block (a := ⟨bx, 3, none⟩) h2).trans h.2.2⟩
theorem kx_new {dat : List Nat} {n c g : Nat} {cur : Array Value} (hn : n = dat.length) (hp : 0 < dat.length) (hl : dat.length ≤ 1024) (hb : ∀ x ∈ dat, x < 256) (h1 : w.heap[g]? = some (.cells cur 5 (0, 0))) (h2 : n ≤ c) (h3 : c ≤ maxLen) (h4 : cur.toList.take n = rowL n (fun j => dat.getD j 0)) :
  (⟨ad, sm, dat, some ⟨g, 0, none⟩, n, c⟩ : Kx).ok w := by
 refine ⟨hn, ⟨h2, h3⟩, hl, hb, .inr ⟨g, 0, cur, (0, 0), rfl, h1, fun j x hx => ?_⟩⟩
 have hj : j < n := by rw [hn]; exact (List.getElem?_eq_some_iff.1 hx).1
 have h5 := rowL_get (fun j => dat.getD j 0) hj
 rw [← h4, List.getElem?_take_of_lt hj, Array.getElem?_toList] at h5
 rw [Nat.zero_add, h5]
 show some (Value.int .u8 ((dat.getD j 0 : Nat) : Int)) = _
 rw [List.getD_eq_getElem?_getD, hx]
 rfl
theorem rem_end {w2 w5 w8 : World} {cs : Array Value} {v2 v8 : Value} {l2 : List Kx} {x : Kx} (hX : Blk w2 p 103 cs) (hB : B ≤ p) (hR : Row w2 B v2 l2) (hb5 : Below w2.heap.size w2 w5) (hk : x.ok w5) (ho8 : Gr.OwnG 202 3 csK w8 B v8 (l2 ++ [x])) (hb8 : Below B w5 w8) (hg8 : Arr.GrowB v2 v8 w5 w8) :
  w8.frozen? ⟨p, 5, none⟩ = false ∧ Blk (w8.setCell ⟨p, 5, none⟩ v8) p 103 (cs.setIfInBounds 5 v8) ∧ Row (w8.setCell ⟨p, 5, none⟩ v8) B v8 (l2 ++ [x]) ∧ KeepM B w2 (w8.setCell ⟨p, 5, none⟩ v8) := by
 have hpl := hX.lt
 have h25 := hb5.size
 have hne : ∀ g, v2.ownBlock = some g → p ≠ g := fun g hg => by
  obtain ⟨cur, hc⟩ := hR.own.blk_of hg
  exact hX.ne_ hc (by decide)
 have X5 : Blk w5 p 103 cs := hX.below hb5 hpl
 have X8 : Blk w8 p 103 cs := (hg8.2.1 p (by show p < w5.heap.size; omega) (fun e => hne _ e rfl)).trans X5
 have hb : ∀ (k : Nat) (cur : Array Value) (fr : Nat × Nat), w5.heap[k]? = some (.cells cur 5 fr) → w8.heap[k]? = some (.cells cur 5 fr) := fun k cur fr hk => by
  refine (hg8.2.1 k (Array.getElem?_eq_some_iff.1 hk).1 (fun e => ?_)).trans hk
  have R5 := hR.below hb5
  obtain ⟨cu, hc⟩ := R5.own.blk_of e
  rw [show w5.heap[k]? = _ from hc] at hk
  injection hk with hk
  injection hk with _ hk
  exact absurd hk (by decide)
 have hb9 : ∀ (k : Nat) (cur : Array Value) (fr : Nat × Nat), w8.heap[k]? = some (.cells cur 5 fr) → (w8.setCell ⟨p, 5, none⟩ v8).heap[k]? = some (.cells cur 5 fr) := fun k cur fr hk => by
  refine (Below.heap_setCell _ _ _ _ (fun e => ?_)).trans hk
  have e : k = p := e
  subst e
  rw [show w8.heap[k]? = _ from X8] at hk
  injection hk with hk
  injection hk with _ hk
  exact absurd hk (by decide)
 have hne8 : ∀ g, v8.ownBlock = some g → g ≠ p := fun g hg => by
  obtain ⟨cur, hc⟩ := ho8.blk_of hg
  exact hc.ne_ X8 (by decide)
 have R5 := hR.below hb5
 refine ⟨X8.frozen 5, X8.set_ 5 v8, ⟨ho8.keep fun g hg => Below.heap_setCell _ _ _ _ (hne8 g hg), fun y hy => ?_⟩, ?_⟩
 ·rcases List.mem_append.1 hy with h | h
  ·exact ((R5.ok y h).keep hb).keep hb9
  ·rw [List.mem_singleton] at h
   subst h
   exact (hk.keep hb).keep hb9
 ·have K5 : KeepM B w2 w5 := (KeepM.refl B w2).new hb5 (by omega)
  have K8 : KeepM B w5 w8 := ⟨⟨hb8.os, hb8.tape, hb8.output, hb8.size, hb8.block⟩, fun k o h1 h2 => by
   refine (hg8.2.1 k (Array.getElem?_eq_some_iff.1 h1).1 (fun e => ?_)).trans h1
   obtain ⟨cu, hc⟩ := R5.own.blk_of e
   rw [show w5.heap[k]? = _ from hc] at h1
   injection h1 with h1
   rw [← h1] at h2
   cases h2⟩
  exact (K5.trans K8).trans (KeepM.only X8 rfl (grown_set w8 p 5 v8) hB (by have := X8.lt; omega))
end
section
variable {B : Nat} {w w' : World}
set_option maxHeartbeats 3200000 in
theorem remember_any (w : World) (p : Nat) (cs : Array Value) (v : Value) (l : List Kx) (ad sz bi : Int) (sm : ByteArray) (g o n c : Nat) (dat : List Nat) (h : Blk w p 103 cs) (h5 : cs[5]? = some v) (hr : Row w B v l) (hl : l.length ≤ 64) (hB : B ≤ p) (hsm : sm.size ≤ 1000000)
  (hd : Byt w (some ⟨g, o, none⟩) dat) (hn : n = dat.length) (hp : 0 < dat.length) (hdl : dat.length ≤ 1024) :
  Calls Tryz.prog 64 #[.pointer (some ⟨p, 5, none⟩), .agg #[.int .i64 ad, .int .i64 sz, .int .i64 bi, .string sm], .slice (some ⟨g, o, none⟩) n c] w fun e w' => e = .returned (.tuple #[]) ∧ ∃ x : Kx, x.addr = ad ∧ x.sum = sm ∧ x.dat = dat ∧ MemPost B w w' p cs (old (cut ad l) ++ [x]) := by
 obtain ⟨bx, hbx⟩ : ∃ bx, bx = w.heap.size := ⟨_, rfl⟩
 obtain ⟨wa, hwa⟩ : ∃ wa, wa = w.alloc (.cells #[.int .i64 ad, .int .i64 sz, .int .i64 bi, .string sm] 73) := ⟨_, rfl⟩
 have hba : Below w.heap.size w wa := by rw [hwa]; exact (Below.refl _ _).alloc (Nat.le_refl _) _
 have XA : Hid (Blk wa p 103 cs) := Lib.hid (h.below hba h.lt)
 have XB : Hid (Blk wa bx 73 #[.int .i64 ad, .int .i64 sz, .int .i64 bi, .string sm]) := Lib.hid (by rw [hwa, hbx]; exact Blk.new _ _ _)
 have RA : Hid (Row wa B v l) := Lib.hid (hr.below hba)
 have DA : Hid (Byt wa (some ⟨g, o, none⟩) dat) := Lib.hid (hd.keep fun k cur fr hk => (hba.block k (Array.getElem?_eq_some_iff.1 hk).1).trans hk)
 have HF := Lib.hid (forget_any wa p cs v l ad XA.out h5 RA.out hl hB)
 have HBp := Lib.hid hB
 have KA : Hid (KeepM B w wa) := Lib.hid ((KeepM.refl B w).new hba (by have := h.lt; omega))
 have HSZ : Hid (sm.size ≤ 281474976710656) := Lib.hid (by omega)
 have HDN := Lib.hid hn
 have HDP := Lib.hid hp
 have HDL := Lib.hid hdl
 have HDB := Lib.hid hd.1
 have HN0 : Hid (0 < n) := Lib.hid (by omega)
 have HNB : Hid (n ≤ 70000) := Lib.hid (by omega)
 have HLL := Lib.hid hl
 have HS5 : Hid (5 < cs.size) := Lib.hid (Array.getElem?_eq_some_iff.1 h5).1
 have HWA := Lib.hid hwa
 have HBX := Lib.hid hbx
 clear h h5 hr hl hB hsm hd hn hp hdl hba hwa hbx
 go_enter Tryz.func64, Tryz.ntmps64
 go_wp2_with fail
 rw [← HWA.out, ← HBX.out]
 have qa : wa.cell? ⟨bx, 0, none⟩ = some (.int .i64 ad) := XB.out.cell 0
 go_wp2_with fail
 refine HF.out.mono ?_
 rintro e w1 ⟨rfl, v1, x1, r1, k1⟩
 have X1 := Lib.hid x1
 have R1 := Lib.hid r1
 have K1 := Lib.hid k1
 have Y1 : Hid (Blk w1 bx 73 #[.int .i64 ad, .int .i64 sz, .int .i64 bi, .string sm]) := Lib.hid (k1.kept _ _ XB.out rfl)
 have D1 : Hid (Byt w1 (some ⟨g, o, none⟩) dat) := Lib.hid (DA.out.keep fun k cur fr hk => k1.kept _ _ hk rfl)
 have h51 : (cs.setIfInBounds 5 v1)[5]? = some v1 := by rw [Array.getElem?_setIfInBounds, if_pos rfl, if_pos HS5.out]
 have H51 := Lib.hid h51
 obtain ⟨A1, c1, rfl, _⟩ := r1.own.shape (fun _ => rfl)
 have q1 : w1.cell? ⟨p, 5, none⟩ = some (.slice A1 (cut ad l).length c1) := by rw [X1.out.cell, h51]
 have HCL : Hid ((cut ad l).length ≤ 64) := Lib.hid (Nat.le_trans (cut_len ad l) HLL.out)
 have HOL : Hid (old (cut ad l) = if (cut ad l).length = 64 then (cut ad l).drop 1 else cut ad l) := Lib.hid rfl
 clear x1 r1 k1 h51 qa HF
 generalize hl1 : cut ad l = l1 at *
 generalize hm1 : l1.length = m1 at *
 have HM1 := Lib.hid hm1
 have hm64 : m1 ≤ 64 := HCL.out
 have HL1 := Lib.hid hl1
 clear hm1 hl1
 by_cases h64 : m1 = 64
 ·subst h64
  obtain ⟨g1, rfl, hg1⟩ : ∃ g1, A1 = some ⟨g1, 0, none⟩ ∧ B ≤ g1 := by
   rcases R1.out.own.2 with ⟨e, e2⟩ | ⟨g, cap, cur, e, q1, q2, _⟩
   ·have := HM1.out; omega
   ·injection e with e; exact ⟨g, e, q1⟩
  obtain ⟨gcs, hgb⟩ := R1.out.own.blk_of (g := g1) rfl
  have HGB := Lib.hid hgb
  have hol : Gr.OwnG 202 3 csK w1 B (.slice (some ⟨g1, 0, none⟩) 64 c1) l1 := R1.out.own
  have HD : Hid (Calls Tryz.prog 117 #[.slice (some ⟨g1, 0, none⟩) 64 c1, .int .i64 0, .int .i64 1] w1 fun e w' => DelPost w1 B g1 64 c1 0 l1 e w') := Lib.hid (delete_at w1 B g1 64 c1 0 1 l1 hol HM1.out.symm (by omega) rfl (by omega))
  clear hgb hol
  go_wp2_with fail
  refine HD.out.mono ?_
  rintro e w3 ⟨rfl, o3, f3⟩
  have hpg : p ≠ g1 := X1.out.ne_ HGB.out (by decide)
  have X3 : Hid (Blk w3 p 103 (cs.setIfInBounds 5 (.slice (some ⟨g1, 0, none⟩) 64 c1))) := Lib.hid ((f3.block p X1.out.lt (fun e => hpg (by injection e))).trans X1.out)
  have K3 : Hid (KeepM B w1 w3) := Lib.hid (KeepM.only HGB.out rfl f3 hg1 (by have := X1.out.lt; have := HBp.out; omega))
  have q2 : w3.cell? ⟨p, 5, none⟩ = some (.slice (some ⟨g1, 0, none⟩) 64 c1) := by rw [X3.out.cell, H51.out]
  have q3 : w3.frozen? ⟨p, 5, none⟩ = false := X3.out.frozen 5
  have R3 : Hid (Row w3 B (.slice (some ⟨g1, 0, none⟩) 63 c1) (l1.drop 1)) := Lib.hid (by
   have o3' : Gr.OwnG 202 3 csK w3 B (.slice (some ⟨g1, 0, none⟩) 63 c1) (l1.drop 1) := by simpa using o3
   exact ⟨o3', fun x hx => (R1.out.ok x (List.mem_of_mem_drop hx)).keep (only_byt HGB.out f3)⟩)
  clear o3 f3 HD q1
  go_upto_region 4 with (fail)
  obtain ⟨w2, hw2⟩ : ∃ w2, w2 = w3.setCell ⟨p, 5, none⟩ (.slice (some ⟨g1, 0, none⟩) 63 c1) := ⟨_, rfl⟩
  have hgs := grown_set w3 p 5 (.slice (some ⟨g1, 0, none⟩) 63 c1)
  have X2 : Hid (Blk w2 p 103 (cs.setIfInBounds 5 (.slice (some ⟨g1, 0, none⟩) 63 c1))) := Lib.hid (by
   rw [hw2]
   have h := X3.out.set_ 5 (.slice (some ⟨g1, 0, none⟩) 63 c1)
   rw [set_twice] at h
   exact h)
  have K2 : Hid (KeepM B w1 w2) := Lib.hid (by rw [hw2]; exact K3.out.trans (KeepM.only X3.out rfl hgs HBp.out (by have := X3.out.lt; have := HBp.out; omega)))
  have K32 : KeepM B w3 w2 := by rw [hw2]; exact KeepM.only X3.out rfl hgs HBp.out (by have := X3.out.lt; have := HBp.out; omega)
  have R2 : Hid (Row w2 B (.slice (some ⟨g1, 0, none⟩) 63 c1) (l1.drop 1)) := Lib.hid (R3.out.keep (fun g' hg' => (by
   injection hg' with hg'
   subst hg'
   rw [hw2]
   exact Below.heap_setCell _ _ _ _ (fun e => hpg e.symm))) fun k cur fr hk => K32.kept _ _ hk rfl)
  have HLE : Hid (old l1 = l1.drop 1) := Lib.hid (by have h := HOL.out; simpa using h)
  rw [← hw2]
  generalize hv2 : Value.slice (some ⟨g1, 0, none⟩) 63 c1 = v2 at *
  have HL2 : Hid ((l1.drop 1).length ≤ 1000000) := Lib.hid (by rw [List.length_drop, HM1.out]; omega)
  generalize hl2 : l1.drop 1 = l2 at *
  have Y2 : Hid (Blk w2 bx 73 #[.int .i64 ad, .int .i64 sz, .int .i64 bi, .string sm]) := Lib.hid (K2.out.kept _ _ Y1.out rfl)
  have D2 : Hid (Byt w2 (some ⟨g, o, none⟩) dat) := Lib.hid (D1.out.keep fun k cur fr hk => K2.out.kept _ _ hk rfl)
  clear hw2 hgs K32 hv2 hl2 q2 q3 R3 X3 K3 HGB hg1
  have HS0 : Hid (SR p bx v2 ad sm w2.drew) := Lib.hid ⟨by show w2.cell? _ = _; rw [X2.out.cell, Array.getElem?_setIfInBounds, if_pos rfl, if_pos HS5.out], Y2.out.cell 0, Y2.out.cell 3⟩
  have HCE : Hid (∀ W, Below w2.heap.size w2 W → ∀ j, j < n → W.cell? ⟨g, o + j, none⟩ = some (.int .u8 ((dat.getD j 0 : Nat) : Int))) := Lib.hid fun W hW j hj => byt_cell D2.out hW (by rw [← HDN.out]; exact hj)
  have HSP : Hid (∀ g, v2.ownBlock = some g → p ≠ g) := Lib.hid fun g hg => by
   obtain ⟨cu, hc⟩ := R2.out.own.blk_of hg
   exact X2.out.ne_ hc (by decide)
  have HSB : Hid (∀ g, v2.ownBlock = some g → bx ≠ g) := Lib.hid fun g hg => by
   obtain ⟨cu, hc⟩ := R2.out.own.blk_of hg
   exact Y2.out.ne_ hc (by decide)
  refine region_anyZ (SR p bx v2 ad sm) 17 (by kernel_rfl) ?_
  refine takeG 0 (.move (.tmp 0)) (some 24) none (.pointer (some ⟨p, 5, none⟩)) (by kernel_rfl) (by kernel_rfl) (by kernel_rfl) (fun _ _ _ h => h) (fun o' wq e hS => exec_move wq e (by kernel_rfl)) HS0.out ?_
  refine takeG 1 (.move (.tmp 0)) (some 25) none (.pointer (some ⟨p, 5, none⟩)) (by kernel_rfl) (by kernel_rfl) (by kernel_rfl) (fun _ _ _ h => h) (fun o' wq e hS => exec_move wq e (by kernel_rfl)) HS0.out ?_
  refine takeG 2 (.nilCheck (.tmp 25)) (some 26) none (.pointer (some ⟨p, 5, none⟩)) (by kernel_rfl) (by kernel_rfl) (by kernel_rfl) (fun _ _ _ h => h) (fun o' wq e hS => exec_nil wq e (by kernel_rfl)) HS0.out ?_
  refine takeG 3 (.fieldAddr 95 (.tmp 26) 0) (some 27) none (.pointer (some ⟨p, 5, none⟩)) (by kernel_rfl) (by kernel_rfl) (by kernel_rfl) (fun _ _ _ h => h) (fun o' wq e hS => exec_field (u := .pointer (some ⟨p, 5, none⟩)) wq e (by kernel_rfl) (by kernel_rfl)) HS0.out ?_
  refine takeG 4 (.load 93 (.tmp 27)) (some 28) none (v2) (by kernel_rfl) (by kernel_rfl) (by kernel_rfl) (fun _ _ _ h => h) (fun o' wq e hS => exec_load (x := (.tmp 27)) e (by kernel_rfl) (load_one Tryz.underlying93 (by kernel_rfl) hS.1)) HS0.out ?_
  refine takeG 5 (.fieldAddr 73 (.tmp 4) 0) (some 29) none (.pointer (some ⟨bx, 0, none⟩)) (by kernel_rfl) (by kernel_rfl) (by kernel_rfl) (fun _ _ _ h => h) (fun o' wq e hS => exec_field (u := .pointer (some ⟨bx, 0, none⟩)) wq e (by kernel_rfl) (by kernel_rfl)) HS0.out ?_
  refine takeG 6 (.load 3 (.tmp 29)) (some 30) none (.int .i64 ad) (by kernel_rfl) (by kernel_rfl) (by kernel_rfl) (fun _ _ _ h => h) (fun o' wq e hS => exec_load (x := (.tmp 29)) e (by kernel_rfl) (load_one Tryz.underlying3 (by kernel_rfl) hS.2.1)) HS0.out ?_
  refine takeG 7 (.fieldAddr 73 (.tmp 4) 3) (some 31) none (.pointer (some ⟨bx, 3, none⟩)) (by kernel_rfl) (by kernel_rfl) (by kernel_rfl) (fun _ _ _ h => h) (fun o' wq e hS => exec_field (u := .pointer (some ⟨bx, 0, none⟩)) wq e (by kernel_rfl) (by kernel_rfl)) HS0.out ?_
  refine takeG 8 (.load 9 (.tmp 31)) (some 32) none (.string sm) (by kernel_rfl) (by kernel_rfl) (by kernel_rfl) (fun _ _ _ h => h) (fun o' wq e hS => exec_load (x := (.tmp 31)) e (by kernel_rfl) (load_one Tryz.underlying9 (by kernel_rfl) hS.2.2)) HS0.out ?_
  refine takeG 10 (.move (.tmp 2)) (some 34) none (.slice (some ⟨g, o, none⟩) n c) (by kernel_rfl) (by kernel_rfl) (by kernel_rfl) (fun _ _ _ h => h) (fun o' wq e hS => exec_move wq e (by kernel_rfl)) HS0.out ?_
  refine loneG 9 (.call ⟨.value (.func 118), #[(.tmp 32)], #[9]⟩) (some 33) none (by kernel_rfl) (by kernel_rfl) (by kernel_rfl) ?_
  intro o' ho hod
  refine wp_callC (f := 118) (args := #[.string sm]) (by cases o'; cases ho; kernel_rfl) (clone_str sm _ HSZ.out) ?_
  rintro e w4 ⟨rfl, b4⟩
  refine ⟨_, rfl, ?_⟩
  rw [hod]
  clear hod ho
  have B4 : Hid (Below w2.heap.size w2 w4) := Lib.hid ((Below.refl w2.heap.size w2).drew.trans b4)
  have HS1 : Hid (SR p bx v2 ad sm w4) := Lib.hid (HS0.out.below b4)
  clear b4
  refine ⟨fun _ => HS1.out, ?_⟩
  refine loneG 11 (.call ⟨.value (.func 119), #[(.tmp 34)], #[76]⟩) (some 35) none (by kernel_rfl) (by kernel_rfl) (by kernel_rfl) ?_
  intro o' ho hod
  refine wp_callC (f := 119) (args := #[.slice (some ⟨g, o, none⟩) n c]) (by cases o'; cases ho; kernel_rfl) (clone_off _ g o n c (fun j => dat.getD j 0) (HCE.out _ (B4.out)) HNB.out) ?_
  rintro e w5 ⟨v5, rfl, o5, b5⟩
  obtain ⟨g5, c5, cur5, rfl, q5a, q5b, q5c, q5d⟩ : ∃ g c cur, v5 = .slice (some ⟨g, 0, none⟩) n c ∧ w5.heap[g]? = some (.cells cur 5 (0, 0)) ∧ n ≤ c ∧ c ≤ maxLen ∧ cur.toList.take n = rowL n (fun j => dat.getD j 0) := by
   rcases o5.2 with ⟨_, e⟩ | ⟨g, cap, cur, e, _, h1, h2, h3, _, h4⟩
   ·have := HN0.out; omega
   ·exact ⟨g, cap, cur, e, h1, h2, h3, by rw [Nat.mul_one] at h4; exact h4⟩
  refine ⟨_, rfl, ?_⟩
  rw [hod]
  clear hod ho
  have B5 : Hid (Below w2.heap.size w2 w5) := Lib.hid (B4.out.trans (b5.mono B4.out.size))
  have HS2 : Hid (SR p bx v2 ad sm w5) := Lib.hid (HS1.out.below b5)
  have HK5 : Hid ((⟨ad, sm, dat, some ⟨g5, 0, none⟩, n, c5⟩ : Kx).ok w5) := Lib.hid (kx_new HDN.out HDP.out HDL.out HDB.out q5a q5b q5c q5d)
  clear b5 o5 q5a q5b q5c q5d
  refine ⟨fun _ => HS2.out, ?_⟩
  refine takeG 12 (.build 202 #[(0, (.tmp 30)), (1, (.tmp 33)), (2, (.tmp 35))]) (some 36) none (.agg #[.int .i64 ad, .string sm, .slice (some ⟨g5, 0, none⟩) n c5]) (by kernel_rfl) (by kernel_rfl) (by kernel_rfl) (fun _ _ _ h => h) (fun o' wq e hS => exec_bld3 (u0 := .int .i64 ad) (u1 := .string sm) (u2 := .slice (some ⟨g5, 0, none⟩) n c5) wq e (by kernel_rfl) (by kernel_rfl) (by kernel_rfl) (by kernel_rfl)) HS2.out ?_
  refine loneG 13 (.buildSlice 93 1 #[(0, (.tmp 36))]) (some 37) none (by kernel_rfl) (by kernel_rfl) (by kernel_rfl) ?_
  intro o' ho hod
  refine wp_val (exec_buildSlice1 ho (by kernel_rfl) (bs_kb ad sm (some ⟨g5, 0, none⟩) n c5 _)) ?_
  rw [hod]
  clear hod ho
  have hbx : Below w5.heap.size w5 (w5.alloc (.cells #[.int .i64 ad, .string sm, .slice (some ⟨g5, 0, none⟩) n c5] 202)) := (Below.refl w5.heap.size w5).alloc (Nat.le_refl _) _
  have HS3 : Hid (SR p bx v2 ad sm (w5.alloc (.cells #[.int .i64 ad, .string sm, .slice (some ⟨g5, 0, none⟩) n c5] 202))) := Lib.hid (HS2.out.below hbx)
  clear hbx
  refine ⟨fun _ => HS3.out, ?_⟩
  refine loneG 14 (.call ⟨.builtin .append, #[(.tmp 28), (.tmp 37)], #[93, 93]⟩) (some 38) none (by kernel_rfl) (by kernel_rfl) (by kernel_rfl) ?_
  intro o' ho hod
  have hd5 : Gr.OwnG 202 3 csK w5 B v2 l2 := R2.out.own.below (B5.out) (Nat.le_refl _)
  obtain ⟨v8, w8, hrun, ho8, hb8, hg8⟩ := Arr.app1 (E := 202) (T := 93) (k := 3) (cs := csK) (fun _ => rfl) csK_one Tryz.underlying93 info_kb rfl (by omega) (by omega) hd5 (⟨ad, sm, dat, some ⟨g5, 0, none⟩, n, c5⟩ : Kx) HL2.out (by have h1 := B5.out.size; have h2 := X2.out.lt; have h3 := HBp.out; show B ≤ w5.heap.size; omega) o'.type
  refine Gr.wp_append 93 (.tmp 28) (.tmp 37) ho (by kernel_rfl) (by kernel_rfl) hrun ?_
  rw [hod]
  clear hod ho
  have HEND := Lib.hid (rem_end (B := B) X2.out HBp.out R2.out B5.out HK5.out ho8 hb8 hg8)
  have HS4 : Hid (SR p bx v2 ad sm w8) := Lib.hid (HS2.out.grow HSP.out HSB.out hd5 hg8)
  have hvc : v8.cells = #[v8] ∧ v8.oneCell' = true := by
   obtain ⟨A9, c9, e9, _⟩ := ho8.shape (fun _ => rfl)
   rw [e9]
   exact ⟨rfl, rfl⟩
  have HVC := Lib.hid hvc
  clear hvc hrun ho8 hb8 hg8 hd5
  refine ⟨fun _ => HS4.out, ?_⟩
  refine loneG 15 (.nilCheck (.tmp 24)) (some 39) none (by kernel_rfl) (by kernel_rfl) (by kernel_rfl) ?_
  intro o' ho hod
  refine wp_val (v := .pointer (some ⟨p, 5, none⟩)) (exec_nil _ ho (by kernel_rfl)) ?_
  rw [hod]
  clear hod ho
  refine ⟨fun _ => HS4.out, ?_⟩
  refine loneG 16 (.fieldAddr 95 (.tmp 39) 0) (some 40) none (by kernel_rfl) (by kernel_rfl) (by kernel_rfl) ?_
  intro o' ho hod
  refine wp_val (v := .pointer (some ⟨p, 5, none⟩)) (exec_field (u := .pointer (some ⟨p, 5, none⟩)) _ ho (by kernel_rfl) (by kernel_rfl)) ?_
  rw [hod]
  clear hod ho
  refine ⟨fun _ => HS4.out, ?_⟩
  refine lastStore 17 93 (.tmp 40) (.tmp 38) (.pointer (some ⟨p, 5, none⟩)) v8 _ (by kernel_rfl) (by kernel_rfl) (by kernel_rfl) rfl (by kernel_rfl) (by kernel_rfl) (store_one size_slk HVC.out.1 HVC.out.2 (by rw [HS4.out.1]; rfl) HEND.out.1 (by rw [add_plain])) ?_
  simp only [put_some, put_none, List.setIfInBounds_toArray, List.set_cons_succ, List.set_cons_zero]
  go_wp2_with fail
  first | go_end0 | (simp only [Exit.inBlock, Exit.then]; refine bodyPost_ret (results_none rfl _ _ _) rfl ?_) | refine bodyPost_ret (results_none rfl _ _ _) rfl ?_
  have hX := HEND.out.2.1
  rw [set_twice] at hX
  refine ⟨rfl, ⟨ad, sm, dat, some ⟨g5, 0, none⟩, n, c5⟩, rfl, rfl, rfl, v8, hX, ?_, ((KA.out.trans K1.out).trans K2.out).trans HEND.out.2.2.2⟩
  rw [HL1.out, HLE.out]
  exact HEND.out.2.2.1
 ·have t64 : ((m1 : Int) == 64) = false := by rw [beq_eq_false_iff_ne]; omega
  have HLE : Hid (old l1 = l1) := Lib.hid (by rw [HOL.out, if_neg h64])
  clear h64
  have HL2 : Hid (l1.length ≤ 1000000) := Lib.hid (by rw [HM1.out]; omega)
  go_upto_region 4 with (fail)
  obtain ⟨w2, hw2⟩ : ∃ w2, w2 = w1 := ⟨_, rfl⟩
  have X2 : Hid (Blk w2 p 103 (cs.setIfInBounds 5 (.slice A1 m1 c1))) := Lib.hid (by rw [hw2]; exact X1.out)
  have R2 : Hid (Row w2 B (.slice A1 m1 c1) l1) := Lib.hid (by rw [hw2]; exact R1.out)
  have K2 : Hid (KeepM B w1 w2) := Lib.hid (by rw [hw2]; exact KeepM.refl _ _)
  have Y2 : Hid (Blk w2 bx 73 #[.int .i64 ad, .int .i64 sz, .int .i64 bi, .string sm]) := Lib.hid (by rw [hw2]; exact Y1.out)
  have D2 : Hid (Byt w2 (some ⟨g, o, none⟩) dat) := Lib.hid (by rw [hw2]; exact D1.out)
  rw [← hw2]
  generalize hv2 : Value.slice A1 m1 c1 = v2 at *
  clear hw2 hv2 q1 t64
  have HS0 : Hid (SR p bx v2 ad sm w2.drew) := Lib.hid ⟨by show w2.cell? _ = _; rw [X2.out.cell, Array.getElem?_setIfInBounds, if_pos rfl, if_pos HS5.out], Y2.out.cell 0, Y2.out.cell 3⟩
  have HCE : Hid (∀ W, Below w2.heap.size w2 W → ∀ j, j < n → W.cell? ⟨g, o + j, none⟩ = some (.int .u8 ((dat.getD j 0 : Nat) : Int))) := Lib.hid fun W hW j hj => byt_cell D2.out hW (by rw [← HDN.out]; exact hj)
  have HSP : Hid (∀ g, v2.ownBlock = some g → p ≠ g) := Lib.hid fun g hg => by
   obtain ⟨cu, hc⟩ := R2.out.own.blk_of hg
   exact X2.out.ne_ hc (by decide)
  have HSB : Hid (∀ g, v2.ownBlock = some g → bx ≠ g) := Lib.hid fun g hg => by
   obtain ⟨cu, hc⟩ := R2.out.own.blk_of hg
   exact Y2.out.ne_ hc (by decide)
  generalize hl2 : l1 = l2 at *
  clear hl2
  refine region_anyZ (SR p bx v2 ad sm) 17 (by kernel_rfl) ?_
  refine takeG 0 (.move (.tmp 0)) (some 24) none (.pointer (some ⟨p, 5, none⟩)) (by kernel_rfl) (by kernel_rfl) (by kernel_rfl) (fun _ _ _ h => h) (fun o' wq e hS => exec_move wq e (by kernel_rfl)) HS0.out ?_
  refine takeG 1 (.move (.tmp 0)) (some 25) none (.pointer (some ⟨p, 5, none⟩)) (by kernel_rfl) (by kernel_rfl) (by kernel_rfl) (fun _ _ _ h => h) (fun o' wq e hS => exec_move wq e (by kernel_rfl)) HS0.out ?_
  refine takeG 2 (.nilCheck (.tmp 25)) (some 26) none (.pointer (some ⟨p, 5, none⟩)) (by kernel_rfl) (by kernel_rfl) (by kernel_rfl) (fun _ _ _ h => h) (fun o' wq e hS => exec_nil wq e (by kernel_rfl)) HS0.out ?_
  refine takeG 3 (.fieldAddr 95 (.tmp 26) 0) (some 27) none (.pointer (some ⟨p, 5, none⟩)) (by kernel_rfl) (by kernel_rfl) (by kernel_rfl) (fun _ _ _ h => h) (fun o' wq e hS => exec_field (u := .pointer (some ⟨p, 5, none⟩)) wq e (by kernel_rfl) (by kernel_rfl)) HS0.out ?_
  refine takeG 4 (.load 93 (.tmp 27)) (some 28) none (v2) (by kernel_rfl) (by kernel_rfl) (by kernel_rfl) (fun _ _ _ h => h) (fun o' wq e hS => exec_load (x := (.tmp 27)) e (by kernel_rfl) (load_one Tryz.underlying93 (by kernel_rfl) hS.1)) HS0.out ?_
  refine takeG 5 (.fieldAddr 73 (.tmp 4) 0) (some 29) none (.pointer (some ⟨bx, 0, none⟩)) (by kernel_rfl) (by kernel_rfl) (by kernel_rfl) (fun _ _ _ h => h) (fun o' wq e hS => exec_field (u := .pointer (some ⟨bx, 0, none⟩)) wq e (by kernel_rfl) (by kernel_rfl)) HS0.out ?_
  refine takeG 6 (.load 3 (.tmp 29)) (some 30) none (.int .i64 ad) (by kernel_rfl) (by kernel_rfl) (by kernel_rfl) (fun _ _ _ h => h) (fun o' wq e hS => exec_load (x := (.tmp 29)) e (by kernel_rfl) (load_one Tryz.underlying3 (by kernel_rfl) hS.2.1)) HS0.out ?_
  refine takeG 7 (.fieldAddr 73 (.tmp 4) 3) (some 31) none (.pointer (some ⟨bx, 3, none⟩)) (by kernel_rfl) (by kernel_rfl) (by kernel_rfl) (fun _ _ _ h => h) (fun o' wq e hS => exec_field (u := .pointer (some ⟨bx, 0, none⟩)) wq e (by kernel_rfl) (by kernel_rfl)) HS0.out ?_
  refine takeG 8 (.load 9 (.tmp 31)) (some 32) none (.string sm) (by kernel_rfl) (by kernel_rfl) (by kernel_rfl) (fun _ _ _ h => h) (fun o' wq e hS => exec_load (x := (.tmp 31)) e (by kernel_rfl) (load_one Tryz.underlying9 (by kernel_rfl) hS.2.2)) HS0.out ?_
  refine takeG 10 (.move (.tmp 2)) (some 34) none (.slice (some ⟨g, o, none⟩) n c) (by kernel_rfl) (by kernel_rfl) (by kernel_rfl) (fun _ _ _ h => h) (fun o' wq e hS => exec_move wq e (by kernel_rfl)) HS0.out ?_
  refine loneG 9 (.call ⟨.value (.func 118), #[(.tmp 32)], #[9]⟩) (some 33) none (by kernel_rfl) (by kernel_rfl) (by kernel_rfl) ?_
  intro o' ho hod
  refine wp_callC (f := 118) (args := #[.string sm]) (by cases o'; cases ho; kernel_rfl) (clone_str sm _ HSZ.out) ?_
  rintro e w4 ⟨rfl, b4⟩
  refine ⟨_, rfl, ?_⟩
  rw [hod]
  clear hod ho
  have B4 : Hid (Below w2.heap.size w2 w4) := Lib.hid ((Below.refl w2.heap.size w2).drew.trans b4)
  have HS1 : Hid (SR p bx v2 ad sm w4) := Lib.hid (HS0.out.below b4)
  clear b4
  refine ⟨fun _ => HS1.out, ?_⟩
  refine loneG 11 (.call ⟨.value (.func 119), #[(.tmp 34)], #[76]⟩) (some 35) none (by kernel_rfl) (by kernel_rfl) (by kernel_rfl) ?_
  intro o' ho hod
  refine wp_callC (f := 119) (args := #[.slice (some ⟨g, o, none⟩) n c]) (by cases o'; cases ho; kernel_rfl) (clone_off _ g o n c (fun j => dat.getD j 0) (HCE.out _ (B4.out)) HNB.out) ?_
  rintro e w5 ⟨v5, rfl, o5, b5⟩
  obtain ⟨g5, c5, cur5, rfl, q5a, q5b, q5c, q5d⟩ : ∃ g c cur, v5 = .slice (some ⟨g, 0, none⟩) n c ∧ w5.heap[g]? = some (.cells cur 5 (0, 0)) ∧ n ≤ c ∧ c ≤ maxLen ∧ cur.toList.take n = rowL n (fun j => dat.getD j 0) := by
   rcases o5.2 with ⟨_, e⟩ | ⟨g, cap, cur, e, _, h1, h2, h3, _, h4⟩
   ·have := HN0.out; omega
   ·exact ⟨g, cap, cur, e, h1, h2, h3, by rw [Nat.mul_one] at h4; exact h4⟩
  refine ⟨_, rfl, ?_⟩
  rw [hod]
  clear hod ho
  have B5 : Hid (Below w2.heap.size w2 w5) := Lib.hid (B4.out.trans (b5.mono B4.out.size))
  have HS2 : Hid (SR p bx v2 ad sm w5) := Lib.hid (HS1.out.below b5)
  have HK5 : Hid ((⟨ad, sm, dat, some ⟨g5, 0, none⟩, n, c5⟩ : Kx).ok w5) := Lib.hid (kx_new HDN.out HDP.out HDL.out HDB.out q5a q5b q5c q5d)
  clear b5 o5 q5a q5b q5c q5d
  refine ⟨fun _ => HS2.out, ?_⟩
  refine takeG 12 (.build 202 #[(0, (.tmp 30)), (1, (.tmp 33)), (2, (.tmp 35))]) (some 36) none (.agg #[.int .i64 ad, .string sm, .slice (some ⟨g5, 0, none⟩) n c5]) (by kernel_rfl) (by kernel_rfl) (by kernel_rfl) (fun _ _ _ h => h) (fun o' wq e hS => exec_bld3 (u0 := .int .i64 ad) (u1 := .string sm) (u2 := .slice (some ⟨g5, 0, none⟩) n c5) wq e (by kernel_rfl) (by kernel_rfl) (by kernel_rfl) (by kernel_rfl)) HS2.out ?_
  refine loneG 13 (.buildSlice 93 1 #[(0, (.tmp 36))]) (some 37) none (by kernel_rfl) (by kernel_rfl) (by kernel_rfl) ?_
  intro o' ho hod
  refine wp_val (exec_buildSlice1 ho (by kernel_rfl) (bs_kb ad sm (some ⟨g5, 0, none⟩) n c5 _)) ?_
  rw [hod]
  clear hod ho
  have hbx : Below w5.heap.size w5 (w5.alloc (.cells #[.int .i64 ad, .string sm, .slice (some ⟨g5, 0, none⟩) n c5] 202)) := (Below.refl w5.heap.size w5).alloc (Nat.le_refl _) _
  have HS3 : Hid (SR p bx v2 ad sm (w5.alloc (.cells #[.int .i64 ad, .string sm, .slice (some ⟨g5, 0, none⟩) n c5] 202))) := Lib.hid (HS2.out.below hbx)
  clear hbx
  refine ⟨fun _ => HS3.out, ?_⟩
  refine loneG 14 (.call ⟨.builtin .append, #[(.tmp 28), (.tmp 37)], #[93, 93]⟩) (some 38) none (by kernel_rfl) (by kernel_rfl) (by kernel_rfl) ?_
  intro o' ho hod
  have hd5 : Gr.OwnG 202 3 csK w5 B v2 l2 := R2.out.own.below (B5.out) (Nat.le_refl _)
  obtain ⟨v8, w8, hrun, ho8, hb8, hg8⟩ := Arr.app1 (E := 202) (T := 93) (k := 3) (cs := csK) (fun _ => rfl) csK_one Tryz.underlying93 info_kb rfl (by omega) (by omega) hd5 (⟨ad, sm, dat, some ⟨g5, 0, none⟩, n, c5⟩ : Kx) HL2.out (by have h1 := B5.out.size; have h2 := X2.out.lt; have h3 := HBp.out; show B ≤ w5.heap.size; omega) o'.type
  refine Gr.wp_append 93 (.tmp 28) (.tmp 37) ho (by kernel_rfl) (by kernel_rfl) hrun ?_
  rw [hod]
  clear hod ho
  have HEND := Lib.hid (rem_end (B := B) X2.out HBp.out R2.out B5.out HK5.out ho8 hb8 hg8)
  have HS4 : Hid (SR p bx v2 ad sm w8) := Lib.hid (HS2.out.grow HSP.out HSB.out hd5 hg8)
  have hvc : v8.cells = #[v8] ∧ v8.oneCell' = true := by
   obtain ⟨A9, c9, e9, _⟩ := ho8.shape (fun _ => rfl)
   rw [e9]
   exact ⟨rfl, rfl⟩
  have HVC := Lib.hid hvc
  clear hvc hrun ho8 hb8 hg8 hd5
  refine ⟨fun _ => HS4.out, ?_⟩
  refine loneG 15 (.nilCheck (.tmp 24)) (some 39) none (by kernel_rfl) (by kernel_rfl) (by kernel_rfl) ?_
  intro o' ho hod
  refine wp_val (v := .pointer (some ⟨p, 5, none⟩)) (exec_nil _ ho (by kernel_rfl)) ?_
  rw [hod]
  clear hod ho
  refine ⟨fun _ => HS4.out, ?_⟩
  refine loneG 16 (.fieldAddr 95 (.tmp 39) 0) (some 40) none (by kernel_rfl) (by kernel_rfl) (by kernel_rfl) ?_
  intro o' ho hod
  refine wp_val (v := .pointer (some ⟨p, 5, none⟩)) (exec_field (u := .pointer (some ⟨p, 5, none⟩)) _ ho (by kernel_rfl) (by kernel_rfl)) ?_
  rw [hod]
  clear hod ho
  refine ⟨fun _ => HS4.out, ?_⟩
  refine lastStore 17 93 (.tmp 40) (.tmp 38) (.pointer (some ⟨p, 5, none⟩)) v8 _ (by kernel_rfl) (by kernel_rfl) (by kernel_rfl) rfl (by kernel_rfl) (by kernel_rfl) (store_one size_slk HVC.out.1 HVC.out.2 (by rw [HS4.out.1]; rfl) HEND.out.1 (by rw [add_plain])) ?_
  simp only [put_some, put_none, List.setIfInBounds_toArray, List.set_cons_succ, List.set_cons_zero]
  go_wp2_with fail
  first | go_end0 | (simp only [Exit.inBlock, Exit.then]; refine bodyPost_ret (results_none rfl _ _ _) rfl ?_) | refine bodyPost_ret (results_none rfl _ _ _) rfl ?_
  have hX := HEND.out.2.1
  rw [set_twice] at hX
  refine ⟨rfl, ⟨ad, sm, dat, some ⟨g5, 0, none⟩, n, c5⟩, rfl, rfl, rfl, v8, hX, ?_, ((KA.out.trans K1.out).trans K2.out).trans HEND.out.2.2.2⟩
  rw [HL1.out, HLE.out]
  exact HEND.out.2.2.1
end
end Sto
end Go.Proofs.YtgbehfkimchglaaGreatDoor
