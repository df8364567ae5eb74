/-
 'memory.recall' by contracts. The condition: no more than 64 blocks are remembered.
-/
import Derived.Test.YtgbehfkimchglaaGreatDoorStoPut
import Derived.Test.YtgbehfkimchglaaGreatDoorRackPowerM
import Derived.BigQuiet
namespace Go.Proofs.YtgbehfkimchglaaGreatDoor
open Go Go.RowKit refRack
set_option maxRecDepth 100000
set_option linter.unusedVariables false
namespace Sto
open Sp Arr
theorem size_kb : (Tryz.prog.info? 202).map (·.size) = some 3 := by kernel_rfl
section
variable {B : Nat} {w w' : World} {p : Nat}
set_option maxHeartbeats 1600000 in
theorem recall_no (w : World) (p : Nat) (cs : Array Value) (v : Value) (l : List Kx) (ad sz bi : Int) (sm : ByteArray) (h : Blk w p 103 cs) (h5 : cs[5]? = some v) (hr : Row w B v l) (hl : l.length ≤ 64) (hno : ¬ idx ad l < l.length) :
  Calls Tryz.prog 70 #[.pointer (some ⟨p, 5, none⟩), .agg #[.int .i64 ad, .int .i64 sz, .int .i64 bi, .string sm]] w fun e w' => e = .returned (.tuple #[.slice none 0 0, .bool false]) ∧ Below w.heap.size w w' := by
 obtain ⟨bx, hbx⟩ : ∃ bx, bx = w.heap.size := ⟨_, rfl⟩
 obtain ⟨wa, hwa⟩ : ∃ wa, wa = w.alloc (.cells #[.int .i64 ad, .int .i64 sz, .int .i64 bi, .string sm] 73) := ⟨_, rfl⟩
 have hba : Below w.heap.size w wa := by rw [hwa]; exact (Below.refl _ _).alloc (Nat.le_refl _) _
 have XB : Hid (Blk wa bx 73 #[.int .i64 ad, .int .i64 sz, .int .i64 bi, .string sm]) := Lib.hid (by rw [hwa, hbx]; exact Blk.new _ _ _)
 have RA : Hid (Row wa B v l) := Lib.hid (hr.below hba)
 have c5 : wa.cell? ⟨p, 5, none⟩ = some v := by rw [(h.below hba h.lt).cell, h5]
 have HP := Lib.hid (place_any wa p B v l ad c5 RA.out.own (by omega))
 have HPL : Hid (plc ad l = -1) := Lib.hid (by unfold plc; rw [if_neg hno])
 rw [HPL.out] at HP
 have HB := Lib.hid hba
 have HWA := Lib.hid hwa
 have HBX := Lib.hid hbx
 clear h h5 hr hba c5 hwa hbx hno
 go_enter Tryz.func70, Tryz.ntmps70
 go_wp2_with fail
 rw [← HWA.out, ← HBX.out]
 have qa : wa.cell? ⟨bx, 0, none⟩ = some (.int .i64 ad) := XB.out.cell 0
 go_wp2_with fail
 refine HP.out.mono ?_
 rintro e wr ⟨rfl, b1⟩
 have B1 := Lib.hid (HB.out.trans (b1.mono HB.out.size))
 clear b1 qa
 go_wp2_with fail
 go_quiet (fail)
 go_wp2_with fail
 go_ret2
 exact ⟨rfl, B1.out.trans ((below_drewN (Below.refl wr.heap.size wr) _).mono B1.out.size)⟩
def SC (p bb : Nat) (v : Value) (x : Kx) (W : World) : Prop := W.cell? ⟨p, 5, none⟩ = some v ∧ Blk W bb 202 #[.int .i64 x.addr, .string x.sum, .slice x.hA x.hn x.hc]
theorem SC.below {bb : Nat} {v : Value} {x : Kx} (h : SC p bb v x w) (hb : Below w.heap.size w w') : SC p bb v x w' :=
 ⟨(hb.cell (p := ⟨p, 5, none⟩) (block_lt_of_cell h.1)).trans h.1, h.2.below hb h.2.lt⟩
theorem SC.only {bb g : Nat} {v : Value} {x : Kx} (h : SC p bb v x w) (f : Only g w w') (h1 : p ≠ g) (h2 : bb ≠ g) : SC p bb v x w' :=
 ⟨(World.cell?_of_block (a := ⟨p, 5, none⟩) (f.block p (block_lt_of_cell h.1) (fun e => h1 (by injection e)))).trans h.1, (f.block bb h.2.lt (fun e => h2 (by injection e))).trans h.2⟩
structure Rec (B : Nat) (w : World) (p : Nat) (cs : Array Value) (g n c bb : Nat) (x : Kx) (ad : Int) (l : List Kx) (i : Nat) : Prop where
 sto : Blk w p 103 cs
 row : Row w B (.slice (some ⟨g, 0, none⟩) n c) l
 hx : l[i]? = some x
 cut : Sto.cut ad l = l.take i ++ l.drop (i + 1)
 bbk : Blk w bb 202 #[.int .i64 x.addr, .string x.sum, .slice x.hA x.hn x.hc]
 ne : bb ≠ g ∧ p ≠ g
 lo : B ≤ p ∧ B ≤ g
 few : l.length ≤ 64
 c5 : cs[5]? = some (.slice (some ⟨g, 0, none⟩) n c)
structure W5 (B : Nat) (W : World) (p : Nat) (cs : Array Value) (g n c sb bb : Nat) (x : Kx) (l2 : List Kx) : Prop where
 sto : Blk W p 103 cs
 own : Gr.OwnG 202 3 csK W B (.slice (some ⟨g, 0, none⟩) (n - 1) c) l2
 ok : ∀ y ∈ l2, y.ok W
 src : Blk W sb 202 #[.int .i64 x.addr, .string x.sum, .slice x.hA x.hn x.hc]
 xok : x.ok W
 bbk : Blk W bb 202 #[.int .i64 x.addr, .string x.sum, .slice x.hA x.hn x.hc]
 ne : bb ≠ g
 lo : B ≤ p ∧ B ≤ W.heap.size
 few : l2.length ≤ 64
 c5 : cs[5]? = some (.slice (some ⟨g, 0, none⟩) n c)
theorem w5_of {W : World} {cs : Array Value} {g n c bb sb i : Nat} {x : Kx} {ad : Int} {l : List Kx} (h : Rec B w p cs g n c bb x ad l i) (hs : Blk W sb 202 #[.int .i64 x.addr, .string x.sum, .slice x.hA x.hn x.hc])
  (o : Gr.OwnG 202 3 csK W B (.slice (some ⟨g, 0, none⟩) (n - 1) c) (l.take i ++ l.drop (i + 1))) (hk : ∀ k x, w.heap[k]? = some x → k ≠ g → W.heap[k]? = some x) (hz : w.heap.size ≤ W.heap.size) : W5 B W p cs g n c sb bb x (Sto.cut ad l) := by
 obtain ⟨gcs, hgb⟩ := h.row.own.blk_of (g := g) rfl
 have hb : ∀ (k : Nat) (cur : Array Value) (fr : Nat × Nat), w.heap[k]? = some (.cells cur 5 fr) → W.heap[k]? = some (.cells cur 5 fr) := fun k cur fr h1 => hk k _ h1 (fun e => by
  subst e
  rw [show w.heap[k]? = _ from hgb] at h1
  injection h1 with h1
  injection h1 with _ h1
  exact absurd h1 (by decide))
 have hle : B ≤ w.heap.size := by have := h.sto.lt; have := h.lo.1; omega
 exact ⟨hk p _ h.sto h.ne.2, by rw [h.cut]; exact o, fun y hy => (h.row.ok y (cut_mem hy)).keep hb, hs, (h.row.ok x (List.mem_of_getElem? h.hx)).keep hb, hk bb _ h.bbk h.ne.1, h.ne.1, ⟨h.lo.1, Nat.le_trans hle hz⟩, Nat.le_trans (cut_len ad l) h.few, h.c5⟩
theorem rec_tail {W : World} {cs : Array Value} {g n c bb sb : Nat} {x : Kx} {l2 : List Kx} (h : W5 B W p cs g n c sb bb x l2) (ty : TypeId) :
  ∃ v8 w8, (Builtin.append_ #[93, 93] ty #[.slice (some ⟨g, 0, none⟩) (n - 1) c, .slice (some ⟨sb, 0, none⟩) 1 1]).run Tryz.prog W = .ok v8 w8 ∧ w8.frozen? ⟨p, 5, none⟩ = false ∧
   (w8.cell? ⟨p, 5, none⟩ = some (.slice (some ⟨g, 0, none⟩) n c) ∧ Blk w8 bb 202 #[.int .i64 x.addr, .string x.sum, .slice x.hA x.hn x.hc]) ∧
   Blk (w8.setCell ⟨p, 5, none⟩ v8) p 103 (cs.setIfInBounds 5 v8) ∧ Row (w8.setCell ⟨p, 5, none⟩ v8) B v8 (l2 ++ [x]) ∧ KeepM B W (w8.setCell ⟨p, 5, none⟩ v8) ∧ Blk (w8.setCell ⟨p, 5, none⟩ v8) bb 202 #[.int .i64 x.addr, .string x.sum, .slice x.hA x.hn x.hc] ∧ (v8.cells = #[v8] ∧ v8.oneCell' = true) := by
 have hpg : p ≠ g := by
  obtain ⟨gcs, hgb⟩ := h.own.blk_of (g := g) rfl
  exact h.sto.ne_ hgb (by decide)
 have hfew := h.few
 obtain ⟨v8, w8, e1, e2, e3, e4⟩ := Gr.run_append_b (k := 3) (cs := csK) (m := [x]) (c := 1) (fun _ => rfl) csK_one Tryz.underlying93 info_kb rfl (by omega) ty h.own (ad := ⟨sb, 0, none⟩) (fun j u hj => by
  have hj' : (csK x)[j]? = some u := by simpa using hj
  rw [show (Addr.add ⟨sb, 0, none⟩ j : Addr) = ⟨sb, 0 + j, none⟩ from add_plain _ _ _, Nat.zero_add, h.src.cell]
  show (csK x).toArray[j]? = some u
  rw [List.getElem?_toArray]
  exact hj') (by simp; omega) (by simp; omega) h.lo.2
 have hg8 : Arr.GrowB (.slice (some ⟨g, 0, none⟩) (n - 1) c) v8 W w8 := ⟨e3.size, fun k hk hne => e3.block k hk (fun e => hne e.symm), by
  rcases e4 with e | e
  ·exact .inl e
  ·exact .inr (.inl e)⟩
 have hgB : B ≤ g := (h.own.lt (g := g) rfl).2
 have hb8 : Below B W w8 := ⟨e3.os, e3.tape, e3.output, e3.size, fun k hk => e3.block k (by have := h.lo.2; omega) (fun e => by have e : k = g := Option.some.inj e; omega)⟩
 have HE := rem_end (B := B) h.sto h.lo.1 ⟨h.own, h.ok⟩ (Below.refl _ _) h.xok e2 hb8 hg8
 have hbp : bb ≠ p := (h.bbk.ne_ h.sto (by decide))
 have B8 : Blk w8 bb 202 #[.int .i64 x.addr, .string x.sum, .slice x.hA x.hn x.hc] := (e3.block bb h.bbk.lt (fun e => h.ne (Option.some.inj e))).trans h.bbk
 have P8 : Blk w8 p 103 cs := (e3.block p h.sto.lt (fun e => hpg (Option.some.inj e))).trans h.sto
 refine ⟨v8, w8, e1, HE.1, ⟨by rw [P8.cell, h.c5], B8⟩, HE.2.1, HE.2.2.1, HE.2.2.2, (Below.heap_setCell _ _ _ _ hbp).trans B8, ?_⟩
 obtain ⟨A9, c9, e9, _⟩ := e2.shape (fun _ => rfl)
 rw [e9]
 exact ⟨rfl, rfl⟩
theorem ownsRow_base {w : World} {base base' n k : Nat} {E : TypeId} {v : Value} {l : List Value} (h : w.ownsRow base E k v n l) (hb : base' ≤ base) : w.ownsRow base' E k v n l := by
 refine ⟨h.1, ?_⟩
 rcases h.2 with e | ⟨g, cap, cur, h1, h2, h3⟩
 ·exact .inl e
 ·exact .inr ⟨g, cap, cur, h1, Nat.le_trans hb h2, h3⟩
def RecPost (B : Nat) (w W : World) (p : Nat) (cs : Array Value) (bb : Nat) (l : List Kx) (x : Kx) : Prop := MemPost B w W p cs l ∧ Blk W bb 202 #[.int .i64 x.addr, .string x.sum, .slice x.hA x.hn x.hc]
set_option maxHeartbeats 3200000 in
theorem recall_hit (w : World) (p : Nat) (cs : Array Value) (v : Value) (l : List Kx) (ad bi : Int) (x : Kx) (h : Blk w p 103 cs) (h5 : cs[5]? = some v) (hr : Row w B v l) (hl : l.length ≤ 64) (hB : B ≤ p) (hx : l[idx ad l]? = some x) (hpos : 0 < x.dat.length) :
  Calls Tryz.prog 70 #[.pointer (some ⟨p, 5, none⟩), .agg #[.int .i64 ad, .int .i64 ((x.hn : Nat) : Int), .int .i64 bi, .string x.sum]] w fun e w' => ∃ vb, e = .returned (.tuple #[vb, .bool true]) ∧ w'.ownsRow w.heap.size 5 1 vb x.hn (rowL x.hn fun j => x.dat.getD j 0) ∧ MemPost B w w' p cs (Sto.cut ad l ++ [x]) := by
 obtain ⟨bx, hbx⟩ : ∃ bx, bx = w.heap.size := ⟨_, rfl⟩
 obtain ⟨wa, hwa⟩ : ∃ wa, wa = w.alloc (.cells #[.int .i64 ad, .int .i64 ((x.hn : Nat) : Int), .int .i64 bi, .string x.sum] 73) := ⟨_, rfl⟩
 have hba : Below w.heap.size w wa := by rw [hwa]; exact (Below.refl _ _).alloc (Nat.le_refl _) _
 have hi : idx ad l < l.length := (List.getElem?_eq_some_iff.1 hx).1
 have XB : Hid (Blk wa bx 73 #[.int .i64 ad, .int .i64 ((x.hn : Nat) : Int), .int .i64 bi, .string x.sum]) := Lib.hid (by rw [hwa, hbx]; exact Blk.new _ _ _)
 have RA : Hid (Row wa B v l) := Lib.hid (hr.below hba)
 have XA : Hid (Blk wa p 103 cs) := Lib.hid (h.below hba h.lt)
 have c5 : wa.cell? ⟨p, 5, none⟩ = some v := by rw [XA.out.cell, h5]
 have HP := Lib.hid (place_any wa p B v l ad c5 RA.out.own (by omega))
 have HPL : Hid (plc ad l = ((idx ad l : Nat) : Int)) := Lib.hid (by unfold plc; rw [if_pos hi])
 rw [HPL.out] at HP
 have HBS0 : Hid (B ≤ w.heap.size) := Lib.hid (by have := h.lt; omega)
 have HB := Lib.hid hba
 have HWA := Lib.hid hwa
 have HBX := Lib.hid hbx
 have HCUT : Hid (Sto.cut ad l = l.take (idx ad l) ++ l.drop (idx ad l + 1)) := Lib.hid rfl
 obtain ⟨g, c, rfl, hg, hgl⟩ : ∃ g c, v = .slice (some ⟨g, 0, none⟩) l.length c ∧ B ≤ g ∧ g < wa.heap.size := by
  rcases RA.out.own.2 with ⟨_, e⟩ | ⟨g, cap, cur, e, q1, q2, _⟩
  ·omega
  ·exact ⟨g, cap, e, q1, (Array.getElem?_eq_some_iff.1 q2).1⟩
 obtain ⟨i, hii⟩ : ∃ i, i = idx ad l := ⟨_, rfl⟩
 rw [← hii] at HP hx hi HCUT
 obtain ⟨n, hn⟩ : ∃ n, n = l.length := ⟨_, rfl⟩
 rw [← hn] at RA hi
 have hn64 : n ≤ 64 := by omega
 have HN := Lib.hid hn
 have HX := Lib.hid hx
 have HG := Lib.hid (⟨hg, hB, hpos, hl⟩ : _ ∧ _ ∧ _ ∧ _)
 have H5 : Hid (cs[5]? = some (.slice (some ⟨g, 0, none⟩) n c)) := Lib.hid (by rw [h5, hn])
 clear h h5 hr hba c5 hwa hbx HPL hx hg hgl hl hB hpos hii hn
 go_enter Tryz.func70, Tryz.ntmps70
 go_wp2_with fail
 rw [← HWA.out, ← HBX.out]
 have qa : wa.cell? ⟨bx, 0, none⟩ = some (.int .i64 ad) := XB.out.cell 0
 go_wp2_with fail
 refine HP.out.mono ?_
 rintro e wr ⟨rfl, b1⟩
 have B1 := Lib.hid b1
 have RR : Hid (Row wr B (.slice (some ⟨g, 0, none⟩) n c) l) := Lib.hid (RA.out.below b1)
 have XR : Hid (Blk wr p 103 cs) := Lib.hid (XA.out.below b1 XA.out.lt)
 have XBR : Hid (Blk wr bx 73 #[.int .i64 ad, .int .i64 ((x.hn : Nat) : Int), .int .i64 bi, .string x.sum]) := Lib.hid (XB.out.below b1 XB.out.lt)
 have hcell : ∀ j u, (csK x)[j]? = some u → wr.cell? ⟨g, i * 3 + j, none⟩ = some u := fun j u hj => by
  obtain ⟨A, c', e, hrd, _⟩ := RR.out.own.shape (fun _ => rfl)
  injection e with e1 e2 e3
  subst e1
  obtain ⟨b, o, eb, _, hc⟩ := hrd i x HX.out
  injection eb with eb
  injection eb with eb1 eb2
  subst eb1 eb2
  have h := hc j u hj
  rwa [Nat.zero_add] at h
 have q5 : wr.cell? ⟨p, 5, none⟩ = some (.slice (some ⟨g, 0, none⟩) n c) := by rw [XR.out.cell, H5.out]
 have k0 : wr.cell? ⟨g, i * 3, none⟩ = some (.int .i64 x.addr) := hcell 0 _ rfl
 have k1 : wr.cell? ⟨g, i * 3 + 1, none⟩ = some (.string x.sum) := hcell 1 _ rfl
 have k2 : wr.cell? ⟨g, i * 3 + 2, none⟩ = some (.slice x.hA x.hn x.hc) := hcell 2 _ rfl
 have x1 : wr.cell? ⟨bx, 1, none⟩ = some (.int .i64 ((x.hn : Nat) : Int)) := XBR.out.cell 1
 have x3 : wr.cell? ⟨bx, 3, none⟩ = some (.string x.sum) := XBR.out.cell 3
 have t1 : ¬ ((i : Int) < 0) := by omega
 have t2 : (i : Int) < (n : Int) := by omega
 have t4 : ((x.hn : Int) == (x.hn : Int)) = true := beq_self_eq_true _
 clear b1 qa hcell XA RA XB HP
 go_wp2_with fail
 go_quiet (fail)
 have hz : (wr.drewN nq).heap.size = wr.heap.size := by simp
 have hnew := Blk.new (wr.drewN nq) 202 #[.int .i64 0, .string ⟨#[]⟩, .slice none 0 0]
 rw [hz] at hnew
 have d0 := hnew.cell 0
 have d1 := hnew.cell 1
 have d2 := hnew.cell 2
 have z0 := hnew.frozen 0
 have z1 := hnew.frozen 1
 have z2 := hnew.frozen 2
 have HNEW := Lib.hid hnew
 clear hnew hz
 have HGL : Hid (g < wr.heap.size) := Lib.hid (RR.out.own.lt (g := g) rfl).1
 obtain ⟨gx, ox, hxa⟩ : ∃ gx ox, x.hA = some ⟨gx, ox, none⟩ := by
  rcases (RR.out.ok x (List.mem_of_getElem? HX.out)).byt.2 with e | ⟨a1, a2, _, _, e, _⟩
  ·have h := HG.out.2.2.1
   rw [e] at h
   exact absurd h (by simp)
  ·exact ⟨a1, a2, e⟩
 have HXA := Lib.hid hxa
 clear hxa
 go_upto_region 5 with (fail)
 obtain ⟨bb, hbb⟩ : ∃ bb, bb = wr.heap.size := ⟨_, rfl⟩
 rw [← hbb] at HNEW ⊢
 obtain ⟨w1, hw1⟩ : ∃ w1, w1 = ((((wr.drewN nq).alloc (.cells #[.int .i64 0, .string ⟨#[]⟩, .slice none 0 0] 202)).setCell ⟨bb, 0, none⟩ (.int .i64 x.addr)).setCell ⟨bb, 1, none⟩ (.string x.sum)).setCell ⟨bb, 2, none⟩ (.slice x.hA x.hn x.hc) := ⟨_, rfl⟩
 rw [← hw1]
 have HB1 : Hid (Below wr.heap.size wr w1) := Lib.hid (by
  rw [hw1]
  exact only_below ((((Only.refl bb _).setCell 0 _).setCell 1 _).setCell 2 _) ((below_drewN (Below.refl wr.heap.size wr) nq).alloc (by simp) _) (by rw [hbb]; exact Nat.le_refl _) (Nat.le_refl _))
 have HBB : Hid (Blk w1 bb 202 #[.int .i64 x.addr, .string x.sum, .slice x.hA x.hn x.hc]) := Lib.hid (by
  rw [hw1]
  exact ((HNEW.out.set_ 0 _).set_ 1 _).set_ 2 _)
 have HPR : Hid (Rec B w1 p cs g n c bb x ad l i) := Lib.hid ⟨XR.out.below HB1.out XR.out.lt, RR.out.below HB1.out, HX.out, HCUT.out, HBB.out, ⟨by have h := HGL.out; omega, by
  obtain ⟨gcs, hgb⟩ := RR.out.own.blk_of (g := g) rfl
  exact XR.out.ne_ hgb (by decide)⟩, ⟨HG.out.2.1, HG.out.1⟩, HG.out.2.2.2, H5.out⟩
 clear hw1 hbb HNEW d0 d1 d2 z0 z1 z2 q5 k0 k1 k2 x1 x3
 have HDE : Hid (∀ W, Below w1.heap.size w1 W → Calls Tryz.prog 117 #[.slice (some ⟨g, 0, none⟩) n c, .int .i64 (i : Int), .int .i64 ((i + 1 : Nat) : Int)] W fun e w' => DelPost W B g n c i l e w') := Lib.hid fun W hW => delete_at W B g n c i (i + 1) l (HPR.out.row.own.below hW (Nat.le_refl _)) HN.out (by omega) rfl (by omega)
 have HS0 : Hid (SC p bb (.slice (some ⟨g, 0, none⟩) n c) x w1.drew) := Lib.hid ⟨by show w1.cell? _ = _; rw [HPR.out.sto.cell, H5.out], HPR.out.bbk⟩
 have HPG : Hid (p ≠ g) := Lib.hid HPR.out.ne.2
 have HBG : Hid (bb ≠ g) := Lib.hid HPR.out.ne.1
 obtain ⟨gcs, hgb⟩ := HPR.out.row.own.blk_of (g := g) rfl
 have HGB : Hid (Blk w1 g 202 gcs) := Lib.hid hgb
 have HBLE : Hid (B ≤ g ∧ B ≤ w1.heap.size) := Lib.hid ⟨HG.out.1, by have h1 := hgb.lt; have h2 := HG.out.1; omega⟩
 clear hgb
 go_cut [] from 48 to 61 (fun wx => Hid (RecPost B w1 wx p cs bb (Sto.cut ad l ++ [x]) x))
 case first =>
  refine region_anyZ (SC p bb (.slice (some ⟨g, 0, none⟩) n c) x) 14 (by kernel_rfl) ?_
  refine takeE 0 (.move (.tmp 0)) (some 48) none (.pointer (some ⟨p, 5, none⟩)) (by kernel_rfl) (by kernel_rfl) (by kernel_rfl) (fun _ _ _ h => h) (fun o' wq e hS => exec_move wq e (by kernel_rfl)) HS0.out ?_
  refine takeE 1 (.move (.tmp 0)) (some 49) none (.pointer (some ⟨p, 5, none⟩)) (by kernel_rfl) (by kernel_rfl) (by kernel_rfl) (fun _ _ _ h => h) (fun o' wq e hS => exec_move wq e (by kernel_rfl)) HS0.out ?_
  refine takeE 2 (.nilCheck (.tmp 49)) (some 50) none (.pointer (some ⟨p, 5, none⟩)) (by kernel_rfl) (by kernel_rfl) (by kernel_rfl) (fun _ _ _ h => h) (fun o' wq e hS => exec_nil wq e (by kernel_rfl)) HS0.out ?_
  refine takeE 3 (.fieldAddr 95 (.tmp 50) 0) (some 51) none (.pointer (some ⟨p, 5, none⟩)) (by kernel_rfl) (by kernel_rfl) (by kernel_rfl) (fun _ _ _ h => h) (fun o' wq e hS => exec_field (u := .pointer (some ⟨p, 5, none⟩)) wq e (by kernel_rfl) (by kernel_rfl)) HS0.out ?_
  refine takeE 4 (.load 93 (.tmp 51)) (some 52) none (.slice (some ⟨g, 0, none⟩) n c) (by kernel_rfl) (by kernel_rfl) (by kernel_rfl) (fun _ _ _ h => h) (fun o' wq e hS => exec_load (x := (.tmp 51)) e (by kernel_rfl) (load_one Tryz.underlying93 (by kernel_rfl) hS.1)) HS0.out ?_
  refine takeE 5 (.move (.tmp 6)) (some 53) none (.int .i64 (i : Int)) (by kernel_rfl) (by kernel_rfl) (by kernel_rfl) (fun _ _ _ h => h) (fun o' wq e hS => exec_move wq e (by kernel_rfl)) HS0.out ?_
  refine takeE 6 (.move (.tmp 6)) (some 54) none (.int .i64 (i : Int)) (by kernel_rfl) (by kernel_rfl) (by kernel_rfl) (fun _ _ _ h => h) (fun o' wq e hS => exec_move wq e (by kernel_rfl)) HS0.out ?_
  refine takeE 7 (.binOp .add 3 (.tmp 54) (.const (.int .i64 1)) 3) (some 55) none (.int .i64 ((i + 1 : Nat) : Int)) (by kernel_rfl) (by kernel_rfl) (by kernel_rfl) (fun _ _ _ h => h) (fun o' wq e hS => exec_bin (u1 := .int .i64 (i : Int)) (u2 := (.int .i64 1)) wq e (by kernel_rfl) (by kernel_rfl) (eqG_int ..) (addA i (by omega) _)) HS0.out ?_
  refine takeE 9 (.load 202 (.tmp 7)) (some 57) none (.agg #[.int .i64 x.addr, .string x.sum, .slice x.hA x.hn x.hc]) (by kernel_rfl) (by kernel_rfl) (by kernel_rfl) (fun _ _ _ h => h) (fun o' wq e hS => exec_load (x := (.tmp 7)) e (by kernel_rfl) (load_blk hS.2 Tryz.underlying202 rfl size_kb)) HS0.out ?_
  refine twoG (i := 8) (j := 10) (op1 := (.call ⟨.value (.func 117), #[(.tmp 52), (.tmp 53), (.tmp 55)], #[93, 3, 3]⟩)) (op2 := (.buildSlice 93 1 #[(0, (.tmp 57))])) (d1 := some 56) (d2 := some 58) (by kernel_rfl) (by kernel_rfl) (by kernel_rfl) ?A ?B
  case A =>
   intro o' ho hod
   refine wp_callC (f := 117) (args := #[.slice (some ⟨g, 0, none⟩) n c, .int .i64 (i : Int), .int .i64 ((i + 1 : Nat) : Int)]) (by cases o'; cases ho; kernel_rfl) (HDE.out _ (below_drewN (Below.refl w1.heap.size w1) 1)) ?_
   rintro ee V1 ⟨rfl, o3, f3⟩
   refine ⟨_, rfl, ?_⟩
   rw [hod]
   clear hod ho
   have HSA : Hid (SC p bb (.slice (some ⟨g, 0, none⟩) n c) x V1) := Lib.hid (HS0.out.only f3 HPG.out HBG.out)
   refine ⟨fun _ => HSA.out, ?_⟩
   refine loneG 10 (.buildSlice 93 1 #[(0, (.tmp 57))]) (some 58) none (by kernel_rfl) (by kernel_rfl) (by kernel_rfl) ?_
   intro o' ho hod
   refine wp_val (exec_buildSlice1 ho (by kernel_rfl) (bs_kb x.addr x.sum x.hA x.hn x.hc _)) ?_
   rw [hod]
   clear hod ho
   have HW5 : Hid (W5 B (V1.alloc (.cells #[.int .i64 x.addr, .string x.sum, .slice x.hA x.hn x.hc] 202)) p cs g n c V1.heap.size bb x (Sto.cut ad l)) := Lib.hid (w5_of HPR.out (Blk.new _ _ _) (o3.below ((Below.refl V1.heap.size V1).alloc (Nat.le_refl _) _) (Nat.le_refl _)) (fun k y h1 h2 => (((Below.refl V1.heap.size V1).alloc (Nat.le_refl _) _).block k (Nat.lt_of_lt_of_le (Array.getElem?_eq_some_iff.1 h1).1 f3.size)).trans ((f3.block k (Array.getElem?_eq_some_iff.1 h1).1 (fun e => h2 (Option.some.inj e))).trans h1)) (Nat.le_trans f3.size (by simp)))
   have HK5 : Hid (KeepM B w1 (V1.alloc (.cells #[.int .i64 x.addr, .string x.sum, .slice x.hA x.hn x.hc] 202))) := Lib.hid ((KeepM.only (w := w1) (w' := V1) HGB.out rfl ⟨f3.os, f3.tape, f3.output, f3.size, f3.block⟩ HBLE.out.1 HBLE.out.2).new ((Below.refl V1.heap.size V1).alloc (Nat.le_refl _) _) (Nat.le_trans HBLE.out.2 f3.size))
   have HSB : Hid (SC p bb (.slice (some ⟨g, 0, none⟩) n c) x (V1.alloc (.cells #[.int .i64 x.addr, .string x.sum, .slice x.hA x.hn x.hc] 202))) := Lib.hid (HSA.out.below ((Below.refl V1.heap.size V1).alloc (Nat.le_refl _) _))
   clear o3 f3
   refine ⟨fun _ => HSB.out, ?_⟩
   refine loneG 11 (.call ⟨.builtin .append, #[(.tmp 56), (.tmp 58)], #[93, 93]⟩) (some 59) none (by kernel_rfl) (by kernel_rfl) (by kernel_rfl) ?_
   intro o' ho hod
   obtain ⟨v8, w8, hrun, hfz, hc5, hX8, hR8, hK8, hbb, hvc⟩ := rec_tail (B := B) (p := p) (cs := cs) (bb := bb) (x := x) HW5.out o'.type
   refine Gr.wp_append 93 (.tmp 56) (.tmp 58) ho (by kernel_rfl) (by kernel_rfl) hrun ?_
   rw [hod]
   clear hod ho hrun
   have HEND := Lib.hid (⟨hfz, hX8, hR8, hK8, hbb, hvc, hc5⟩ : _ ∧ _ ∧ _ ∧ _ ∧ _ ∧ _ ∧ _)
   clear hfz hc5 hX8 hR8 hK8 hbb hvc
   have HS4 : Hid (SC p bb (.slice (some ⟨g, 0, none⟩) n c) x w8) := Lib.hid ⟨HEND.out.2.2.2.2.2.2.1, HEND.out.2.2.2.2.2.2.2⟩
   refine ⟨fun _ => HS4.out, ?_⟩
   refine loneG 12 (.nilCheck (.tmp 48)) (some 60) none (by kernel_rfl) (by kernel_rfl) (by kernel_rfl) ?_
   intro o' ho hod
   refine wp_val (v := .pointer (some ⟨p, 5, none⟩)) (exec_nil _ ho (by kernel_rfl)) ?_
   rw [hod]
   clear hod ho
   refine ⟨fun _ => HS4.out, ?_⟩
   refine loneG 13 (.fieldAddr 95 (.tmp 60) 0) (some 61) none (by kernel_rfl) (by kernel_rfl) (by kernel_rfl) ?_
   intro o' ho hod
   refine wp_val (v := .pointer (some ⟨p, 5, none⟩)) (exec_field (u := .pointer (some ⟨p, 5, none⟩)) _ ho (by kernel_rfl) (by kernel_rfl)) ?_
   rw [hod]
   clear hod ho
   refine ⟨fun _ => HS4.out, ?_⟩
   refine lastStore 14 93 (.tmp 61) (.tmp 59) (.pointer (some ⟨p, 5, none⟩)) v8 _ (by kernel_rfl) (by kernel_rfl) (by kernel_rfl) rfl (by kernel_rfl) (by kernel_rfl) (store_one size_slk HEND.out.2.2.2.2.2.1.1 HEND.out.2.2.2.2.2.1.2 (by rw [HS4.out.1]; rfl) HEND.out.1 (by rw [add_plain])) ?_
   simp only [put_some, put_none, List.setIfInBounds_toArray, List.set_cons_succ, List.set_cons_zero]
   have HZ : Hid (RecPost B w1 (w8.setCell ⟨p, 5, none⟩ v8) p cs bb (Sto.cut ad l ++ [x]) x) := Lib.hid ⟨⟨v8, HEND.out.2.1, HEND.out.2.2.1, HK5.out.trans HEND.out.2.2.2.1⟩, HEND.out.2.2.2.2.1⟩
   clear HEND HS4 HW5 HK5
   go_wp2_with fail
   go_meet
   exact HZ
  case B =>
   intro o' ho hod
   refine wp_val (exec_buildSlice1 ho (by kernel_rfl) (bs_kb x.addr x.sum x.hA x.hn x.hc _)) ?_
   rw [hod]
   clear hod ho
   have hal : Below w1.heap.size w1 (w1.drew.alloc (.cells #[.int .i64 x.addr, .string x.sum, .slice x.hA x.hn x.hc] 202)) := (Below.refl w1.heap.size w1).drew.alloc (Nat.le_refl _) _
   have HSA : Hid (SC p bb (.slice (some ⟨g, 0, none⟩) n c) x (w1.drew.alloc (.cells #[.int .i64 x.addr, .string x.sum, .slice x.hA x.hn x.hc] 202))) := Lib.hid (HS0.out.below ((Below.refl w1.drew.heap.size w1.drew).alloc (Nat.le_refl _) _))
   have HAL := Lib.hid hal
   clear hal
   refine ⟨fun _ => HSA.out, ?_⟩
   refine loneG 8 (.call ⟨.value (.func 117), #[(.tmp 52), (.tmp 53), (.tmp 55)], #[93, 3, 3]⟩) (some 56) none (by kernel_rfl) (by kernel_rfl) (by kernel_rfl) ?_
   intro o' ho hod
   refine wp_callC (f := 117) (args := #[.slice (some ⟨g, 0, none⟩) n c, .int .i64 (i : Int), .int .i64 ((i + 1 : Nat) : Int)]) (by cases o'; cases ho; kernel_rfl) (HDE.out _ HAL.out) ?_
   rintro ee V1 ⟨rfl, o3, f3⟩
   refine ⟨_, rfl, ?_⟩
   rw [hod]
   clear hod ho
   have HW5 : Hid (W5 B V1 p cs g n c w1.drew.heap.size bb x (Sto.cut ad l)) := Lib.hid (w5_of HPR.out ((f3.block w1.drew.heap.size (by simp) (fun e => by have e : w1.drew.heap.size = g := Option.some.inj e; have h : g < w1.drew.heap.size := HGB.out.lt; omega)).trans (Blk.new w1.drew _ _)) o3 (fun k y h1 h2 => (f3.block k (Nat.lt_of_lt_of_le (Array.getElem?_eq_some_iff.1 h1).1 HAL.out.size) (fun e => h2 (Option.some.inj e))).trans ((HAL.out.block k (Array.getElem?_eq_some_iff.1 h1).1).trans h1)) (Nat.le_trans HAL.out.size f3.size))
   have HK5 : Hid (KeepM B w1 V1) := Lib.hid (((KeepM.refl B w1).new HAL.out HBLE.out.2).trans (KeepM.only (w := (w1.drew.alloc (.cells #[.int .i64 x.addr, .string x.sum, .slice x.hA x.hn x.hc] 202))) (w' := V1) (HGB.out.below HAL.out HGB.out.lt) rfl f3 HBLE.out.1 (Nat.le_trans HBLE.out.2 HAL.out.size)))
   have HSB : Hid (SC p bb (.slice (some ⟨g, 0, none⟩) n c) x V1) := Lib.hid (HSA.out.only f3 HPG.out HBG.out)
   clear o3 f3
   refine ⟨fun _ => HSB.out, ?_⟩
   refine loneG 11 (.call ⟨.builtin .append, #[(.tmp 56), (.tmp 58)], #[93, 93]⟩) (some 59) none (by kernel_rfl) (by kernel_rfl) (by kernel_rfl) ?_
   intro o' ho hod
   obtain ⟨v8, w8, hrun, hfz, hc5, hX8, hR8, hK8, hbb, hvc⟩ := rec_tail (B := B) (p := p) (cs := cs) (bb := bb) (x := x) HW5.out o'.type
   refine Gr.wp_append 93 (.tmp 56) (.tmp 58) ho (by kernel_rfl) (by kernel_rfl) hrun ?_
   rw [hod]
   clear hod ho hrun
   have HEND := Lib.hid (⟨hfz, hX8, hR8, hK8, hbb, hvc, hc5⟩ : _ ∧ _ ∧ _ ∧ _ ∧ _ ∧ _ ∧ _)
   clear hfz hc5 hX8 hR8 hK8 hbb hvc
   have HS4 : Hid (SC p bb (.slice (some ⟨g, 0, none⟩) n c) x w8) := Lib.hid ⟨HEND.out.2.2.2.2.2.2.1, HEND.out.2.2.2.2.2.2.2⟩
   refine ⟨fun _ => HS4.out, ?_⟩
   refine loneG 12 (.nilCheck (.tmp 48)) (some 60) none (by kernel_rfl) (by kernel_rfl) (by kernel_rfl) ?_
   intro o' ho hod
   refine wp_val (v := .pointer (some ⟨p, 5, none⟩)) (exec_nil _ ho (by kernel_rfl)) ?_
   rw [hod]
   clear hod ho
   refine ⟨fun _ => HS4.out, ?_⟩
   refine loneG 13 (.fieldAddr 95 (.tmp 60) 0) (some 61) none (by kernel_rfl) (by kernel_rfl) (by kernel_rfl) ?_
   intro o' ho hod
   refine wp_val (v := .pointer (some ⟨p, 5, none⟩)) (exec_field (u := .pointer (some ⟨p, 5, none⟩)) _ ho (by kernel_rfl) (by kernel_rfl)) ?_
   rw [hod]
   clear hod ho
   refine ⟨fun _ => HS4.out, ?_⟩
   refine lastStore 14 93 (.tmp 61) (.tmp 59) (.pointer (some ⟨p, 5, none⟩)) v8 _ (by kernel_rfl) (by kernel_rfl) (by kernel_rfl) rfl (by kernel_rfl) (by kernel_rfl) (store_one size_slk HEND.out.2.2.2.2.2.1.1 HEND.out.2.2.2.2.2.1.2 (by rw [HS4.out.1]; rfl) HEND.out.1 (by rw [add_plain])) ?_
   simp only [put_some, put_none, List.setIfInBounds_toArray, List.set_cons_succ, List.set_cons_zero]
   have HZ : Hid (RecPost B w1 (w8.setCell ⟨p, 5, none⟩ v8) p cs bb (Sto.cut ad l ++ [x]) x) := Lib.hid ⟨⟨v8, HEND.out.2.1, HEND.out.2.2.1, HK5.out.trans HEND.out.2.2.2.1⟩, HEND.out.2.2.2.2.1⟩
   clear HEND HS4 HW5 HK5
   go_wp2_with fail
   go_meet
   exact HZ
 case rest =>
 obtain ⟨w5, hw5⟩ : ∃ w5, w5 = wc := ⟨_, rfl⟩
 subst hw5
 have HC := hcut
 have HC2 : Hid (w5.cell? ⟨bb, 2, none⟩ = some (.slice (some ⟨gx, ox, none⟩) x.hn x.hc)) := Lib.hid (by rw [← HXA.out]; exact HC.out.2.cell 2)
 have HBW : Hid (Below w.heap.size w w1) := Lib.hid ((HB.out.trans (B1.out.mono HB.out.size)).trans (HB1.out.mono (Nat.le_trans HB.out.size B1.out.size)))
 have HBS : Hid (B ≤ w.heap.size) := Lib.hid HBS0.out
 obtain ⟨v8, x8, r8, k8⟩ := HC.out.1
 have X8 := Lib.hid x8
 have R8 := Lib.hid r8
 have K8 : Hid (KeepM B w w5) := Lib.hid (((KeepM.refl B w).new HBW.out HBS.out).trans k8)
 have hxx : x.ok w5 := R8.out.ok x (List.mem_append.2 (.inr (List.mem_singleton.2 rfl)))
 have hby := hxx.byt
 rw [HXA.out] at hby
 have hlen := hxx.len
 have hfw := hxx.few
 have HCL := Lib.hid (clone_off w5 gx ox x.hn x.hc (fun j => x.dat.getD j 0) (fun j hj => byt_cell hby (Below.refl _ _) (by rw [← hlen]; exact hj)) (by omega))
 have c2 := HC2.out
 clear x8 r8 k8 hxx hby hlen hfw
 go_wp2_with fail
 refine HCL.out.mono ?_
 rintro e w6 ⟨vb, rfl, o6, b6⟩
 have O6 := Lib.hid o6
 have B6 := Lib.hid b6
 clear o6 b6
 go_wp2_with fail
 go_ret2
 refine ⟨vb, rfl, ownsRow_base O6.out K8.out.below.size, v8, X8.out.below B6.out X8.out.lt, R8.out.below B6.out, K8.out.new B6.out (Nat.le_trans HBS.out K8.out.below.size)⟩
end
end Sto
end Go.Proofs.YtgbehfkimchglaaGreatDoor
