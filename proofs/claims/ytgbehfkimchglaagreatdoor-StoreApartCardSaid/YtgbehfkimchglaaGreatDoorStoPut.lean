/-
 'Put' by contracts. The conditions: the store stands on an array whose power is on and not armed, and of whose drives none is gone.
-/
import Derived.Test.YtgbehfkimchglaaGreatDoorDrawSplitM
import Derived.Test.YtgbehfkimchglaaGreatDoorDrawDeepM
import Derived.Deep.DeepCutAuto
import Derived.Deep.RegionHeld3
namespace Go.Proofs.YtgbehfkimchglaaGreatDoor
open Go Go.RowKit refRack
set_option maxRecDepth 100000
set_option linter.unusedVariables false
section
variable {P : Program} {md : Region.Mode} {ops : Array Oper} {Q : Exit → Act → World → Prop} {S : World → Prop} {z : Nat}
def takeEB (md : Region.Mode) (ops : Array Oper) (z : Nat) (listed : Array Bool) (i : Nat) : Bool :=
 Region.noSelect ops && Region.free md ops listed i && (Region.ready md ops listed).contains i && closedB md ops listed && deepB md ops 7 z i
theorem takeE {n : Nat} {listed : Array Bool} {a : Act} {w : World} (i : Nat) (op : Op) (d : Option Tmp) (g : Option (Nat × Bool)) (v : Value) (ho : isOp ops i = some (op, d, g)) (hw : wantG g (yielded ops a.tmps) = true) (hB : takeEB md ops z listed i = true)
  (hQ : ∀ c a w, Q (.panic c) (a.put d v) w → Q (.panic c) a w) (hy : ∀ (o : Oper) w, o.op = op → S w → (execOp a.eval o).run P w = .ok (.value v) w) (hS : S w)
  (h : AnyZ P md ops Q S z n (listed.setIfInBounds i true) (a.put d v) w) : AnyZ P md ops Q S z (n + 1) listed a w := by
 obtain ⟨o, h1, h2, rfl, h4⟩ := isOpG_spec ho
 simp only [takeEB, Bool.and_eq_true] at hB
 exact AnyZ.firstC h1 (Region.noSelect_spec hB.1.1.1.1) hQ (deepB_spec hB.2) n listed a w (closedB_spec hB.1.2) (Region.free_spec h1 hB.1.1.1.2) (by simpa using hB.1.1.2) (.inl ⟨want_of h4 hw, fun w hw => hy o w h2 hw⟩) hS h
end
namespace Sto
open Sp Arr
theorem size_ptr : (Tryz.prog.info? 73).map (·.size) = some 4 := by kernel_rfl
theorem alloc_ptr (w : World) : (Instr.alloc 73 true (.tuple #[])).run Tryz.prog w = .ok (.pointer (some ⟨w.heap.size, 0, none⟩)) (w.alloc (.cells #[.int .i64 0, .int .i64 0, .int .i64 0, .string ⟨#[]⟩] 73)) := by kernel_rfl
theorem exec_allocS {P : Program} {w w' : World} {o : Oper} {a : Act} {ty : TypeId} {v : Value} (ho : o.op = .alloc ty) (hl : (Instr.alloc ty true (.tuple #[])).run P w = .ok v w') : (execOp a.eval o).run P w = .ok (.value v) w' := by
 unfold execOp
 simp [ho, hl, Sem.run_bind, Sem.run_pure]
theorem exec_bld4 {P : Program} {a : Act} {o : Oper} {ty : TypeId} {i j k l : Nat} {x y z t : Operand} {u0 u1 u2 u3 r : Value} (w : World) (e : o.op = .build ty #[(i, x), (j, y), (k, z), (l, t)]) (hx : a.eval x = u0) (hy : a.eval y = u1) (hz : a.eval z = u2) (ht : a.eval t = u3)
  (hl : (Instr.build ty #[(i, u0), (j, u1), (k, u2), (l, u3)]).run P w = .ok r w) : (execOp a.eval o).run P w = .ok (.value r) w := by
 unfold execOp; simp only [e, List.map_toArray, List.map_cons, List.map_nil, hx, hy, hz, ht, hl, Sem.run_bind, Sem.run_pure, Result.andThen_ok]
theorem store4 {w : World} {g : Nat} {x0 x1 x2 x3 : Value} {cs : Array Value} (h : Blk w g 73 cs) (h0 : x0.oneCell' = true) (h1 : x1.oneCell' = true) (h2 : x2.oneCell' = true) (h3 : x3.oneCell' = true) (hc : cs.size = 4 := by rfl) :
  ∃ w4, (Instr.storeAt 73 (.pointer (some ⟨g, 0, none⟩)) (.agg #[x0, x1, x2, x3])).run Tryz.prog w = .ok () w4 ∧ Blk w4 g 73 #[x0, x1, x2, x3] ∧ Only g w w4 := by
 refine ⟨_, run_storeAt_mid w g 0 73 #[x0, x1, x2, x3] (fun j hj => ⟨by
  rw [Nat.zero_add, h.cell]
  have hj' : j < 4 := hj
  rw [Array.getElem?_eq_getElem (by rw [hc]; exact hj')]
  rfl, h.frozen _⟩) (by simpa using size_ptr) (by simp [h0, h1, h2, h3]), ?_, ?_⟩
 ·have hX := (((h.set_ 0 x0).set_ 1 x1).set_ 2 x2).set_ 3 x3
  have e : (((cs.setIfInBounds 0 x0).setIfInBounds 1 x1).setIfInBounds 2 x2).setIfInBounds 3 x3 = #[x0, x1, x2, x3] := by
   obtain ⟨l⟩ := cs
   have hl : l.length = 4 := by simpa using hc
   match l, hl with
   | [c0, c1, c2, c3], _ => rfl
  rw [e] at hX
  exact hX
 ·exact ((((Only.refl g w).setCell 0 x0).setCell (0 + 1) x1).setCell (0 + 1 + 1) x2).setCell (0 + 1 + 1 + 1) x3
theorem set4 {w : World} {g : Nat} (x0 x1 x2 x3 : Value) {cs : Array Value} (h : Blk w g 73 cs) (hc : cs.size = 4 := by rfl) :
  Blk ((((w.setCell ⟨g, 0, none⟩ x0).setCell ⟨g, 1, none⟩ x1).setCell ⟨g, 2, none⟩ x2).setCell ⟨g, 3, none⟩ x3) g 73 #[x0, x1, x2, x3] ∧ Only g w ((((w.setCell ⟨g, 0, none⟩ x0).setCell ⟨g, 1, none⟩ x1).setCell ⟨g, 2, none⟩ x2).setCell ⟨g, 3, none⟩ x3) := by
 refine ⟨?_, ((((Only.refl g w).setCell 0 x0).setCell 1 x1).setCell 2 x2).setCell 3 x3⟩
 have hX := (((h.set_ 0 x0).set_ 1 x1).set_ 2 x2).set_ 3 x3
 have e : (((cs.setIfInBounds 0 x0).setIfInBounds 1 x1).setIfInBounds 2 x2).setIfInBounds 3 x3 = #[x0, x1, x2, x3] := by
  obtain ⟨l⟩ := cs
  have hl : l.length = 4 := by simpa using hc
  match l, hl with
  | [c0, c1, c2, c3], _ => rfl
 rw [e] at hX
 exact hX
theorem StoV.aside {B : Nat} {w w' : World} {p a r sp m q : Nat} {lk : Int} {v : Value} {S : St} {cs : Array Value} (h : StoV B w p a r sp m lk v S) (hX : Blk w q 73 cs) (ho : Only q w w') : StoV B w' p a r sp m lk v S := by
 have hh : ∀ (g : Nat) (c : Array Value) (t : TypeId) (fr : Nat × Nat), w.heap[g]? = some (.cells c t fr) → (t == 73) = false → w'.heap[g]? = some (.cells c t fr) := fun g c t fr h1 h2 =>
  (ho.block g (Array.getElem?_eq_some_iff.1 h1).1 (fun e => by
   injection e with e
   subst e
   rw [show w.heap[g]? = _ from hX] at h1
   injection h1 with h1
   injection h1 with _ h1 _
   rw [← h1] at h2
   cases h2)).trans h1
 have hm : ∀ (g : Nat) (x : Obj), w.heap[g]? = some x → (∀ c t fr, x ≠ .cells c t fr) → w'.heap[g]? = some x := fun g x h1 h2 =>
  (ho.block g (Array.getElem?_eq_some_iff.1 h1).1 (fun e => by
   injection e with e
   subst e
   rw [show w.heap[g]? = _ from hX] at h1
   injection h1 with h1
   exact h2 _ _ _ h1.symm)).trans h1
 have hb : ∀ (g : Nat) (t : TypeId) (c : Array Value), Blk w g t c → (t == 73) = false → w'.heap[g]? = w.heap[g]? := fun g t c h1 h2 => (hh g _ _ _ h1 h2).trans (show w.heap[g]? = _ from h1).symm
 have hrk : RackAt B w' r S.s := by
  obtain ⟨h0, m1, m2, v, hk⟩ := h.arr.rack
  refine ⟨h0, m1, m2, v, hk.move (fun i hi hor => ?_) ho.size⟩
  rcases hor with e | e | e | e
  ·subst e
   exact hb _ _ _ hk.blk rfl
  ·subst e
   obtain ⟨n, F, _, h1, _⟩ := hk.last
   obtain ⟨es, c, hmm, hmk⟩ := h1.isMapK
   rw [hm _ _ hmm (fun _ _ _ e => by cases e), hmm]
  ·subst e
   obtain ⟨es, c, hmm, hmk⟩ := hk.newest.isMapK
   rw [hm _ _ hmm (fun _ _ _ e => by cases e), hmm]
  ·obtain ⟨_, cs, hbb⟩ := own_blk hk.row e
   exact hb _ _ _ hbb rfl
 refine ⟨⟨hrk, (hb _ _ _ h.arr.blk rfl).trans h.arr.blk, h.arr.five, h.arr.first⟩, ?_, (hb _ _ _ h.blk rfl).trans h.blk, ?_, h.lo⟩
 ·obtain ⟨h0, F, V, h⟩ := h.spc
  have hs : ∀ g, SpB sp m V g → w'.heap[g]? = w.heap[g]? := fun g hg => by
   obtain ⟨_, o, h1, _, _, h2⟩ := spc_obj h hg
   cases o with
   | cells c t fr =>
    have h2 : (t == 150 || t == 61) = true := h2
    refine (hh g _ _ _ h1 ?_).trans h1.symm
    simp only [Bool.or_eq_true, beq_iff_eq] at h2
    rcases h2 with h2 | h2 <;> subst h2 <;> rfl
   | _ => exact (hm g _ h1 (fun _ _ _ e => by cases e)).trans h1.symm
  exact ⟨Nat.le_trans h0 ho.size, F, V, h.mem.keep (hs sp (.inl rfl)) (hs m (.inr (.inl rfl))) (fun k hk' g hg => hs g (.inr (.inr ⟨k, hk', hg⟩))), h.good⟩
 ·exact h.row.keep (fun g hg => by
   obtain ⟨cur, hbb⟩ := h.row.own.blk_of hg
   exact hb _ _ _ hbb rfl) (fun g cur fr hg => hh _ _ _ _ hg rfl)
theorem KeepT.aside {B : Nat} {a w w' : World} {q : Nat} (h : KeepT B a w) (ho : Only q w w') (hq : a.heap.size ≤ q) (hB : B ≤ a.heap.size) : KeepT B a w' :=
 ⟨h.below.trans (ho.below (Nat.le_trans hB hq) (Nat.le_trans hB h.below.size)), fun i o h1 h2 => by
  have h3 := h.kept i o h1 h2
  have hi := (Array.getElem?_eq_some_iff.1 h1).1
  exact (ho.block i (Array.getElem?_eq_some_iff.1 h3).1 (fun e => by injection e with e; omega)).trans h3⟩
theorem only_below {g B : Nat} {a w w' : World} (ho : Only g w w') (hb : Below B a w) (hg : B ≤ g) (hs : B ≤ a.heap.size) : Below B a w' :=
 hb.trans (ho.below hg (Nat.le_trans hs hb.size))
theorem Cc_getD_lt {l : List Nat} (h : ∀ y ∈ l, y < 256) (j : Nat) : l.getD j 0 < 256 := Arr.getD_lt h j
section
variable {B : Nat} {w w' : World} {p a r sp m : Nat} {lk : Int} {v : Value} {S : St}
set_option maxHeartbeats 3200000 in
theorem put_yes (w : World) (h : StoV B w p a r sp m 0 v S) (hl : Laid w) (hB : 0 < B) (hcal : S.s.calm) (hgone : ∀ d, S.s.gone d = false) (hall : S.ss.cells = Arr.cells S.s S.f) (hfew : S.mem.length ≤ 64) (htx : S.tx ≤ 1000000000) (hc3 : S.c3 ≤ 1000000)
  (g o n c : Nat) (dat : List Nat) (hd : Byt w (some ⟨g, o, none⟩) dat) (hn : n = dat.length) (h1 : 1 ≤ n) (hn2 : n ≤ 1024) (hnc : n ≤ c) (hcm : c ≤ maxLen) (hcost : S.s.cost + cost S.s.nd n ≤ 1000000)
  (ad : Nat) (hrow : Sp.rowL (cost S.s.nd n) (S.ss.S 0) = some ad) (hle : cost S.s.nd n + S.ss.kept ≤ cnt (S.ss.S 0)) :
  Calls Tryz.prog 21 #[.pointer (some ⟨p, 0, none⟩), .slice (some ⟨g, o, none⟩) n c] w fun e w' => e = .returned (.tuple #[.agg #[.int .i64 (ad : Int), .int .i64 (n : Int), .int .i64 (S.tx : Int), .string (sumS n fun j => dat.getD j 0)], .int .i64 0]) ∧
   (∃ x v', x.addr = (ad : Int) ∧ x.sum = sumS n (fun j => dat.getD j 0) ∧ x.dat = dat ∧ StoV B w' p a r sp m 0 v' { S with s := wrAll S.s S.f ad (cellX S.s.nd n fun j => dat.getD j 0) (cost S.s.nd n), ss := S.ss.mv 0 1 ad (ad + cost S.s.nd n), mem := old (Sto.cut (ad : Int) S.mem) ++ [x], c3 := S.c3 + 1 }) ∧ KeepT B w w' := by
 obtain ⟨q, hq⟩ : ∃ q, q = w.heap.size := ⟨_, rfl⟩
 obtain ⟨wa, hwa⟩ : ∃ wa, wa = w.alloc (.cells #[.int .i64 0, .int .i64 0, .int .i64 0, .string ⟨#[]⟩] 73) := ⟨_, rfl⟩
 have hba : Below w.heap.size w wa := by rw [hwa]; exact (Below.refl _ _).alloc (Nat.le_refl _) _
 have HA := Lib.hid (h.below hba)
 have XQ : Hid (Blk wa q 73 #[.int .i64 0, .int .i64 0, .int .i64 0, .string ⟨#[]⟩]) := Lib.hid (by rw [hwa, hq]; exact Blk.new _ _ _)
 have KA : Hid (KeepT B w wa) := Lib.hid (KeepT.of_new hba h.le)
 have DA : Hid (Byt wa (some ⟨g, o, none⟩) dat) := Lib.hid (hd.keep fun k cur fr hk => (hba.block k (Array.getElem?_eq_some_iff.1 hk).1).trans hk)
 have HE := Lib.hid (enter_any wa HA.out)
 have HLA : Hid (Laid w) := Lib.hid hl
 have HQ := Lib.hid hq
 have HWA := Lib.hid hwa
 have HBW : Hid (B ≤ w.heap.size) := Lib.hid h.le
 have HIN := Lib.hid (⟨hn, hrow, hle, hall, hcost, hcal, hgone, hB, hnc, hcm⟩ : _ ∧ _ ∧ _ ∧ _ ∧ _ ∧ _ ∧ _ ∧ _ ∧ _ ∧ _)
 have HFW : Hid (S.mem.length ≤ 64 ∧ S.c3 ≤ 1000000) := Lib.hid ⟨hfew, hc3⟩
 clear h hd hba hq hwa hn hrow hle hall hcost hcal hgone hB hfew hc3 hl
 go_enter_defers Tryz.func21, Tryz.ntmps21
 go_wp2_with fail
 rw [← HWA.out, ← HQ.out]
 refine HE.out.mono ?_
 rintro e w1 ⟨rfl, s1, k1⟩
 have S1 := Lib.hid s1
 have K1 := Lib.hid (KA.out.trans (KeepT.mem k1))
 have X1 := Lib.hid (k1.kept _ _ XQ.out rfl)
 have D1 : Hid (Byt w1 (some ⟨g, o, none⟩) dat) := Lib.hid (DA.out.keep fun k cur fr hk => k1.kept _ _ hk rfl)
 have c0 : w1.cell? ⟨p, 0, none⟩ = some (.pointer (some ⟨a, 0, none⟩)) := s1.blk.cell 0
 have HC := Lib.hid (cost_ok w1 s1.arr n h1 hn2)
 have hcr : cost S.s.nd n ≤ 32 ∧ 1 ≤ cost S.s.nd n := by
  have h5 := s1.arr.five
  have h16 := s1.arr.bounds.1
  have := cost_room h5 h16 h1 hn2
  exact ⟨this.1, this.2.1⟩
 clear s1 k1 HE HA XQ DA KA
 go_wp2_with fail
 refine HC.out.mono ?_
 rintro e w1' ⟨rfl, hw⟩
 have hw := hw.symm
 subst hw
 have c3 : w1.cell? ⟨p, 3, none⟩ = some (.pointer (some ⟨sp, 0, none⟩)) := S1.out.blk.cell 3
 have htk : takeS S.ss ((cost S.s.nd n : Nat) : Int) = (((ad : Int), 0), S.ss.mv 0 1 ad (ad + cost S.s.nd n)) := by
  rw [takeS_nat S.ss _ hcr.2, HIN.out.2.1]
  dsimp only
  rw [if_pos HIN.out.2.2.1]
 have HT := Lib.hid (take_x S1.out.spc ((cost S.s.nd n : Nat) : Int) (by omega))
 rw [htk] at HT
 have hin := row_has S1.out.spc.good hcr.2 HIN.out.2.1
 have HAD : Hid (ad + cost S.s.nd n ≤ Arr.cells S.s S.f) := Lib.hid (by rw [← HIN.out.2.2.2.1]; exact hin.2)
 have had : ad ≤ 32000 := by have h := HAD.out; have := cells_le S1.out.arr; omega
 have HCR := Lib.hid hcr
 clear htk hin HC
 have hcb : cost S.s.nd n ≤ 32 := hcr.1
 clear hcr
 generalize hcg : cost S.s.nd n = C at *
 have HCG := Lib.hid hcg
 clear hcg
 go_wp2_with fail
 refine HT.out.mono ?_
 rintro e w2 ⟨rfl, p2⟩
 obtain ⟨F2, V2, f1, f2, _⟩ := id p2
 obtain ⟨s2, k2⟩ := S1.out.spc_ p2
 have S2 := Lib.hid s2
 have K2 := Lib.hid (K1.out.trans k2)
 have X2 : Hid (Blk w2 q 73 #[.int .i64 0, .int .i64 0, .int .i64 0, .string ⟨#[]⟩]) := Lib.hid (k2.kept _ _ X1.out rfl)
 have D2 : Hid (Byt w2 (some ⟨g, o, none⟩) dat) := Lib.hid (D1.out.keep fun k cur fr hk => k2.kept _ _ hk rfl)
 have c0' : w2.cell? ⟨p, 0, none⟩ = some (.pointer (some ⟨a, 0, none⟩)) := s2.blk.cell 0
 have HW : Hid (Calls Tryz.prog 61 #[.pointer (some ⟨a, 0, none⟩), .int .i64 (ad : Int), .slice (some ⟨g, o, none⟩) n c] w2 fun e w' => e = .returned (.int .i64 0) ∧ RackAt B w' r (wrAll S.s S.f ad (cellX S.s.nd n fun j => dat.getD j 0) (cost S.s.nd n)) ∧ Keep B w2 w') := Lib.hid
  (write_ok w2 s2.arr HIN.out.2.2.2.2.2.1 _ n c ad w2.heap.size (fun j => dat.getD j 0) (by rw [HIN.out.1]; exact D2.out.rdb) (fun j hj => by
   have hd2 := D2.out.1
   exact Cc_getD_lt hd2 j) (Nat.le_refl _) hnc hcm h1 hn2 (by have h := HAD.out; have g := HCG.out; show ad + cost S.s.nd n ≤ Arr.cells S.s S.f; omega) (by rw [goneB_none HIN.out.2.2.2.2.2.2.1]; exact Nat.zero_le _) (by show S.s.cost + cost S.s.nd n ≤ 1000000; have h := HIN.out.2.2.2.2.1; have g := HCG.out; omega))
 clear s2 k2 p2 f1 f2 HT c0 c3 S1 K1 X1 D1
 go_wp2_with fail
 refine HW.out.mono ?_
 rintro e w3 ⟨rfl, h3, k3⟩
 have hlk := wrAll_like S.s S.f ad (cellX S.s.nd n fun j => dat.getD j 0) (cost S.s.nd n)
 have S3 := Lib.hid (S2.out.rack h3 k3 hlk.1.nd hlk.1.ns)
 have K3 := Lib.hid (K2.out.trans (KeepT.rack k3))
 have X3 : Hid (Blk w3 q 73 #[.int .i64 0, .int .i64 0, .int .i64 0, .string ⟨#[]⟩]) := Lib.hid (k3.kept _ _ X2.out rfl)
 have D3 : Hid (Byt w3 (some ⟨g, o, none⟩) dat) := Lib.hid (D2.out.keep fun k cur fr hk => k3.kept _ _ hk rfl)
 have HL3 : Hid (Laid w3) := Lib.hid (HLA.out.below K3.out.below HIN.out.2.2.2.2.2.2.2.1)
 clear h3 k3 HW S2 K2 X2 D2 c0' hlk
 go_upto_region 14 with (fail)
 obtain ⟨tx, htx'⟩ : ∃ tx, tx = S.tx := ⟨_, rfl⟩
 obtain ⟨sm, hsm⟩ : ∃ sm, sm = sumS n (fun j => dat.getD j 0) := ⟨_, rfl⟩
 have HC4 : Hid (∀ W, Below w3.heap.size w3 W → W.cell? ⟨p, 4, none⟩ = some (.int .i64 (tx : Int))) := Lib.hid fun W hW => by
  have h := (S3.out.below hW).blk.cell 4
  rw [h, htx']
  rfl
 have HSU : Hid (∀ W, Below w3.heap.size w3 W → Calls Tryz.prog 63 #[.slice (some ⟨g, o, none⟩) n c] W fun e w' => e = .returned (.string sm) ∧ Below W.heap.size W w') := Lib.hid fun W hW => by
  rw [hsm]
  exact sum_any (some ⟨g, o, none⟩) n c W.heap.size (fun j => dat.getD j 0) W (by
   rw [HIN.out.1]
   exact (D3.out.keep fun k cur fr hk => (hW.block k (Array.getElem?_eq_some_iff.1 hk).1).trans hk).rdb) (Cc_getD_lt D3.out.1) (Nat.le_refl _) HIN.out.2.2.2.2.2.2.2.2.1 HIN.out.2.2.2.2.2.2.2.2.2 (by omega) (HL3.out.below hW HL3.out.pos)
 have HSM := Lib.hid hsm
 have HTX := Lib.hid htx'
 have htxb : tx ≤ 1000000000 := by omega
 clear hsm htx'
 have HS0 : Hid (w3.drew.cell? ⟨p, 4, none⟩ = some (.int .i64 (tx : Int))) := Lib.hid (HC4.out _ ((Below.refl w3.heap.size w3).drew))
 go_cut [10] from 63 to 72 (fun s10 wx => ∃ lb, s10 = .pointer (some ⟨lb, 0, none⟩) ∧ Hid (Blk wx lb 73 #[.int .i64 (ad : Int), .int .i64 (n : Int), .int .i64 (tx : Int), .string sm] ∧ Below w3.heap.size w3 wx ∧ w3.heap.size ≤ lb))
 case first =>
  refine wp_region_noPanic ?_
  refine region_anyZ (fun W => W.cell? ⟨p, 4, none⟩ = some (.int .i64 (tx : Int))) 11 (by kernel_rfl) ?_
  refine takeE 0 (.move (.tmp 8)) (some 63) none (.int .i64 (ad : Int)) (by kernel_rfl) (by kernel_rfl) (by kernel_rfl) (fun _ _ _ h => h) (fun o' wq e hS => exec_move wq e (by kernel_rfl)) HS0.out ?_
  refine takeE 1 (.move (.tmp 1)) (some 64) none (.slice (some ⟨g, o, none⟩) n c) (by kernel_rfl) (by kernel_rfl) (by kernel_rfl) (fun _ _ _ h => h) (fun o' wq e hS => exec_move wq e (by kernel_rfl)) HS0.out ?_
  refine takeE 2 (.call ⟨.builtin .len, #[(.tmp 64)], #[76]⟩) (some 65) none (.int .i64 (n : Int)) (by kernel_rfl) (by kernel_rfl) (by kernel_rfl) (fun _ _ _ h => h) (fun o' wq e hS => exec_len (u := .slice (some ⟨g, o, none⟩) n c) wq e (by kernel_rfl) (by kernel_rfl)) HS0.out ?_
  refine takeE 3 (.move (.tmp 0)) (some 66) none (.pointer (some ⟨p, 0, none⟩)) (by kernel_rfl) (by kernel_rfl) (by kernel_rfl) (fun _ _ _ h => h) (fun o' wq e hS => exec_move wq e (by kernel_rfl)) HS0.out ?_
  refine takeE 4 (.nilCheck (.tmp 66)) (some 67) none (.pointer (some ⟨p, 0, none⟩)) (by kernel_rfl) (by kernel_rfl) (by kernel_rfl) (fun _ _ _ h => h) (fun o' wq e hS => exec_nil wq e (by kernel_rfl)) HS0.out ?_
  refine takeE 5 (.fieldAddr 103 (.tmp 67) 3) (some 68) none (.pointer (some ⟨p, 4, none⟩)) (by kernel_rfl) (by kernel_rfl) (by kernel_rfl) (fun _ _ _ h => h) (fun o' wq e hS => exec_field (u := .pointer (some ⟨p, 0, none⟩)) wq e (by kernel_rfl) (by kernel_rfl)) HS0.out ?_
  refine takeE 6 (.load 3 (.tmp 68)) (some 69) none (.int .i64 (tx : Int)) (by kernel_rfl) (by kernel_rfl) (by kernel_rfl) (fun _ _ _ h => h) (fun o' wq e hS => exec_load (x := (.tmp 68)) e (by kernel_rfl) (load_one Tryz.underlying3 (by kernel_rfl) hS)) HS0.out ?_
  refine takeE 7 (.move (.tmp 1)) (some 70) none (.slice (some ⟨g, o, none⟩) n c) (by kernel_rfl) (by kernel_rfl) (by kernel_rfl) (fun _ _ _ h => h) (fun o' wq e hS => exec_move wq e (by kernel_rfl)) HS0.out ?_
  refine twoG (i := 8) (j := 10) (op1 := (.call ⟨.value (.func 63), #[(.tmp 70)], #[76]⟩)) (op2 := (.alloc 73)) (d1 := some 71) (d2 := some 10) (by kernel_rfl) (by kernel_rfl) (by kernel_rfl) ?A ?B
  case A =>
   intro o' ho hod
   refine wp_callC (f := 63) (args := #[.slice (some ⟨g, o, none⟩) n c]) (by cases o'; cases ho; kernel_rfl) (HSU.out _ (Below.refl w3.heap.size w3).drew) ?_
   rintro ee V1 ⟨rfl, bb⟩
   refine ⟨_, rfl, ?_⟩
   rw [hod]
   clear hod ho
   have LV : Hid (Below w3.heap.size w3 V1) := Lib.hid ((Below.refl w3.heap.size w3).drew.trans bb)
   have HSV : Hid (V1.cell? ⟨p, 4, none⟩ = some (.int .i64 (tx : Int))) := Lib.hid (HC4.out _ LV.out)
   refine ⟨fun _ => HSV.out, ?_⟩
   refine takeE 9 (.build 73 #[(0, (.tmp 63)), (1, (.tmp 65)), (2, (.tmp 69)), (3, (.tmp 71))]) (some 72) none (.agg #[.int .i64 (ad : Int), .int .i64 (n : Int), .int .i64 (tx : Int), .string sm]) (by kernel_rfl) (by kernel_rfl) (by kernel_rfl) (fun _ _ _ h => h) (fun o' wq e hS => exec_bld4 (u0 := .int .i64 (ad : Int)) (u1 := .int .i64 (n : Int)) (u2 := .int .i64 (tx : Int)) (u3 := .string sm) wq e (by kernel_rfl) (by kernel_rfl) (by kernel_rfl) (by kernel_rfl) (by kernel_rfl)) HSV.out ?_
   refine loneG 10 (.alloc 73) (some 10) none (by kernel_rfl) (by kernel_rfl) (by kernel_rfl) ?_
   intro o' ho hod
   refine wp_val (exec_allocS ho (alloc_ptr _)) ?_
   rw [hod]
   clear hod ho
   have ba : Below V1.heap.size V1 (V1.alloc (.cells #[.int .i64 0, .int .i64 0, .int .i64 0, .string ⟨#[]⟩] 73)) := (Below.refl _ _).alloc (Nat.le_refl _) _
   have LA : Hid (Below w3.heap.size w3 (V1.alloc (.cells #[.int .i64 0, .int .i64 0, .int .i64 0, .string ⟨#[]⟩] 73))) := Lib.hid (LV.out.trans (ba.mono LV.out.size))
   have HSA : Hid ((V1.alloc (.cells #[.int .i64 0, .int .i64 0, .int .i64 0, .string ⟨#[]⟩] 73)).cell? ⟨p, 4, none⟩ = some (.int .i64 (tx : Int))) := Lib.hid (HC4.out _ LA.out)
   have XN : Hid (Blk (V1.alloc (.cells #[.int .i64 0, .int .i64 0, .int .i64 0, .string ⟨#[]⟩] 73)) V1.heap.size 73 #[.int .i64 0, .int .i64 0, .int .i64 0, .string ⟨#[]⟩]) := Lib.hid (Blk.new _ _ _)
   refine ⟨fun _ => HSA.out, ?_⟩
   obtain ⟨w4, hst, hb4, ho4⟩ := store4 (w := (V1.alloc (.cells #[.int .i64 0, .int .i64 0, .int .i64 0, .string ⟨#[]⟩] 73))) (g := V1.heap.size) (x0 := .int .i64 (ad : Int)) (x1 := .int .i64 (n : Int)) (x2 := .int .i64 (tx : Int)) (x3 := .string sm) XN.out rfl rfl rfl rfl
   refine lastStore 11 73 (.tmp 10) (.tmp 72) (.pointer (some ⟨V1.heap.size, 0, none⟩)) (.agg #[.int .i64 (ad : Int), .int .i64 (n : Int), .int .i64 (tx : Int), .string sm]) w4 (by kernel_rfl) (by kernel_rfl) (by kernel_rfl) rfl (by kernel_rfl) (by kernel_rfl) hst ?_
   simp only [put_some, put_none, List.setIfInBounds_toArray, List.set_cons_succ, List.set_cons_zero]
   have HLB : Hid (Blk w4 V1.heap.size 73 #[.int .i64 (ad : Int), .int .i64 (n : Int), .int .i64 (tx : Int), .string sm] ∧ Below w3.heap.size w3 w4 ∧ w3.heap.size ≤ V1.heap.size) := Lib.hid ⟨hb4, only_below ho4 LA.out LV.out.size (Nat.le_refl _), LV.out.size⟩
   clear hst hb4 ho4
   refine NoPanic.normal ?_
   go_wp2_with fail
   go_meet
   exact ⟨_, rfl, HLB⟩
  case B =>
   intro o' ho hod
   refine wp_val (exec_allocS ho (alloc_ptr _)) ?_
   rw [hod]
   clear hod ho
   have ba : Below w3.drew.heap.size w3.drew (w3.drew.alloc (.cells #[.int .i64 0, .int .i64 0, .int .i64 0, .string ⟨#[]⟩] 73)) := (Below.refl _ _).alloc (Nat.le_refl _) _
   have LA : Hid (Below w3.heap.size w3 (w3.drew.alloc (.cells #[.int .i64 0, .int .i64 0, .int .i64 0, .string ⟨#[]⟩] 73))) := Lib.hid ((Below.refl w3.heap.size w3).drew.trans ba)
   have HSA : Hid ((w3.drew.alloc (.cells #[.int .i64 0, .int .i64 0, .int .i64 0, .string ⟨#[]⟩] 73)).cell? ⟨p, 4, none⟩ = some (.int .i64 (tx : Int))) := Lib.hid (HC4.out _ LA.out)
   have XN : Hid (Blk (w3.drew.alloc (.cells #[.int .i64 0, .int .i64 0, .int .i64 0, .string ⟨#[]⟩] 73)) w3.drew.heap.size 73 #[.int .i64 0, .int .i64 0, .int .i64 0, .string ⟨#[]⟩]) := Lib.hid (Blk.new _ _ _)
   refine ⟨fun _ => HSA.out, ?_⟩
   refine loneG 8 (.call ⟨.value (.func 63), #[(.tmp 70)], #[76]⟩) (some 71) none (by kernel_rfl) (by kernel_rfl) (by kernel_rfl) ?_
   intro o' ho hod
   refine wp_callC (f := 63) (args := #[.slice (some ⟨g, o, none⟩) n c]) (by cases o'; cases ho; kernel_rfl) (HSU.out _ LA.out) ?_
   rintro ee V1 ⟨rfl, bb⟩
   refine ⟨_, rfl, ?_⟩
   rw [hod]
   clear hod ho
   have LV : Hid (Below w3.heap.size w3 V1) := Lib.hid (LA.out.trans (bb.mono LA.out.size))
   have HSV : Hid (V1.cell? ⟨p, 4, none⟩ = some (.int .i64 (tx : Int))) := Lib.hid (HC4.out _ LV.out)
   have XN2 : Hid (Blk V1 w3.drew.heap.size 73 #[.int .i64 0, .int .i64 0, .int .i64 0, .string ⟨#[]⟩]) := Lib.hid (XN.out.below bb XN.out.lt)
   refine ⟨fun _ => HSV.out, ?_⟩
   refine takeE 9 (.build 73 #[(0, (.tmp 63)), (1, (.tmp 65)), (2, (.tmp 69)), (3, (.tmp 71))]) (some 72) none (.agg #[.int .i64 (ad : Int), .int .i64 (n : Int), .int .i64 (tx : Int), .string sm]) (by kernel_rfl) (by kernel_rfl) (by kernel_rfl) (fun _ _ _ h => h) (fun o' wq e hS => exec_bld4 (u0 := .int .i64 (ad : Int)) (u1 := .int .i64 (n : Int)) (u2 := .int .i64 (tx : Int)) (u3 := .string sm) wq e (by kernel_rfl) (by kernel_rfl) (by kernel_rfl) (by kernel_rfl) (by kernel_rfl)) HSV.out ?_
   obtain ⟨w4, hst, hb4, ho4⟩ := store4 (w := V1) (g := w3.drew.heap.size) (x0 := .int .i64 (ad : Int)) (x1 := .int .i64 (n : Int)) (x2 := .int .i64 (tx : Int)) (x3 := .string sm) XN2.out rfl rfl rfl rfl
   refine lastStore 11 73 (.tmp 10) (.tmp 72) (.pointer (some ⟨w3.drew.heap.size, 0, none⟩)) (.agg #[.int .i64 (ad : Int), .int .i64 (n : Int), .int .i64 (tx : Int), .string sm]) w4 (by kernel_rfl) (by kernel_rfl) (by kernel_rfl) rfl (by kernel_rfl) (by kernel_rfl) hst ?_
   simp only [put_some, put_none, List.setIfInBounds_toArray, List.set_cons_succ, List.set_cons_zero]
   have HLB : Hid (Blk w4 w3.drew.heap.size 73 #[.int .i64 (ad : Int), .int .i64 (n : Int), .int .i64 (tx : Int), .string sm] ∧ Below w3.heap.size w3 w4 ∧ w3.heap.size ≤ w3.drew.heap.size) := Lib.hid ⟨hb4, only_below ho4 LV.out (Nat.le_refl w3.heap.size) (Nat.le_refl _), (Nat.le_refl w3.heap.size)⟩
   clear hst hb4 ho4
   refine NoPanic.normal ?_
   go_wp2_with fail
   go_meet
   exact ⟨_, rfl, HLB⟩
 case rest =>
 obtain ⟨lb, rfl, HC⟩ := hcut
 obtain ⟨w4, hw4⟩ : ∃ w4, w4 = wc := ⟨_, rfl⟩
 subst hw4
 have S4 := Lib.hid ((S3.out.below HC.out.2.1).below (Below.refl w4.heap.size w4).drew)
 have K4 := Lib.hid ((K3.out.new HC.out.2.1 S3.out.le).new (Below.refl w4.heap.size w4).drew (Nat.le_trans S3.out.le HC.out.2.1.size))
 have X4 : Hid (Blk w4.drew q 73 #[.int .i64 0, .int .i64 0, .int .i64 0, .string ⟨#[]⟩]) := Lib.hid (show Blk w4 q _ _ from X3.out.below HC.out.2.1 X3.out.lt)
 have D4 : Hid (Byt w4.drew (some ⟨g, o, none⟩) dat) := Lib.hid (D3.out.keep fun k cur fr hk => (HC.out.2.1.block k (Array.getElem?_eq_some_iff.1 hk).1).trans hk)
 have L4 : Hid (Blk w4.drew lb 73 #[.int .i64 (ad : Int), .int .i64 (n : Int), .int .i64 (tx : Int), .string sm]) := Lib.hid HC.out.1
 have HQS : Hid (w.heap.size ≤ q) := Lib.hid (by rw [HQ.out]; exact Nat.le_refl _)
 have HRM := Lib.hid (remember_any w4.drew p _ v S.mem (ad : Int) (n : Int) (tx : Int) sm g o n c dat S4.out.blk rfl S4.out.row HFW.out.1 S4.out.lo (by rw [HSM.out]; exact Nat.le_trans (Nat.le_of_eq (strB_size _ _)) (by omega)) D4.out HIN.out.1 (by have h := HIN.out.1; omega) (by have h := HIN.out.1; omega))
 have HS1 : Hid (Blk w4.drew lb 73 #[.int .i64 (ad : Int), .int .i64 (n : Int), .int .i64 (tx : Int), .string sm]) := L4
 clear S3 K3 X3 D3 HC HL3 HC4 HSU HS0
 go_wp2_with fail
 refine wp_region_noPanic ?_
 refine region_anyZ (fun W => Blk W lb 73 #[.int .i64 (ad : Int), .int .i64 (n : Int), .int .i64 (tx : Int), .string sm]) 5 (by kernel_rfl) ?_
 refine takeE 0 (.move (.tmp 0)) (some 73) none (.pointer (some ⟨p, 0, none⟩)) (by kernel_rfl) (by kernel_rfl) (by kernel_rfl) (fun _ _ _ h => h) (fun o' wq e hS => exec_move wq e (by kernel_rfl)) HS1.out ?_
 refine takeE 1 (.nilCheck (.tmp 73)) (some 74) none (.pointer (some ⟨p, 0, none⟩)) (by kernel_rfl) (by kernel_rfl) (by kernel_rfl) (fun _ _ _ h => h) (fun o' wq e hS => exec_nil wq e (by kernel_rfl)) HS1.out ?_
 refine takeE 2 (.fieldAddr 103 (.tmp 74) 4) (some 75) none (.pointer (some ⟨p, 5, none⟩)) (by kernel_rfl) (by kernel_rfl) (by kernel_rfl) (fun _ _ _ h => h) (fun o' wq e hS => exec_field (u := .pointer (some ⟨p, 0, none⟩)) wq e (by kernel_rfl) (by kernel_rfl)) HS1.out ?_
 refine takeE 3 (.load 73 (.tmp 10)) (some 76) none (.agg #[.int .i64 (ad : Int), .int .i64 (n : Int), .int .i64 (tx : Int), .string sm]) (by kernel_rfl) (by kernel_rfl) (by kernel_rfl) (fun _ _ _ h => h) (fun o' wq e hS => exec_load (x := (.tmp 10)) e (by kernel_rfl) (load_blk hS Tryz.underlying73 rfl size_ptr)) HS1.out ?_
 refine takeE 4 (.move (.tmp 1)) (some 77) none (.slice (some ⟨g, o, none⟩) n c) (by kernel_rfl) (by kernel_rfl) (by kernel_rfl) (fun _ _ _ h => h) (fun o' wq e hS => exec_move wq e (by kernel_rfl)) HS1.out ?_
 refine lastOp 5 (.call ⟨.value (.func 64), #[(.tmp 75), (.tmp 76), (.tmp 77)], #[95, 73, 76]⟩) (some 78) (by kernel_rfl) (by kernel_rfl) (by kernel_rfl) rfl ?_
 intro o' ho hod
 refine wp_callC (f := 64) (args := #[.pointer (some ⟨p, 5, none⟩), .agg #[.int .i64 (ad : Int), .int .i64 (n : Int), .int .i64 (tx : Int), .string sm], .slice (some ⟨g, o, none⟩) n c]) (by cases o'; cases ho; kernel_rfl) HRM.out ?_
 rintro ee w5 ⟨rfl, x, hx1, hx2, hx3, hm⟩
 refine ⟨_, rfl, ?_⟩
 rw [hod]
 clear hod ho
 refine NoPanic.normal ?_
 simp only [put_some, put_none, List.setIfInBounds_toArray, List.set_cons_succ, List.set_cons_zero]
 obtain ⟨v', s5, k5⟩ := S4.out.memo hm
 have K5 := Lib.hid (K4.out.trans (KeepT.mem k5))
 have X5 := Lib.hid (k5.kept _ _ X4.out rfl)
 have L5 := Lib.hid (k5.kept _ _ L4.out rfl)
 have HPC := Lib.hid (putc_any w5 s5 HFW.out.2)
 have HX := Lib.hid (show x.addr = (ad : Int) ∧ x.sum = sm ∧ x.dat = dat from ⟨hx1, hx2, hx3⟩)
 clear hm hx1 hx2 hx3 s5 k5 S4 K4 X4 L4 HRM HS1 D4
 go_wp2_with fail
 refine HPC.out.mono ?_
 rintro e w6 ⟨rfl, s6, k6⟩
 have X6 : Hid (Blk w6 q 73 #[.int .i64 0, .int .i64 0, .int .i64 0, .string ⟨#[]⟩]) := Lib.hid (k6.kept _ _ X5.out rfl)
 have L6 : Hid (Blk w6 lb 73 #[.int .i64 (ad : Int), .int .i64 (n : Int), .int .i64 (tx : Int), .string sm]) := Lib.hid (k6.kept _ _ L5.out rfl)
 have l0 := L6.out.cell 0
 have l1 := L6.out.cell 1
 have l2 := L6.out.cell 2
 have l3 := L6.out.cell 3
 have q0 := X6.out.cell 0
 have q1 := X6.out.cell 1
 have q2 := X6.out.cell 2
 have q3 := X6.out.cell 3
 have z0 := X6.out.frozen 0
 have z1 := X6.out.frozen 1
 have z2 := X6.out.frozen 2
 have z3 := X6.out.frozen 3
 obtain ⟨hb7, ho7⟩ := set4 (.int .i64 (ad : Int)) (.int .i64 (n : Int)) (.int .i64 (tx : Int)) (.string sm) X6.out
 obtain ⟨w7, hw7⟩ : ∃ w7, w7 = ((((w6.setCell ⟨q, 0, none⟩ (.int .i64 (ad : Int))).setCell ⟨q, 1, none⟩ (.int .i64 (n : Int))).setCell ⟨q, 2, none⟩ (.int .i64 (tx : Int))).setCell ⟨q, 3, none⟩ (.string sm)) := ⟨_, rfl⟩
 rw [← hw7] at hb7 ho7
 have HW7 := Lib.hid hw7
 clear hw7
 have S7 := Lib.hid (s6.aside X6.out ho7)
 have K7 := Lib.hid ((K5.out.trans (KeepT.mem k6)).aside ho7 HQS.out HBW.out)
 have X7 := Lib.hid hb7
 have HU := Lib.hid (fun u => unlock_deferred ⟨p, 1, none⟩ u w7 (S7.out.blk.cell 1) (S7.out.blk.frozen 1))
 clear s6 k6 X5 L5 X6 L6 K5 hb7 ho7 HPC
 have HP := Lib.hid (S7.out.put (i := 1) (u := .int .i32 0) (lk' := 0) (S' := { S with s := wrAll S.s S.f ad (cellX S.s.nd n fun j => dat.getD j 0) (cost S.s.nd n), ss := S.ss.mv 0 1 ad (ad + C), mem := old (Sto.cut (ad : Int) S.mem) ++ [x], c3 := S.c3 + 1 }) rfl rfl rfl rfl rfl)
 have X8 : Hid (Blk (w7.setCell ⟨p, 1, none⟩ (.int .i32 0)) q 73 #[.int .i64 (ad : Int), .int .i64 (n : Int), .int .i64 (tx : Int), .string sm]) := Lib.hid (HP.out.2.kept _ _ X7.out rfl)
 go_wp2_with fail
 rw [← HW7.out]
 refine leaves_cons (f := 27) (args := #[.pointer (some ⟨p, 1, none⟩)]) (by simp) (by simp [go_sem]) ?_
 refine (HU.out _).mono ?_
 rintro e u' w8 ⟨rfl, rfl, rfl⟩
 have LV := loadVar_blk X8.out Tryz.underlying73 rfl size_ptr
 simp [Leaves, settle, results, Tryz.results21, asAddr, Sem.run_bind, Sem.run_pure, Result.andThen_ok, LV, -List.getD_eq_getElem?_getD]
 refine ⟨?_, ⟨x, HX.out.1, ?_, HX.out.2.2, v', ?_⟩, K7.out.trans (KeepT.mem HP.out.2)⟩
 ·rw [← HTX.out, ← HSM.out]; try exact ⟨rfl, rfl⟩
 ·rw [HX.out.2.1, HSM.out]
 ·have h := HP.out.1
  rw [HCG.out] at h ⊢
  exact h
end
end Sto
end Go.Proofs.YtgbehfkimchglaaGreatDoor
