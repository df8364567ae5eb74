/-
  'rack.Write' by contracts. Conditions: the rack is one; fewer than a million writes.
-/
import Derived.Test.YthioanenljpclaaGreatDoorRackReadM
import Derived.Test.YthioanenljpclaaGreatDoorDrawSeqM
import Derived.Laws.CopyOwn
import Derived.Deep.RegionHeld3
import Derived.Deep.AppendLies
namespace Go.Proofs.YthioanenljpclaaGreatDoor
set_option maxRecDepth 100000
open Go.RowKit
set_option linter.unusedVariables false

def waitI (D A : Int) (x : Nat → Nat) : Array Value := #[.int .i64 D, .int .i64 A] ++ secA x
theorem waitI_size (D A : Int) (x : Nat → Nat) : (waitI D A x).size = 130 := by simp [waitI, secA, rowArr_size]
theorem waitI_one (D A : Int) (x : Nat → Nat) : (waitI D A x).all (·.oneCell') = true := by
  unfold waitI
  rw [Array.all_append, secA_one]
  simp [Value.oneCell']
theorem waitI_0 (D A : Int) (x : Nat → Nat) : (waitI D A x)[0]? = some (.int .i64 D) := by
  unfold waitI
  rw [Array.getElem?_append_left (by simp)]
  rfl
theorem waitI_1 (D A : Int) (x : Nat → Nat) : (waitI D A x)[1]? = some (.int .i64 A) := by
  unfold waitI
  rw [Array.getElem?_append_left (by simp)]
  rfl
theorem zset (D A : Int) : ((waitA ⟨0, 0, zeros⟩).toList.set 0 (.int .i64 D)).set 1 (.int .i64 A) = (waitI D A zeros).toList := by
  unfold waitA waitI
  rw [Array.toList_append, Array.toList_append]
  rfl
/-- what the walk asks of a new waiting write: its zero value, a letter; and how it is laid -/
theorem new_waiting (w : World) (D A : Int) : ∃ Z : Array Value, Z.size = 130 ∧ (∀ w, (Sem.run Tryz.prog (zeroValue 89) w) = .ok (.agg Z) w) ∧
    (storeCells ⟨w.heap.size, 0, none⟩ ((Z.toList.set 0 (.int .i64 D)).set 1 (.int .i64 A)) 0).run Tryz.prog (w.alloc (.cells Z 89)) = .ok () (w.alloc (.cells (waitI D A zeros) 89)) := by
  refine ⟨waitA ⟨0, 0, zeros⟩, waitA_size _, zero_waiting, ?_⟩
  rw [zset]
  exact run_storeCells_new w _ _ _ (by rw [waitI_size]; exact isize_waiting) (by rw [waitA_size, waitI_size]) (waitI_one D A zeros)

set_option maxRecDepth 100000 in
set_option maxHeartbeats 1600000 in
theorem write_size {B : Nat} (w : World) (r : Nat) (s : RS) (D A : Int) (v : Option Addr) (n c : Nat) (h : RackAt B w r s) (hn : n ≠ 128) :
    Calls Tryz.prog 21 #[.pointer (some ⟨r, 0, none⟩), .int .i64 D, .int .i64 A, .slice v n c] w fun e w' => e = .returned (.int .i64 1) ∧ w' = w := by
  have t1 : ((n : Int) = 128) = False := by simp; omega
  go_enter Tryz.func21, Tryz.ntmps21
  go_wp2_with fail
  go_ret
  exact ⟨rfl, rfl⟩

set_option maxRecDepth 100000 in
set_option maxHeartbeats 400000 in
theorem write_why {B : Nat} (w : World) (r : Nat) (s : RS) (D A : Int) (v : Option Addr) (c : Nat) (h : RackAt B w r s) (hw : s.why D A ≠ 0) :
    Calls Tryz.prog 21 #[.pointer (some ⟨r, 0, none⟩), .int .i64 D, .int .i64 A, .slice v 128 c] w fun e w' => e = .returned (.int .i64 (s.why D A)) ∧ RackAt B w' r s ∧ Keep B w w' := by
  have H1 := Lib.hid (h.alloc (.cells (waitI D A zeros) 89))
  have K1 := Lib.hid ((Keep.refl B w).alloc h.le (.cells (waitI D A zeros) 89))
  have b1 := Blk.new w 89 (waitI D A zeros)
  have p0 : (w.alloc (.cells (waitI D A zeros) 89)).cell? ⟨w.heap.size, 0, none⟩ = some (.int .i64 D) := (b1.cell 0).trans (waitI_0 _ _ _)
  have p1 : (w.alloc (.cells (waitI D A zeros) 89)).cell? ⟨w.heap.size, 1, none⟩ = some (.int .i64 A) := (b1.cell 1).trans (waitI_1 _ _ _)
  clear h b1
  obtain ⟨Z, hZs, hz, hst⟩ := new_waiting w D A
  go_enter Tryz.func21, Tryz.ntmps21
  go_wp2_with fail
  refine (reach_any _ r s D A H1.out).mono ?_
  rintro e w2 ⟨rfl, h2, k2, _, _⟩
  have H2 := Lib.hid h2
  have K2 := Lib.hid (K1.out.trans k2)
  clear h2 k2
  generalize hy : s.why D A = y at *
  have HY := Lib.hid hy
  clear hy
  have t1 : (y = 0) = False := by simp [hw]
  go_wp2_with fail
  go_ret
  rw [HY.out]
  exact ⟨rfl, H2.out, K2.out⟩

/-- behind a write that is carried out -/
def RS.wrote (s : RS) (d a : Nat) (X : Nat → Nat) : RS := { s with nw := s.nw + 1, W := fun i => if i = s.nw then ⟨d, a, X⟩ else s.W i, cost := s.cost + 1 }
theorem copyW (D A : Int) (X : Nat → Nat) : ((waitI D A zeros).toList.take 2 ++ (rowL 128 X ++ (waitI D A zeros).toList.drop (2 + (rowL 128 X).length))).toArray = waitI D A X := by
  have e1 : (waitI D A zeros).toList.take 2 = [.int .i64 D, .int .i64 A] := by
    unfold waitI
    rw [Array.toList_append, List.take_append_of_le_length (by simp)]
    rfl
  have e2 : (waitI D A zeros).toList.drop (2 + (rowL 128 X).length) = [] := by
    rw [List.drop_eq_nil_iff, Array.length_toList, waitI_size, rowL_length]
    omega
  have e3 : (secA X).toList = rowL 128 X := by
    apply List.ext_getElem?
    intro j
    rw [Array.getElem?_toList]
    by_cases hj : j < 128
    · rw [rowL_get X hj]
      exact rowArr_get hj
    · rw [Array.getElem?_eq_none (by rw [secA_size]; omega), List.getElem?_eq_none (by rw [rowL_length]; omega)]
  rw [e1, e2, List.append_nil, ← e3]
  unfold waitI
  apply Array.toList_inj.1
  simp
theorem spent_same (s : RS) : s.spent.nd = s.nd ∧ s.spent.ns = s.ns ∧ s.spent.nw = s.nw ∧ s.spent.W = s.W ∧ s.spent.cost = s.cost ∧ s.spent.last = s.last ∧ s.spent.gone = s.gone := by
  unfold RS.spent
  split
  · exact ⟨rfl, rfl, rfl, rfl, rfl, rfl, rfl⟩
  · split
    · exact ⟨rfl, rfl, rfl, rfl, rfl, rfl, rfl⟩
    · split <;> exact ⟨rfl, rfl, rfl, rfl, rfl, rfl, rfl⟩

section
variable {B : Nat} {a w w' w4 w5 w6 w7 : World} {r m1 m2 : Nat} {v v' : Value} {s : RS}
theorem Keep.grownRow (h : Keep B a w) {n c : Nat} {xs : List Value} (hr : w.ownsRow B 89 c v n xs) (hB : B ≤ w.heap.size) (hg : w.grownBy w' v.ownBlock) : Keep B a w' := by
  cases hv : v.ownBlock with
  | none =>
    rw [hv] at hg
    exact h.new ⟨hg.os, hg.tape, hg.output, hg.size, fun k hk => hg.block k hk (fun e => by cases e)⟩ hB
  | some g =>
    rw [hv] at hg
    obtain ⟨h1, cs, h2⟩ := own_blk hr hv
    exact h.of_grown hg h1 hB (fun o ho => by
      unfold Blk at h2
      rw [h2] at ho
      injection ho with ho
      subst ho
      rfl)
/-- a rack behind the append and the store of a write -/
theorem RackK.wrote (h : RackK B w4 r m1 m2 v s s.nw) {d a : Nat} {X : Nat → Nat} (hg5 : w4.grownBy w5 (some m2)) (hm5 : MapF w5 m2 (s.nw + 1) (putF (fun d a => (newIn s.W d a s.nw).map iv) d a (.int .i64 (s.nw : Int)))) (n6 : Below w5.heap.size w5 w6)
    (hg7 : w6.grownBy w7 v.ownBlock) (hr7 : w7.ownsRow B 89 130 v' (s.nw + 1) (flat s.W s.nw ++ (waitI d a X).toList)) : RackW B (w7.setCell ⟨r, 3, none⟩ v') r m1 m2 v' (s.wrote d a X) := by
  obtain ⟨n, F, f1, f2, f3⟩ := h.last
  have b5 := h.blk.grown hg5 (fun e => h.ne2 (by injection e with e; exact e.symm))
  have b7 := (b5.new_ n6).grown hg7 (fun e => h.row_ne e.symm)
  have l5 := f2.grown hg5 (fun e => h.ne (by injection e))
  have l7 := (l5.block (n6.block m1 l5.lt)).grown hg7 (fun e => h.row_ne1 e.symm)
  have k7 := (hm5.block (n6.block m2 hm5.lt)).grown hg7 (fun e => h.row_ne2 e.symm)
  have hne : v'.ownBlock ≠ some r := fun e => by
    obtain ⟨_, cs, hb⟩ := own_blk hr7 e
    exact Blk.ne_ hb b7 (by decide) rfl
  have eW : (s.wrote d a X).W s.nw = ⟨d, a, X⟩ := if_pos rfl
  have eV : ∀ i, i < s.nw → (s.wrote d a X).W i = s.W i := fun i hi => if_neg (Nat.ne_of_lt hi)
  refine ⟨?_, h.hr, h.h1, h.h2, h.ne, ⟨n, F, ?_, l7.setCell (p := ⟨r, 3, none⟩) h.ne1 _, f3⟩, ?_, ?_⟩
  · have := b7.set_ 3 v'
    rw [rackA_set (s' := s.wrote d a X) (m1' := m1) (m2' := m2) (v' := v') (u := v') (by omega) rfl (fun j hj hn => by
      unfold rackCell
      simp only [RS.wrote, if_neg hn])] at this
    exact this
  · show n + (s.nw + 1) ≤ s.cost + 1
    omega
  · refine (k7.setCell (p := ⟨r, 3, none⟩) h.ne2 _).congr fun d' a' _ _ => ?_
    have h1 := newIn_put (s.wrote d a X).W s.nw d' a'
    rw [eW] at h1
    refine Eq.trans ?_ h1
    unfold putF
    dsimp only
    rw [newIn_congr (W := (s.wrote d a X).W) (V := s.W) (fun i hi => by rw [eV i hi]; exact ⟨rfl, rfl⟩)]
  · have e : flat (s.wrote d a X).W (s.wrote d a X).nw = flat s.W s.nw ++ (waitI d a X).toList := by
      show flat (s.wrote d a X).W s.nw ++ (waitA ((s.wrote d a X).W s.nw)).toList = _
      rw [eW, flat_congr eV]
      rfl
    rw [e]
    refine ⟨hr7.1, ?_⟩
    rcases hr7.2 with e | ⟨g, cap, cur, rfl, g1, g2, g3⟩
    · exact .inl e
    · exact .inr ⟨g, cap, cur, rfl, g1, (Below.heap_setCell w7 ⟨r, 3, none⟩ _ g (fun e => hne (by rw [e]; rfl))).trans g2, g3⟩
theorem RS.ok.wrote (h : s.ok) {d a : Nat} {X : Nat → Nat} (hd : d < s.nd) (ha : a < s.ns) (hX : ∀ j, j < 128 → X j < 256) (hc : s.cost + 1 ≤ 1000000) : (s.wrote d a X).ok := by
  refine ⟨h.nd1, h.nd2, h.ns1, h.ns2, h.left, hc, fun i hi => ?_, h.lp⟩
  by_cases e : i = s.nw
  · have : (s.wrote d a X).W i = ⟨d, a, X⟩ := if_pos e
    rw [this]
    exact ⟨hd, ha, hX⟩
  · have : (s.wrote d a X).W i = s.W i := if_neg e
    rw [this]
    exact h.wp i (by have : i < s.nw + 1 := hi; omega)
end

theorem info_waiting : (Tryz.prog.info? 89).map (fun i => (i.zero, i.size, i.bytes)) = some (some (.agg (waitI 0 0 zeros)), 130, 144) := by kernel_rfl
theorem isize_waits : (Tryz.prog.info? 64).map (·.size) = some 1 := by kernel_rfl
theorem bs_waiting (D A : Int) (X : Nat → Nat) (w : World) : (Instr.buildSlice 64 1 #[(0, .agg (waitI D A X))]).run Tryz.prog w = .ok (.slice (some ⟨w.heap.size, 0, none⟩) 1 1) (w.alloc (.cells (waitI D A X) 89)) := by kernel_rfl
theorem waitI_cells1 (D A : Int) (X : Nat → Nat) : (waitI D A X).toList.length = 1 * 130 := by rw [Array.length_toList, waitI_size]
theorem wp_append_wait {w : World} {o : Oper} {a : Act} {K : Act → World → Prop} {Q : Exit → Act → World → Prop} (s x : Operand) (ho : o.op = .call { callee := .builtin .append, args := #[s, x], argTypes := #[64, 64] })
    (B : Nat) (v : Value) (n : Nat) (xs : List Value) (hs : a.eval s = v) (hown : w.ownsRow B 89 130 v n xs) (g : Nat) (D A : Int) (X : Nat → Nat) (hx : a.eval x = .slice (some ⟨g, 0, none⟩) 1 1) (hb : Blk w g 89 (waitI D A X))
    (hn : n ≤ 1000000) (hB : B ≤ w.heap.size)
    (h : ∀ g' cap w', w'.ownsRow B 89 130 (.slice (some ⟨g', 0, none⟩) (n + 1) cap) (n + 1) (xs ++ (waitI D A X).toList) → w.grownBy w' v.ownBlock → (v.ownBlock = some g' ∨ g' = w.heap.size) → g' < w'.heap.size → K (a.put o.dst (.slice (some ⟨g', 0, none⟩) (n + 1) cap)) w') : o.wp Tryz.prog a w K Q := by
  obtain ⟨i0, hi, hz0, hz1, hz2⟩ := info_parts info_waiting
  have hl : (Value.agg (waitI 0 0 zeros)).cells.size = 130 := waitI_size 0 0 zeros
  exact wp_append_lies w s x 64 ho B 89 i0 (.agg (waitI 0 0 zeros)) 130 144 Tryz.underlying64 hi hz0 hz1 hz2 hl (by omega) v n xs hs hown ⟨g, 0, none⟩ 1 1 (waitI D A X).toList hx (waitI_cells1 D A X) (World.news_of_block hb) (fun u hu => (Array.all_eq_true_iff_forall_mem.1 (waitI_one D A X)) u (by simpa using hu)) (by omega) (by simp only [maxLen]; omega) (by omega) hB _ rfl h
def AppS (r wx : Nat) (v : Value) (cs : Array Value) (w : World) : Prop := w.cell? ⟨r, 3, none⟩ = some v ∧ Blk w wx 89 cs

set_option maxRecDepth 100000 in
set_option maxHeartbeats 1600000 in
theorem write_go {B : Nat} (w : World) (r : Nat) (s S' : RS) (E : Int) (d a gb o c : Nat) (X : Nat → Nat) (t : TypeId) (cs : Array Value) (h : RackAt B w r s) (hd : d < s.nd) (ha : a < s.ns) (hgone : s.gone d = false) (hb : Blk w gb t cs) (ht : (t == 68 || t == 89) = false)
    (hX : ∀ j, j < 128 → cs[o + j]? = some (.int .u8 ((X j : Nat) : Int)) ∧ X j < 256) (hcost : s.cost + 1 ≤ 1000000) (hE : E = if s.pow then 0 else 16) (hS : S' = if s.pow then s.spent.wrote d a X else s.spent) :
    Calls Tryz.prog 21 #[.pointer (some ⟨r, 0, none⟩), .int .i64 (d : Int), .int .i64 (a : Int), .slice (some ⟨gb, o, none⟩) 128 c] w fun e w' => e = .returned (.int .i64 E) ∧ RackAt B w' r S' ∧ Keep B w w' := by
  have HE := Lib.hid hE
  have HS := Lib.hid hS
  clear hE hS
  have hwhy : s.why (d : Int) (a : Int) = 0 := by
    have e : s.isP (d : Int) (a : Int) = true := by simp [RS.isP, RS.isD]; omega
    unfold RS.why
    rw [if_pos e, Int.toNat_natCast, hgone]
    rfl
  have H1 := Lib.hid (h.alloc (.cells (waitI d a zeros) 89))
  have K1 := Lib.hid ((Keep.refl B w).alloc h.le (.cells (waitI d a zeros) 89))
  have b1 := Blk.new w 89 (waitI d a zeros)
  have BX1 := Lib.hid b1
  have p0 : (w.alloc (.cells (waitI d a zeros) 89)).cell? ⟨w.heap.size, 0, none⟩ = some (.int .i64 (d : Int)) := (b1.cell 0).trans (waitI_0 _ _ _)
  have p1 : (w.alloc (.cells (waitI d a zeros) 89)).cell? ⟨w.heap.size, 1, none⟩ = some (.int .i64 (a : Int)) := (b1.cell 1).trans (waitI_1 _ _ _)
  obtain ⟨h0, m1, m2, v, hw⟩ := h
  have H0 := Lib.hid h0
  have HW1 := Lib.hid (hw.alloc (.cells (waitI d a zeros) 89))
  obtain ⟨l0, l1, l2, l3⟩ := hw.lts
  have HB := Lib.hid hb
  have hgs := hb.lt
  have HX := Lib.hid hX
  have hB := hw.le
  clear b1 h0 hw hb hX
  obtain ⟨Z, hZs, hz, hst⟩ := new_waiting w d a
  go_enter Tryz.func21, Tryz.ntmps21
  go_wp2_with fail
  refine (reach_any _ r s d a H1.out).mono ?_
  rintro e w2 ⟨rfl, _, k2, _, n2⟩
  have K2 := Lib.hid (K1.out.trans k2)
  have HW2 := Lib.hid (HW1.out.below n2)
  have BX2 := Lib.hid (BX1.out.new_ n2)
  clear k2 n2 p0 p1 hst
  rw [hwhy]
  clear hwhy
  go_wp2_with fail
  refine (powered_w _ r s H0.out HW2.out).mono ?_
  rintro e w3 ⟨rfl, ⟨h3, hw3⟩, k3, g3⟩
  have K3 := Lib.hid (K2.out.trans k3)
  have BX3 := Lib.hid (BX2.out.grown g3 (fun e => by injection e with e; omega))
  have HW3 := Lib.hid hw3
  have OK3 := Lib.hid h3
  clear hw3 k3 g3 h3
  by_cases hp : s.pow = true
  rotate_left
  · have hp' : s.pow = false := by simpa using hp
    rw [hp']
    have HP := Lib.hid hp'
    clear hp hp'
    go_wp2_with fail
    go_ret
    rw [HE.out, HS.out, HP.out]
    exact ⟨rfl, ⟨OK3.out, m1, m2, v, HW3.out⟩, K3.out⟩
  rw [hp]
  have HP := Lib.hid hp
  clear hp
  have HB3 := Lib.hid (K3.out.block HB.out ht)
  have hcp := run_copy_row (P := Tryz.prog) w3 51 51 3 5 w.heap.size 2 128 128 ⟨gb, o, none⟩ 128 c (waitI d a zeros) 89 (rowL 128 X) Tryz.underlying51 (by kernel_rfl) BX3.out (by rw [rowL_length]; rfl) (fun j u hj => by
    have hjn : j < 128 := by have := (List.getElem?_eq_some_iff.1 hj).1; rw [rowL_length] at this; exact this
    rw [rowL_get X hjn] at hj
    injection hj with hj
    subst hj
    rw [add_plain]
    exact (HB3.out.cell _).trans (HX.out j hjn).1) (by rw [rowL_length, waitI_size]; omega) (fun u hu => by
    simp only [rowL, List.mem_map] at hu
    obtain ⟨j, _, rfl⟩ := hu
    rfl)
  rw [List.append_assoc, copyW, rowL_length] at hcp
  have BX4 : Hid (Blk (w3.setRow w.heap.size (waitI d a X)) w.heap.size 89 (waitI d a X)) := by
    have h := BX3.out
    unfold Blk at h
    show (w3.setRow w.heap.size (waitI d a X)).heap[w.heap.size]? = _
    simp [World.setRow, Array.getElem?_modify, h]
  have g4 : w3.grownBy (w3.setRow w.heap.size (waitI d a X)) (some w.heap.size) := ⟨rfl, rfl, rfl, by simp [World.setRow], fun k hk hne => by
    simp only [World.setRow, Array.getElem?_modify]
    rw [if_neg (fun e => hne (by rw [e]))]⟩
  have hz3 : w.heap.size ≤ w3.heap.size := K3.out.below.size
  have HW4 := Lib.hid (HW3.out.grownOut g4 (by omega) (by omega) (by omega) (fun e => by have := l3 _ e; omega))
  have K4 := Lib.hid (K3.out.grownNew g4 hB (by omega) (Nat.le_refl _))
  generalize w3.setRow w.heap.size (waitI d a X) = w4 at *
  clear g4 HW3 K3 BX3
  have EE := Lib.hid (spent_same s)
  have c3 := HW4.out.c3
  have c4 := HW4.out.c4
  obtain ⟨A3, c3n, hv3⟩ : ∃ A3 c3n, v = .slice A3 s.spent.nw c3n := by
    rcases HW4.out.row.2 with ⟨rfl, e⟩ | ⟨g, cap, cur, rfl, _⟩
    · exact ⟨none, 0, by rw [e]⟩
    · exact ⟨_, _, rfl⟩
  subst hv3
  have q0 : w4.cell? ⟨w.heap.size, 0, none⟩ = some (.int .i64 (d : Int)) := (BX4.out.cell 0).trans (waitI_0 _ _ _)
  have q1 : w4.cell? ⟨w.heap.size, 1, none⟩ = some (.int .i64 (a : Int)) := (BX4.out.cell 1).trans (waitI_1 _ _ _)
  go_wp2_with fail
  refine region_quiet_tail 11 (by kernel_rfl) (by kernel_rfl) ?_
  simp only [List.take_succ_cons, List.take_zero, List.drop_succ_cons, List.drop_zero]
  repeat (quiet_step (fail))
  refine wpQuiet_nil ?_
  rintro _ ⟨nq, rfl⟩
  refine wpList_mapPut rfl _ _ _ 65 3 rfl Tryz.underlying65 m2 s.spent.nw _ rfl (HW4.out.newest.drewN nq) (by simp only [maxLen]; have := HW4.out.nw_le; have := EE.out; omega) d a (by have := H0.out.nd2; omega) (by have := H0.out.ns2; omega) (.int .i64 (s.spent.nw : Int)) rfl rfl rfl ?_
  intro w5 hm5 hg5 hs5
  have M5 := Lib.hid hm5
  have G5 := Lib.hid hg5
  clear hm5 hg5
  go_wp2_with fail
  have hc35 : w5.cell? ⟨r, 3, none⟩ = some (.slice A3 s.spent.nw c3n) := (((HW4.out.drewN nq).blk.grown G5.out (fun e => HW4.out.ne2 (by injection e with e; exact e.symm))).cell 3).trans (rackA_get _ _ _ _ (by omega))
  have bx5 : Blk w5 w.heap.size 89 (waitI d a X) := (BX4.out.drewN nq).grown G5.out (fun e => by injection e with e; omega)
  have HS5 := Lib.hid (⟨hc35, bx5⟩ : AppS r w.heap.size (.slice A3 s.spent.nw c3n) (waitI d a X) w5)
  clear hc35 bx5
  refine region_anyZ (AppS r w.heap.size (.slice A3 s.spent.nw c3n) (waitI d a X)) 10 (by kernel_rfl) ?_
  refine AnyZ.take (i := 0) rfl (by kernel_rfl) (by kernel_rfl) (by kernel_rfl) (by kernel_rfl) (fun _ _ _ h => h) (yields_if rfl (fun w hS => rfl)) HS5.out ?_
  refine AnyZ.take (i := 1) rfl (by kernel_rfl) (by kernel_rfl) (by kernel_rfl) (by kernel_rfl) (fun _ _ _ h => h) (yields_if rfl (fun w hS => rfl)) HS5.out ?_
  refine AnyZ.take (i := 2) rfl (by kernel_rfl) (by kernel_rfl) (by kernel_rfl) (by kernel_rfl) (fun _ _ _ h => h) (yields_if rfl (fun w hS => rfl)) HS5.out ?_
  refine AnyZ.take (i := 3) (v := .pointer (some ⟨r, 3, none⟩)) rfl (by kernel_rfl) (by kernel_rfl) (by kernel_rfl) (by kernel_rfl) (fun _ _ _ h => h) (yields_if rfl (fun w hS => by kernel_rfl)) HS5.out ?_
  refine AnyZ.take (i := 4) rfl (by kernel_rfl) (by kernel_rfl) (by kernel_rfl) (by kernel_rfl) (fun _ _ _ h => h) (yields_if rfl (fun w hS => exec_load (x := .tmp 47) (v := .slice A3 s.spent.nw c3n) rfl (by kernel_rfl) (load_one Tryz.underlying64 rfl hS.1))) HS5.out ?_
  refine AnyZ.take (i := 5) rfl (by kernel_rfl) (by kernel_rfl) (by kernel_rfl) (by kernel_rfl) (fun _ _ _ h => h) (yields_if rfl (fun w hS => exec_load (x := .tmp 9) (v := .agg (waitI d a X)) rfl (by kernel_rfl) (load_blk hS.2 Tryz.underlying89 rfl (by rw [waitI_size]; exact isize_waiting)))) HS5.out ?_
  have EV : Hid (S' = s.spent.wrote d a X ∧ E = 0) := Lib.hid ⟨by rw [HS.out, HP.out]; rfl, by rw [HE.out, HP.out]; rfl⟩
  refine AnyZ.one (i := 6) (by kernel_rfl) ?_
  refine wpOp_val rfl rfl (exec_buildSlice1 (x := .tmp 49) (u := .agg (waitI d a X)) rfl (by kernel_rfl) (bs_waiting d a X w5.drew)) ⟨fun _ => ?_, ?_⟩
  · exact ⟨(World.cell?_of_block (Below.heap_alloc w5.drew _ r (by have := HW4.out.lts.1; have := G5.out.size; exact Nat.lt_of_lt_of_le ‹_› this))).trans HS5.out.1, Blk.alloc (w := w5.drew) HS5.out.2 _⟩
  refine AnyZ.one (i := 7) (by kernel_rfl) ?_
  refine wpOp_op rfl rfl ?_
  have R6 : Hid (RackK B ((w4.drewN nq)) r m1 m2 (.slice A3 s.spent.nw c3n) s.spent s.spent.nw) := Lib.hid (HW4.out.drewN nq)
  have row6 : (w5.drew.alloc (.cells (waitI d a X) 89)).ownsRow B 89 130 (.slice A3 s.spent.nw c3n) s.spent.nw (flat s.spent.W s.spent.nw) := by
    refine ⟨R6.out.row.1, ?_⟩
    rcases R6.out.row.2 with e | ⟨g, cap, cur, e, k1, k2, k3⟩
    · exact .inl e
    · have hgg : w5.heap[g]? = some (.cells cur 89 (0, 0)) := (G5.out.block g (Array.getElem?_eq_some_iff.1 k2).1 (fun x => R6.out.row_ne2 (by rw [← x, e]; rfl))).trans k2
      exact .inr ⟨g, cap, cur, e, k1, (Below.heap_alloc w5.drew _ g (Array.getElem?_eq_some_iff.1 hgg).1).trans hgg, k3⟩
  refine wp_append_wait (.tmp 48) (.tmp 50) (by kernel_rfl) B (.slice A3 s.spent.nw c3n) s.spent.nw (flat s.spent.W s.spent.nw) (by kernel_rfl) row6 w5.heap.size d a X (by kernel_rfl) (Blk.new w5.drew _ _) ?_ ?_ ?_
  · have := R6.out.nw_le
    have := EE.out
    omega
  · have := G5.out.size
    have := HW4.out.le
    simp
    have : w4.heap.size ≤ w5.heap.size := G5.out.size
    omega
  intro g7 cap7 w7 hr7 hg7 ho7 hl7
  have n6 : Below w5.heap.size w5 (w5.drew.alloc (.cells (waitI d a X) 89)) := ((Below.refl w5.heap.size w5).drew).alloc (Nat.le_refl _) _
  have R8 := Lib.hid (R6.out.wrote G5.out M5.out n6 hg7 hr7)
  have hB6 : B ≤ (w5.drew.alloc (.cells (waitI d a X) 89)).heap.size := by
    have := HW4.out.le
    have : w4.heap.size ≤ w5.heap.size := G5.out.size
    simp
    omega
  have K5 := (K4.out.drewN nq).ofMap (HW4.out.newest.drewN nq) G5.out HW4.out.h2
  have K7 := ((K5.new n6 (by have := HW4.out.le; have : w4.heap.size ≤ w5.heap.size := G5.out.size; omega))).grownRow row6 hB6 hg7
  have b7 : Blk w7 r 68 (rackA s.spent m1 (.slice A3 s.spent.nw c3n) m2) := ((R6.out.blk.grown G5.out (fun e => R6.out.ne2 (by injection e with e; exact e.symm))).new_ n6).grown hg7 (fun e => R6.out.row_ne e.symm)
  have K8 := Lib.hid (K7.setRack b7 R6.out.hr 3 (.slice (some ⟨g7, 0, none⟩) (s.spent.nw + 1) cap7))
  have c7 : (w7.cell? ⟨r, 3, none⟩).isSome = true := by
    rw [b7.cell, rackA_get _ _ _ _ (by omega)]
    rfl
  have f7 := b7.frozen 3
  have hst : (Instr.storeAt 64 (.pointer (some ⟨r, 3, none⟩)) (.slice (some ⟨g7, 0, none⟩) (s.spent.nw + 1) cap7)).run Tryz.prog w7 = .ok () (w7.setCell ⟨r, 3, none⟩ (.slice (some ⟨g7, 0, none⟩) (s.spent.nw + 1) cap7)) :=
    store_one isize_waits rfl rfl c7 f7 (add_plain _ _ _)
  have hS7 : AppS r w.heap.size (.slice A3 s.spent.nw c3n) (waitI d a X) w7 := by
    refine ⟨(b7.cell 3).trans (rackA_get _ _ _ _ (by omega)), ?_⟩
    exact (HS5.out.2.new_ n6).grown hg7 (fun e => by have := l3 _ e.symm; omega)
  clear hr7 hg7 ho7 hl7 K5 K7 b7 c7 f7 n6 row6
  refine ⟨fun _ => hS7, ?_⟩
  refine AnyZ.one (i := 8) (by kernel_rfl) ?_
  refine wpOp_val (v := .pointer (some ⟨r, 0, none⟩)) (w' := w7) rfl rfl (by kernel_rfl) ⟨fun _ => hS7, ?_⟩
  refine AnyZ.one (i := 9) (by kernel_rfl) ?_
  refine wpOp_val (v := .pointer (some ⟨r, 3, none⟩)) (w' := w7) rfl rfl (by kernel_rfl) ⟨fun _ => hS7, ?_⟩
  refine AnyZ.last_ (by kernel_rfl) (by kernel_rfl) rfl ?_
  refine wpOp_skip rfl rfl (exec_store (x := .tmp 53) (y := .tmp 51) rfl (by kernel_rfl) (by kernel_rfl) hst) ?_
  have OKW := Lib.hid (OK3.out.wrote (X := X) (by rw [EE.out.1]; exact hd) (by rw [EE.out.2.1]; exact ha) (fun j hj => (HX.out j hj).2) (by rw [EE.out.2.2.2.2.1]; exact hcost))
  generalize w7.setCell ⟨r, 3, none⟩ (.slice (some ⟨g7, 0, none⟩) (s.spent.nw + 1) cap7) = w8 at *
  clear hst hS7
  clear c4 c3 q0 q1 hcp hz hs5 l3
  go_wp2_with fail
  go_ret
  rw [EV.out.1, EV.out.2]
  exact ⟨by kernel_rfl, ⟨OKW.out, m1, m2, _, R8.out⟩, K8.out⟩
end Go.Proofs.YthioanenljpclaaGreatDoor
