/-
  Two lists of blocks that are the same, two lines that are the same, compared by the document's own text. No conditions beyond those that each theorem types.
-/
import Derived.Test.YtpoacgofbbfhcaaDeadRows
import Derived.Test.YtpoacgofbbfhcaaDeadRight
namespace Go.Proofs.Ytpoacgofbbfhcaa
open Go Go.RowKit
set_option maxRecDepth 100000
set_option linter.unusedVariables false
namespace Dd
def Cell4 (w : World) (g o : Nat) (p : Pt) : Prop := w.cell? ⟨g, o, none⟩ = some (.int .i64 p.addr) ∧ w.cell? ⟨g, o + 1, none⟩ = some (.int .i64 p.size) ∧ w.cell? ⟨g, o + 2, none⟩ = some (.int .i64 p.birth) ∧ w.cell? ⟨g, o + 3, none⟩ = some (.string p.sum)
theorem cell4_of {w : World} {g o : Nat} {p : Pt} (h : ∀ j u, (csP p)[j]? = some u → w.cell? ⟨g, o + j, none⟩ = some u) : Cell4 w g o p :=
  ⟨by have := h 0 _ rfl; rw [Nat.add_zero] at this; exact this, h 1 _ rfl, h 2 _ rfl, h 3 _ rfl⟩
theorem load_pt {w : World} {g o : Nat} {p : Pt} (h : Cell4 w g o p) : (Instr.loadAt 27 (.pointer (some ⟨g, o, none⟩))).run Try.prog w = .ok (.agg #[.int .i64 p.addr, .int .i64 p.size, .int .i64 p.birth, .string p.sum]) w := by
  have := run_loadAt_mid (P := Try.prog) w g o 27 [.int .i64 p.addr, .int .i64 p.size, .int .i64 p.birth, .string p.sum] _ (fun j v hj => by
    match j, hj with
    | 0, hj => injection hj with hj; subst hj; exact h.1
    | 1, hj => injection hj with hj; subst hj; exact h.2.1
    | 2, hj => injection hj with hj; subst hj; exact h.2.2.1
    | 3, hj => injection hj with hj; subst hj; exact h.2.2.2
    | j + 4, hj => simp at hj) Try.underlying27 rfl (by kernel_rfl)
  exact this
theorem eqG_agg {P : Program} (op : BinOp) (t : TypeId) (x y : Operand) (a b : Array Value) (h : (!P.eqGuardType P.depth t) = true) (w : World) : (eqGuard op t x y (.agg a) (.agg b)).run P w = .ok () w := by
  have h2 : P.eqGuardType P.depth t = false := by simpa using h
  unfold eqGuard
  cases op <;> simp [Sem.run_bind, run_program, h2]
theorem neq_pt (p : Pt) (W : World) : (binOp .neq 27 (.agg #[.int .i64 p.addr, .int .i64 p.size, .int .i64 p.birth, .string p.sum]) (.agg #[.int .i64 p.addr, .int .i64 p.size, .int .i64 p.birth, .string p.sum])).run Try.prog W = .ok (.bool false) W := by
  simp [go_sem, run_neq_struct]
theorem index_pt (b o n c i : Nat) (h : i < n) (w : World) : (Instr.indexAt 23 (.slice (some ⟨b, o, none⟩) n c) (.int .i64 (i : Int))).run Try.prog w = .ok (.pointer (some ⟨b, o + i * 4, none⟩)) w :=
  Gr.index_gen Try.underlying23 (by kernel_rfl) b o n c i h w
theorem neq_int (a : Int) (W : World) : (binOp .neq 3 (.int .i64 a) (.int .i64 a)).run Try.prog W = .ok (.bool false) W := by
  rw [show binOp .neq 3 (.int .i64 a) (.int .i64 a) = pure (.bool (a != a)) from rfl]
  simp
set_option maxHeartbeats 3200000 in
theorem same_at (w : World) (D : List Pt) (A1 A2 : Option Addr) (c1 c2 n : Nat) (hn : n = D.length) (hL : n ≤ big) (h1 : RdP w A1 D) (h2 : RdP w A2 D) :
    Calls Try.prog 20 #[.slice A1 n c1, .slice A2 n c2] w fun e w' => e = .returned (.bool true) ∧ Below w.heap.size w w' := by
  have HN := Lib.hid hn
  have H1 := Lib.hid h1
  have H2 := Lib.hid h2
  have L0 : Hid (Below w.heap.size w w) := Lib.hid (Below.refl _ _)
  unfold big at hL
  clear hn h1 h2
  go_enter Try.func20, Try.ntmps20
  go_wp2_with fail
  go_loopw [5] (fun y wr => ∃ i : Nat, i ≤ n ∧ y = .int .i64 (i : Int) ∧ Hid (Below w.heap.size w wr)) (fun y _ => n - (intOf y).toNat)
  case atStart => exact ⟨0, by omega, rfl, L0⟩
  case round =>
    clear L0
    obtain ⟨i, hi, rfl, L0⟩ := hrel
    by_cases hlt : i < n
    · have i1 : (i : Int) < (n : Int) := by omega
      have hil : i < D.length := by have := HN.out; omega
      obtain ⟨p, hp⟩ : ∃ p, p = D[i] := ⟨_, rfl⟩
      have hpi : D[i]? = some p := by rw [hp]; exact List.getElem?_eq_getElem hil
      obtain ⟨g, o, hA1, _, k1⟩ := (H1.out.below L0.out) i p hpi
      obtain ⟨g2, o2, hA2, _, k2⟩ := (H2.out.below L0.out) i p hpi
      subst hA1 hA2
      have HS := Lib.hid (show Cell4 wr.drew g (o + i * 4) p ∧ Cell4 wr.drew g2 (o2 + i * 4) p from ⟨cell4_of k1, cell4_of k2⟩)
      have L1 : Hid (Below w.heap.size w wr.drew) := Lib.hid L0.out.drew
      clear hpi hp hil k1 k2 L0
      go_upto_region 6 with (fail)
      refine region_anyZ (fun w' => Cell4 w' g (o + i * 4) p ∧ Cell4 w' g2 (o2 + i * 4) p) 9 (by kernel_rfl) ?_
      refine takeG 0 (.move (.tmp 0)) (some 17) none (.slice (some ⟨g, o, none⟩) n c1) (by kernel_rfl) (by kernel_rfl) (by kernel_rfl) (fun _ _ _ h => h) (fun o' wq e hS => exec_move wq e (by kernel_rfl)) HS.out ?_
      refine takeG 1 (.move (.tmp 5)) (some 18) none (.int .i64 (i : Int)) (by kernel_rfl) (by kernel_rfl) (by kernel_rfl) (fun _ _ _ h => h) (fun o' wq e hS => exec_move wq e (by kernel_rfl)) HS.out ?_
      refine takeG 2 (.indexAddr 23 (.tmp 17) (.tmp 18)) (some 19) none (.pointer (some ⟨g, o + i * 4, none⟩)) (by kernel_rfl) (by kernel_rfl) (by kernel_rfl) (fun _ _ _ h => h) (fun o' wq e hS => exec_index (u1 := .slice (some ⟨g, o, none⟩) n c1) (u2 := .int .i64 (i : Int)) wq e (by kernel_rfl) (by kernel_rfl) (index_pt g o n c1 i hlt _)) HS.out ?_
      refine takeG 3 (.load 27 (.tmp 19)) (some 20) none (.agg #[.int .i64 p.addr, .int .i64 p.size, .int .i64 p.birth, .string p.sum]) (by kernel_rfl) (by kernel_rfl) (by kernel_rfl) (fun _ _ _ h => h) (fun o' wq e hS => exec_load (x := (.tmp 19)) e (by kernel_rfl) (load_pt hS.1)) HS.out ?_
      refine takeG 4 (.move (.tmp 1)) (some 21) none (.slice (some ⟨g2, o2, none⟩) n c2) (by kernel_rfl) (by kernel_rfl) (by kernel_rfl) (fun _ _ _ h => h) (fun o' wq e hS => exec_move wq e (by kernel_rfl)) HS.out ?_
      refine takeG 5 (.move (.tmp 5)) (some 22) none (.int .i64 (i : Int)) (by kernel_rfl) (by kernel_rfl) (by kernel_rfl) (fun _ _ _ h => h) (fun o' wq e hS => exec_move wq e (by kernel_rfl)) HS.out ?_
      refine takeG 6 (.indexAddr 23 (.tmp 21) (.tmp 22)) (some 23) none (.pointer (some ⟨g2, o2 + i * 4, none⟩)) (by kernel_rfl) (by kernel_rfl) (by kernel_rfl) (fun _ _ _ h => h) (fun o' wq e hS => exec_index (u1 := .slice (some ⟨g2, o2, none⟩) n c2) (u2 := .int .i64 (i : Int)) wq e (by kernel_rfl) (by kernel_rfl) (index_pt g2 o2 n c2 i hlt _)) HS.out ?_
      refine takeG 7 (.load 27 (.tmp 23)) (some 24) none (.agg #[.int .i64 p.addr, .int .i64 p.size, .int .i64 p.birth, .string p.sum]) (by kernel_rfl) (by kernel_rfl) (by kernel_rfl) (fun _ _ _ h => h) (fun o' wq e hS => exec_load (x := (.tmp 23)) e (by kernel_rfl) (load_pt hS.2)) HS.out ?_
      refine lastS 8 (.binOp .neq 27 (.tmp 20) (.tmp 24) 27) (some 25) (.bool false) (by kernel_rfl) (by kernel_rfl) (by kernel_rfl) HS.out (fun o' e => exec_bin (u1 := .agg #[.int .i64 p.addr, .int .i64 p.size, .int .i64 p.birth, .string p.sum]) (u2 := .agg #[.int .i64 p.addr, .int .i64 p.size, .int .i64 p.birth, .string p.sum]) _ e (by kernel_rfl) (by kernel_rfl) (eqG_agg _ _ _ _ _ _ (by kernel_rfl) _) (neq_pt p _)) ?_
      simp only [put_some, put_none, List.setIfInBounds_toArray, List.set_cons_succ, List.set_cons_zero]
      clear HS
      go_wp2_with fail
      go_roundw
      case rel => exact ⟨i + 1, by omega, by go_num, L1⟩
      case measure => simp [intOf]; omega
    · have i1 : ¬ ((i : Int) < (n : Int)) := by omega
      clear hlt
      go_wp2_with fail
      go_ret
      exact ⟨rfl, L0.out⟩
def SL (ro r2 g o g2 o2 i : Nat) (bs t : Int) (n c : Nat) (A' : Option Addr) (m c' : Nat) (q q' : Nat) (B' : Option Addr) (A3 : Option Addr) (m3 c3 : Nat) (A4 : Option Addr) (c4 : Nat) (W : World) : Prop :=
  (Blk W ro 25 #[.int .i64 bs, .slice (some ⟨g, o, none⟩) n c, .slice A' m c'] ∧ Blk W r2 25 #[.int .i64 bs, .slice (some ⟨g2, o2, none⟩) n q, .slice B' m q']) ∧
  (W.cell? ⟨g, o + i * 2, none⟩ = some (.int .i64 t) ∧ W.cell? ⟨g, o + i * 2 + 1, none⟩ = some (.slice A3 m3 c3)) ∧ W.cell? ⟨g2, o2 + i * 2, none⟩ = some (.int .i64 t) ∧ W.cell? ⟨g2, o2 + i * 2 + 1, none⟩ = some (.slice A4 m3 c4)
set_option maxHeartbeats 12800000 in
theorem sameline_at (w : World) (L : Ln) (A A' B B' : Option Addr) (c c' q q' : Nat) (hf : Fit L) (hs : RdS w A L.snaps) (hd : RdP w A' L.dead) (hs2 : RdS w B L.snaps) (hd2 : RdP w B' L.dead) :
    Calls Try.prog 14 #[.agg #[.int .i64 L.base, .slice A L.snaps.length c, .slice A' L.dead.length c'], .agg #[.int .i64 L.base, .slice B L.snaps.length q, .slice B' L.dead.length q']] w fun e w' => e = .returned (.bool true) ∧ Below w.heap.size w w' := by
  obtain ⟨n, hn⟩ : ∃ n, n = L.snaps.length := ⟨_, rfl⟩
  obtain ⟨m, hm⟩ : ∃ m, m = L.dead.length := ⟨_, rfl⟩
  have HN := Lib.hid hn
  have HM := Lib.hid hm
  have HF := Lib.hid hf
  have hnb : n ≤ big := by rw [hn]; exact hf.ns
  unfold big at hnb
  rw [← hn, ← hm]
  obtain ⟨bs, hbs⟩ : ∃ bs, bs = L.base := ⟨_, rfl⟩
  rw [← hbs]
  obtain ⟨W, hW⟩ : ∃ W, W = (w.alloc (.cells #[.int .i64 bs, .slice A n c, .slice A' m c'] 25)).alloc (.cells #[.int .i64 bs, .slice B n q, .slice B' m q'] 25) := ⟨_, rfl⟩
  obtain ⟨ro, hro⟩ : ∃ ro, ro = w.heap.size := ⟨_, rfl⟩
  obtain ⟨r2, hr2⟩ : ∃ r2, r2 = ro + 1 := ⟨_, rfl⟩
  have hs0 : (w.alloc (.cells #[.int .i64 bs, .slice A n c, .slice A' m c'] 25)).heap.size = ro + 1 := by rw [hro]; simp
  have hb : Below w.heap.size w W := by rw [hW]; exact ((Below.refl _ _).alloc (Nat.le_refl _) _).alloc (by rw [hs0, hro]; omega) _
  have X : Blk W ro 25 #[.int .i64 bs, .slice A n c, .slice A' m c'] := by rw [hW, hro]; exact (Blk.new _ _ _).alloc _
  have X2 : Blk W r2 25 #[.int .i64 bs, .slice B n q, .slice B' m q'] := by
    have h := Blk.new (w.alloc (.cells #[.int .i64 bs, .slice A n c, .slice A' m c'] 25)) 25 #[.int .i64 bs, .slice B n q, .slice B' m q']
    rw [hs0, ← hr2] at h
    rw [hW]
    exact h
  have HRS := Lib.hid (⟨⟨hs.below hb, hd.below hb⟩, hs2.below hb, hd2.below hb⟩ : (RdS W A L.snaps ∧ RdP W A' L.dead) ∧ RdS W B L.snaps ∧ RdP W B' L.dead)
  have HX := Lib.hid X
  have HX2 := Lib.hid X2
  have L1 := Lib.hid hb
  have HSD : Hid (∀ W2, Below W.heap.size W W2 → Calls Try.prog 20 #[.slice A' m c', .slice B' m q'] W2 fun e w' => e = .returned (.bool true) ∧ Below W2.heap.size W2 w') := Lib.hid fun W2 hb2 => same_at W2 L.dead A' B' c' q' m HM.out (by rw [HM.out]; exact HF.out.nd) (HRS.out.1.2.below hb2) (HRS.out.2.2.below hb2)
  have d0 : W.cell? ⟨ro, 0, none⟩ = some (.int .i64 bs) := X.cell 0
  have d1 : W.cell? ⟨ro, 1, none⟩ = some (.slice A n c) := X.cell 1
  have d2 : W.cell? ⟨ro, 2, none⟩ = some (.slice A' m c') := X.cell 2
  have f0 : W.cell? ⟨r2, 0, none⟩ = some (.int .i64 bs) := X2.cell 0
  have f1 : W.cell? ⟨r2, 1, none⟩ = some (.slice B n q) := X2.cell 1
  have f2 : W.cell? ⟨r2, 2, none⟩ = some (.slice B' m q') := X2.cell 2
  have x1 : (bs != bs) = false := by simp
  clear hn hm hf hs hd hs2 hd2 hb X X2 hbs hs0
  go_enter Try.func14, Try.ntmps14
  go_upto_region 1 with (fail)
  rw [← hro, ← hr2, ← hW]
  clear hW hro hr2
  go_wp2_with fail
  refine (HSD.out _ (Below.refl _ _)).mono ?_
  rintro e w2 ⟨rfl, b2⟩
  have L2 := Lib.hid b2
  clear b2 d0 d1 d2 f0 f1 f2 HSD
  go_wp2_with fail
  go_loopw [5] (fun y wr => ∃ i : Nat, i ≤ n ∧ y = .int .i64 (i : Int) ∧ Hid (Below W.heap.size W wr)) (fun y _ => n - (intOf y).toNat)
  case atStart => exact ⟨0, by omega, rfl, L2⟩
  case round =>
    clear L2
    obtain ⟨i, hi, rfl, LW⟩ := hrel
    have HXr := Lib.hid (HX.out.below LW.out HX.out.lt)
    have HXr2 := Lib.hid (HX2.out.below LW.out HX2.out.lt)
    have c0 : wr.cell? ⟨ro, 1, none⟩ = some (.slice A n c) := HXr.out.cell 1
    by_cases hlt : i < n
    · have i1 : (i : Int) < (n : Int) := by omega
      have hil : i < L.snaps.length := by have := HN.out; omega
      obtain ⟨s, hse⟩ : ∃ s, s = L.snaps[i] := ⟨_, rfl⟩
      have hsi : L.snaps[i]? = some s := by rw [hse]; exact List.getElem?_eq_getElem hil
      obtain ⟨g, o, A3, c3, hA, hgb, k0, k1, hrp⟩ := (HRS.out.1.1.below LW.out) i s hsi
      obtain ⟨g2, o2, A4, c4, hB, hgb2, j0, j1, hrp2⟩ := (HRS.out.2.1.below LW.out) i s hsi
      obtain ⟨m3, hm3⟩ : ∃ m3, m3 = s.dead.length := ⟨_, rfl⟩
      have hsb : m3 ≤ big := by rw [hm3]; exact HF.out.sd s (List.mem_of_getElem? hsi)
      obtain ⟨t, ht⟩ : ∃ t, t = s.txg := ⟨_, rfl⟩
      rw [← ht] at k0 j0
      rw [← hm3] at k1 j1
      subst hA hB
      have HY1 : Hid (∀ W2, Below wr.heap.size wr W2 → Calls Try.prog 20 #[.slice A3 m3 c3, .slice A4 m3 c4] W2 fun e w' => e = .returned (.bool true) ∧ Below W2.heap.size W2 w') := Lib.hid fun W2 hb2 => same_at W2 s.dead A3 A4 c3 c4 m3 hm3 hsb (hrp.1.below hb2) (hrp2.1.below hb2)
      have HSB : Hid (∀ W2, Below wr.heap.size wr W2 → SL ro r2 g o g2 o2 i bs t n c A' m c' q q' B' A3 m3 c3 A4 c4 W2) := Lib.hid fun W2 hb2 => ⟨⟨HXr.out.below hb2 HXr.out.lt, HXr2.out.below hb2 HXr2.out.lt⟩, ⟨(hb2.cell (p := ⟨g, o + i * 2, none⟩) hgb).trans k0, (hb2.cell (p := ⟨g, o + i * 2 + 1, none⟩) hgb).trans k1⟩, (hb2.cell (p := ⟨g2, o2 + i * 2, none⟩) hgb2).trans j0, (hb2.cell (p := ⟨g2, o2 + i * 2 + 1, none⟩) hgb2).trans j1⟩
      have LX0 : Hid (Below wr.heap.size wr wr.drew) := Lib.hid (Below.refl _ _).drew
      have HS := Lib.hid (HSB.out _ LX0.out)
      have HWR : Hid (W.heap.size ≤ wr.heap.size) := Lib.hid LW.out.size
      clear hil hse hsi hgb hgb2 k0 k1 j0 j1 hrp hrp2 hm3 hsb ht
      go_upto_region 6 with (fail)
      refine region_anyZ (SL ro r2 g o g2 o2 i bs t n c A' m c' q q' B' A3 m3 c3 A4 c4) 29 (by kernel_rfl) ?_
      refine takeG 0 (.fieldAddr 25 (.tmp 2) 1) (some 35) none (.pointer (some ⟨ro, 1, none⟩)) (by kernel_rfl) (by kernel_rfl) (by kernel_rfl) (fun _ _ _ h => h) (fun o' wq e hS => exec_field (u := .pointer (some ⟨ro, 0, none⟩)) wq e (by kernel_rfl) (by kernel_rfl)) HS.out ?_
      refine takeG 1 (.load 22 (.tmp 35)) (some 36) none (.slice (some ⟨g, o, none⟩) n c) (by kernel_rfl) (by kernel_rfl) (by kernel_rfl) (fun _ _ _ h => h) (fun o' wq e hS => exec_load (x := (.tmp 35)) e (by kernel_rfl) (load_one Try.underlying22 (by kernel_rfl) (hS.1.1.cell 1))) HS.out ?_
      refine takeG 2 (.move (.tmp 5)) (some 37) none (.int .i64 (i : Int)) (by kernel_rfl) (by kernel_rfl) (by kernel_rfl) (fun _ _ _ h => h) (fun o' wq e hS => exec_move wq e (by kernel_rfl)) HS.out ?_
      refine takeG 3 (.indexAddr 22 (.tmp 36) (.tmp 37)) (some 38) none (.pointer (some ⟨g, o + i * 2, none⟩)) (by kernel_rfl) (by kernel_rfl) (by kernel_rfl) (fun _ _ _ h => h) (fun o' wq e hS => exec_index (u1 := .slice (some ⟨g, o, none⟩) n c) (u2 := .int .i64 (i : Int)) wq e (by kernel_rfl) (by kernel_rfl) (index_rsn g o n c i hlt _)) HS.out ?_
      refine takeG 4 (.fieldAddr 72 (.tmp 38) 0) (some 39) none (.pointer (some ⟨g, o + i * 2, none⟩)) (by kernel_rfl) (by kernel_rfl) (by kernel_rfl) (fun _ _ _ h => h) (fun o' wq e hS => exec_field (u := .pointer (some ⟨g, o + i * 2, none⟩)) wq e (by kernel_rfl) (by kernel_rfl)) HS.out ?_
      refine takeG 5 (.load 3 (.tmp 39)) (some 40) none (.int .i64 t) (by kernel_rfl) (by kernel_rfl) (by kernel_rfl) (fun _ _ _ h => h) (fun o' wq e hS => exec_load (x := (.tmp 39)) e (by kernel_rfl) (load_one Try.underlying3 (by kernel_rfl) hS.2.1.1)) HS.out ?_
      refine takeG 6 (.fieldAddr 25 (.tmp 3) 1) (some 41) none (.pointer (some ⟨r2, 1, none⟩)) (by kernel_rfl) (by kernel_rfl) (by kernel_rfl) (fun _ _ _ h => h) (fun o' wq e hS => exec_field (u := .pointer (some ⟨r2, 0, none⟩)) wq e (by kernel_rfl) (by kernel_rfl)) HS.out ?_
      refine takeG 7 (.load 22 (.tmp 41)) (some 42) none (.slice (some ⟨g2, o2, none⟩) n q) (by kernel_rfl) (by kernel_rfl) (by kernel_rfl) (fun _ _ _ h => h) (fun o' wq e hS => exec_load (x := (.tmp 41)) e (by kernel_rfl) (load_one Try.underlying22 (by kernel_rfl) (hS.1.2.cell 1))) HS.out ?_
      refine takeG 8 (.move (.tmp 5)) (some 43) none (.int .i64 (i : Int)) (by kernel_rfl) (by kernel_rfl) (by kernel_rfl) (fun _ _ _ h => h) (fun o' wq e hS => exec_move wq e (by kernel_rfl)) HS.out ?_
      refine takeG 9 (.indexAddr 22 (.tmp 42) (.tmp 43)) (some 44) none (.pointer (some ⟨g2, o2 + i * 2, none⟩)) (by kernel_rfl) (by kernel_rfl) (by kernel_rfl) (fun _ _ _ h => h) (fun o' wq e hS => exec_index (u1 := .slice (some ⟨g2, o2, none⟩) n q) (u2 := .int .i64 (i : Int)) wq e (by kernel_rfl) (by kernel_rfl) (index_rsn g2 o2 n q i hlt _)) HS.out ?_
      refine takeG 10 (.fieldAddr 72 (.tmp 44) 0) (some 45) none (.pointer (some ⟨g2, o2 + i * 2, none⟩)) (by kernel_rfl) (by kernel_rfl) (by kernel_rfl) (fun _ _ _ h => h) (fun o' wq e hS => exec_field (u := .pointer (some ⟨g2, o2 + i * 2, none⟩)) wq e (by kernel_rfl) (by kernel_rfl)) HS.out ?_
      refine takeG 11 (.load 3 (.tmp 45)) (some 46) none (.int .i64 t) (by kernel_rfl) (by kernel_rfl) (by kernel_rfl) (fun _ _ _ h => h) (fun o' wq e hS => exec_load (x := (.tmp 45)) e (by kernel_rfl) (load_one Try.underlying3 (by kernel_rfl) hS.2.2.1)) HS.out ?_
      refine takeG 12 (.binOp .neq 3 (.tmp 40) (.tmp 46) 3) (some 47) none (.bool false) (by kernel_rfl) (by kernel_rfl) (by kernel_rfl) (fun _ _ _ h => h) (fun o' wq e hS => exec_bin (u1 := .int .i64 t) (u2 := .int .i64 t) wq e (by kernel_rfl) (by kernel_rfl) (eqG_int ..) (neq_int t _)) HS.out ?_
      refine takeG 13 (.move (.tmp 47)) (some 48) none (.bool false) (by kernel_rfl) (by kernel_rfl) (by kernel_rfl) (fun _ _ _ h => h) (fun o' wq e hS => exec_move wq e (by kernel_rfl)) HS.out ?_
      refine takeG 14 (.fieldAddr 25 (.tmp 2) 1) (some 49) (some (13, false)) (.pointer (some ⟨ro, 1, none⟩)) (by kernel_rfl) (by kernel_rfl) (by kernel_rfl) (fun _ _ _ h => h) (fun o' wq e hS => exec_field (u := .pointer (some ⟨ro, 0, none⟩)) wq e (by kernel_rfl) (by kernel_rfl)) HS.out ?_
      refine takeG 15 (.load 22 (.tmp 49)) (some 50) (some (13, false)) (.slice (some ⟨g, o, none⟩) n c) (by kernel_rfl) (by kernel_rfl) (by kernel_rfl) (fun _ _ _ h => h) (fun o' wq e hS => exec_load (x := (.tmp 49)) e (by kernel_rfl) (load_one Try.underlying22 (by kernel_rfl) (hS.1.1.cell 1))) HS.out ?_
      refine takeG 16 (.move (.tmp 5)) (some 51) (some (13, false)) (.int .i64 (i : Int)) (by kernel_rfl) (by kernel_rfl) (by kernel_rfl) (fun _ _ _ h => h) (fun o' wq e hS => exec_move wq e (by kernel_rfl)) HS.out ?_
      refine takeG 17 (.indexAddr 22 (.tmp 50) (.tmp 51)) (some 52) (some (13, false)) (.pointer (some ⟨g, o + i * 2, none⟩)) (by kernel_rfl) (by kernel_rfl) (by kernel_rfl) (fun _ _ _ h => h) (fun o' wq e hS => exec_index (u1 := .slice (some ⟨g, o, none⟩) n c) (u2 := .int .i64 (i : Int)) wq e (by kernel_rfl) (by kernel_rfl) (index_rsn g o n c i hlt _)) HS.out ?_
      refine takeG 18 (.fieldAddr 72 (.tmp 52) 1) (some 53) (some (13, false)) (.pointer (some ⟨g, o + i * 2 + 1, none⟩)) (by kernel_rfl) (by kernel_rfl) (by kernel_rfl) (fun _ _ _ h => h) (fun o' wq e hS => exec_field (u := .pointer (some ⟨g, o + i * 2, none⟩)) wq e (by kernel_rfl) (by kernel_rfl)) HS.out ?_
      refine takeG 19 (.load 23 (.tmp 53)) (some 54) (some (13, false)) (.slice A3 m3 c3) (by kernel_rfl) (by kernel_rfl) (by kernel_rfl) (fun _ _ _ h => h) (fun o' wq e hS => exec_load (x := (.tmp 53)) e (by kernel_rfl) (load_one Try.underlying23 (by kernel_rfl) hS.2.1.2)) HS.out ?_
      refine takeG 20 (.fieldAddr 25 (.tmp 3) 1) (some 55) (some (13, false)) (.pointer (some ⟨r2, 1, none⟩)) (by kernel_rfl) (by kernel_rfl) (by kernel_rfl) (fun _ _ _ h => h) (fun o' wq e hS => exec_field (u := .pointer (some ⟨r2, 0, none⟩)) wq e (by kernel_rfl) (by kernel_rfl)) HS.out ?_
      refine takeG 21 (.load 22 (.tmp 55)) (some 56) (some (13, false)) (.slice (some ⟨g2, o2, none⟩) n q) (by kernel_rfl) (by kernel_rfl) (by kernel_rfl) (fun _ _ _ h => h) (fun o' wq e hS => exec_load (x := (.tmp 55)) e (by kernel_rfl) (load_one Try.underlying22 (by kernel_rfl) (hS.1.2.cell 1))) HS.out ?_
      refine takeG 22 (.move (.tmp 5)) (some 57) (some (13, false)) (.int .i64 (i : Int)) (by kernel_rfl) (by kernel_rfl) (by kernel_rfl) (fun _ _ _ h => h) (fun o' wq e hS => exec_move wq e (by kernel_rfl)) HS.out ?_
      refine takeG 23 (.indexAddr 22 (.tmp 56) (.tmp 57)) (some 58) (some (13, false)) (.pointer (some ⟨g2, o2 + i * 2, none⟩)) (by kernel_rfl) (by kernel_rfl) (by kernel_rfl) (fun _ _ _ h => h) (fun o' wq e hS => exec_index (u1 := .slice (some ⟨g2, o2, none⟩) n q) (u2 := .int .i64 (i : Int)) wq e (by kernel_rfl) (by kernel_rfl) (index_rsn g2 o2 n q i hlt _)) HS.out ?_
      refine takeG 24 (.fieldAddr 72 (.tmp 58) 1) (some 59) (some (13, false)) (.pointer (some ⟨g2, o2 + i * 2 + 1, none⟩)) (by kernel_rfl) (by kernel_rfl) (by kernel_rfl) (fun _ _ _ h => h) (fun o' wq e hS => exec_field (u := .pointer (some ⟨g2, o2 + i * 2, none⟩)) wq e (by kernel_rfl) (by kernel_rfl)) HS.out ?_
      refine takeG 25 (.load 23 (.tmp 59)) (some 60) (some (13, false)) (.slice A4 m3 c4) (by kernel_rfl) (by kernel_rfl) (by kernel_rfl) (fun _ _ _ h => h) (fun o' wq e hS => exec_load (x := (.tmp 59)) e (by kernel_rfl) (load_one Try.underlying23 (by kernel_rfl) hS.2.2.2)) HS.out ?_
      refine loneG 26 (.call ⟨.value (.func 20), #[(.tmp 54), (.tmp 60)], #[23, 23]⟩) (some 61) (some (13, false)) (by kernel_rfl) (by kernel_rfl) (by kernel_rfl) ?_
      intro o' ho hod
      refine wp_callC (f := 20) (args := #[.slice A3 m3 c3, .slice A4 m3 c4]) (by cases o'; cases ho; kernel_rfl) (HY1.out _ LX0.out) ?_
      rintro ee W1 ⟨rfl, b1⟩
      have LX1 := Lib.hid (LX0.out.trans (b1.mono LX0.out.size))
      have HS1 := Lib.hid (HSB.out _ LX1.out)
      refine ⟨.bool true, rfl, ?_⟩
      rw [hod]
      clear hod ho b1
      refine ⟨fun _ => HS1.out, ?_⟩
      refine takeG 27 (.unOp .not 4 (.tmp 61)) (some 62) (some (13, false)) (.bool false) (by kernel_rfl) (by kernel_rfl) (by kernel_rfl) (fun _ _ _ h => h) (fun o' wq e hS => exec_un (u := .bool true) wq e (by kernel_rfl) (by kernel_rfl)) HS1.out ?_
      refine lastS 28 (.pick (.tmp 48) (.const (Value.bool true)) (.tmp 62)) (some 63) (.bool false) (by kernel_rfl) (by kernel_rfl) (by kernel_rfl) HS1.out (fun o' e => exec_pick (b := false) _ e (by kernel_rfl) (by kernel_rfl)) ?_
      simp only [put_some, put_none, List.setIfInBounds_toArray, List.set_cons_succ, List.set_cons_zero]
      have LZ : Hid (Below W.heap.size W W1) := Lib.hid (LW.out.trans (LX1.out.mono HWR.out))
      clear HS1 HS
      go_wp2_with fail
      go_roundw
      case rel => exact ⟨i + 1, by omega, by go_num, LZ⟩
      case measure => simp [intOf]; omega
    · have i1 : ¬ ((i : Int) < (n : Int)) := by omega
      clear hlt
      go_wp2_with fail
      go_ret
      exact ⟨rfl, L1.out.trans (LW.out.mono L1.out.size)⟩
end Dd
end Go.Proofs.Ytpoacgofbbfhcaa
