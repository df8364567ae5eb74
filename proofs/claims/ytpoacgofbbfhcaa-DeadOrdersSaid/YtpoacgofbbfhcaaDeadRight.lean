/-
  Is a line in form? The document's answer by a contract. The conditions: the line can be read, its lengths are ints.
-/
import Derived.Test.YtpoacgofbbfhcaaDeadRead
namespace Go.Proofs.Ytpoacgofbbfhcaa
open Go Go.RowKit
set_option maxRecDepth 100000
set_option linter.unusedVariables false
namespace Dd
theorem load_rln {w : World} {g : Nat} {x u v : Value} (h : Blk w g 25 #[x, u, v]) : (Instr.loadAt 25 (.pointer (some ⟨g, 0, none⟩))).run Try.prog w = .ok (.agg #[x, u, v]) w := by
  have := run_loadAt_mid (P := Try.prog) w g 0 25 [x, u, v] _ (fun j v hj => by rw [Nat.zero_add, h.cell]; simpa using hj) Try.underlying25 rfl (by kernel_rfl)
  exact this
theorem index_rsn (b o n c i : Nat) (h : i < n) (w : World) : (Instr.indexAt 22 (.slice (some ⟨b, o, none⟩) n c) (.int .i64 (i : Int))).run Try.prog w = .ok (.pointer (some ⟨b, o + i * 2, none⟩)) w :=
  Gr.index_gen Try.underlying22 (by kernel_rfl) b o n c i h w
theorem leq_is (a b : Int) (r : Bool) (h : decide (a ≤ b) = r) (W : World) : (binOp .leq 3 (.int .i64 a) (.int .i64 b)).run Try.prog W = .ok (.bool r) W := by rw [← h]; rfl
def SR (ro g o i : Nat) (bs t : Int) (A : Option Addr) (n c : Nat) (A' : Option Addr) (m c' : Nat) (A2 : Option Addr) (m2 c2 : Nat) (W : World) : Prop :=
  Blk W ro 25 #[.int .i64 bs, .slice A n c, .slice A' m c'] ∧ W.cell? ⟨g, o + i * 2, none⟩ = some (.int .i64 t) ∧ W.cell? ⟨g, o + i * 2 + 1, none⟩ = some (.slice A2 m2 c2)
set_option maxHeartbeats 12800000 in
theorem rright_at (w : World) (L : Ln) (A A' : Option Addr) (c c' : Nat) (hf : Fit L) (hs : RdS w A L.snaps) (hd : RdP w A' L.dead) :
    Calls Try.prog 11 #[.agg #[.int .i64 L.base, .slice A L.snaps.length c, .slice A' L.dead.length c']] w fun e w' => e = .returned (.bool (rightL L)) ∧ Below w.heap.size w w' := by
  obtain ⟨n, hn⟩ : ∃ n, n = L.snaps.length := ⟨_, rfl⟩
  obtain ⟨m, hm⟩ : ∃ m, m = L.dead.length := ⟨_, rfl⟩
  have HN := Lib.hid hn
  have HM := Lib.hid hm
  obtain ⟨R, hR⟩ : ∃ R, R = rightL L := ⟨_, rfl⟩
  have HR := Lib.hid hR
  have HF := Lib.hid hf
  have hnb : n ≤ big := by rw [hn]; exact hf.ns
  unfold big at hnb
  rw [← hn, ← hm, ← hR]
  obtain ⟨W, hW⟩ : ∃ W, W = w.alloc (.cells #[.int .i64 L.base, .slice A n c, .slice A' m c'] 25) := ⟨_, rfl⟩
  have hb : Below w.heap.size w W := by rw [hW]; exact (Below.refl _ _).alloc (Nat.le_refl _) _
  have X : Blk W w.heap.size 25 #[.int .i64 L.base, .slice A n c, .slice A' m c'] := by rw [hW]; exact Blk.new _ _ _
  have HRS := Lib.hid (⟨hs.below hb, hd.below hb⟩ : RdS W A L.snaps ∧ RdP W A' L.dead)
  obtain ⟨ro, hro⟩ : ∃ ro, ro = w.heap.size := ⟨_, rfl⟩
  have HRO := Lib.hid hro
  rw [← hro] at X
  have HX := Lib.hid X
  have L1 := Lib.hid hb
  have HAH : Hid (∀ (W2 : World) (i : Nat), i ≤ n → Below W.heap.size W W2 → Calls Try.prog 27 #[.agg #[.int .i64 L.base, .slice A n c, .slice A' m c'], .int .i64 (i : Int)] W2 fun e w' => e = .returned (.int .i64 (aheadL L i)) ∧ Below W2.heap.size W2 w') := Lib.hid fun W2 i hi hb2 => rahead_at W2 L A A' c c' n m i HN.out hi (HRS.out.1.below hb2) (by rw [HN.out]; exact HF.out.ns)
  obtain ⟨bs, hbs⟩ : ∃ bs, bs = L.base := ⟨_, rfl⟩
  rw [← hbs] at X HX HAH hW ⊢
  have HBS := Lib.hid hbs
  have d0 : W.cell? ⟨ro, 0, none⟩ = some (.int .i64 bs) := X.cell 0
  clear hn hm hR hf hs hd hb X hbs
  by_cases hneg : bs < 0
  · have HQ : Hid (R = false) := Lib.hid (by
      rw [HR.out]
      exact rightL_no (i := 0) (Nat.zero_le _) (by show decide (0 ≤ L.base) = false; rw [← HBS.out]; simp; omega))
    go_enter Try.func11, Try.ntmps11
    go_upto_region 1 with (fail)
    rw [← hW, ← HRO.out]
    clear hW hro
    go_wp2_with fail
    go_ret
    rw [HQ.out]
    exact ⟨rfl, L1.out⟩
  · have HF0 : Hid (formTo L 0 = true) := Lib.hid (by show decide (0 ≤ L.base) = true; rw [← HBS.out]; simp; omega)
    have LW : Hid (Below W.heap.size W W) := Lib.hid (Below.refl _ _)
    go_enter Try.func11, Try.ntmps11
    go_upto_region 1 with (fail)
    rw [← hW, ← HRO.out]
    clear hW hro
    go_wp2_with fail
    clear d0
    go_loopw [3] (fun y wr => ∃ i : Nat, i ≤ n ∧ y = .int .i64 (i : Int) ∧ Hid (formTo L i = true) ∧ Hid (Below W.heap.size W wr)) (fun y _ => n - (intOf y).toNat)
    case atStart => exact ⟨0, by omega, rfl, HF0, LW⟩
    case round =>
      clear HF0 LW
      obtain ⟨i, hi, rfl, HF0, LW⟩ := hrel
      have HXr := Lib.hid (HX.out.below LW.out HX.out.lt)
      have c0 : wr.cell? ⟨ro, 1, none⟩ = some (.slice A n c) := HXr.out.cell 1
      by_cases hlt : i < n
      · have i1 : (i : Int) < (n : Int) := by omega
        have hil : i < L.snaps.length := by have := HN.out; omega
        obtain ⟨s, hse⟩ : ∃ s, s = L.snaps[i] := ⟨_, rfl⟩
        have hsi : L.snaps[i]? = some s := by rw [hse]; exact List.getElem?_eq_getElem hil
        obtain ⟨g, o, A2, c2, hA, hgb, k0, k1, hrp⟩ := (HRS.out.1.below LW.out) i s hsi
        have hstep := formTo_step hsi
        rw [HF0.out, Bool.true_and] at hstep
        obtain ⟨m2, hm2⟩ : ∃ m2, m2 = s.dead.length := ⟨_, rfl⟩
        have hsb : s.dead.length ≤ big := HF.out.sd s (List.mem_of_getElem? hsi)
        obtain ⟨t, ht⟩ : ∃ t, t = s.txg := ⟨_, rfl⟩
        obtain ⟨a, ha⟩ : ∃ a, a = aheadL L i := ⟨_, rfl⟩
        have HA1 : Hid (∀ W2, Below wr.heap.size wr W2 → Calls Try.prog 27 #[.agg #[.int .i64 bs, .slice A n c, .slice A' m c'], .int .i64 (i : Int)] W2 fun e w' => e = .returned (.int .i64 a) ∧ Below W2.heap.size W2 w') := Lib.hid fun W2 hb2 => by
          rw [ha]; exact HAH.out W2 i (by omega) (LW.out.trans (hb2.mono LW.out.size))
        obtain ⟨yy, hyy⟩ : ∃ yy, yy = youngL a s.dead := ⟨_, rfl⟩
        have HY1 : Hid (∀ W2, Below wr.heap.size wr W2 → Calls Try.prog 28 #[.slice A2 m2 c2, .int .i64 a] W2 fun e w' => e = .returned (.bool yy) ∧ Below W2.heap.size W2 w') := Lib.hid fun W2 hb2 => by
          rw [hyy, hm2]; exact ryoung_at W2 s.dead A2 c2 a hsb (hrp.1.below hb2)
        rw [← ht, ← ha, ← hyy] at hstep
        rw [← ht] at k0
        rw [← hm2] at k1
        have HSB : Hid (∀ W2, Below wr.heap.size wr W2 → SR ro g o i bs t A n c A' m c' A2 m2 c2 W2) := Lib.hid fun W2 hb2 => ⟨HXr.out.below hb2 HXr.out.lt, (hb2.cell (p := ⟨g, o + i * 2, none⟩) hgb).trans k0, (hb2.cell (p := ⟨g, o + i * 2 + 1, none⟩) hgb).trans k1⟩
        have LX0 : Hid (Below wr.heap.size wr wr.drew) := Lib.hid (Below.refl _ _).drew
        have HS := Lib.hid (HSB.out _ LX0.out)
        have HWR : Hid (W.heap.size ≤ wr.heap.size) := Lib.hid LW.out.size
        have HSTEP := Lib.hid hstep
        subst hA
        clear hil hse hsi hgb k1 hrp hstep hm2 hsb ht ha hyy
        by_cases hz : t ≤ a
        · have e1 : decide (t ≤ a) = true := by simp [hz]
          have HQ : Hid (R = false) := Lib.hid (by
            rw [HR.out]
            refine rightL_no (i := i + 1) (by have := HN.out; omega) ?_
            rw [HSTEP.out]
            have : decide (a < t) = false := by simp; omega
            rw [this]; rfl)
          clear HSTEP HY1 k0
          go_upto_region 6 with (fail)
          refine region_anyZ (SR ro g o i bs t (some ⟨g, o, none⟩) n c A' m c' A2 m2 c2) 23 (by kernel_rfl) ?_
          refine takeG 0 (.fieldAddr 25 (.tmp 1) 1) (some 14) none (.pointer (some ⟨ro, 1, none⟩)) (by kernel_rfl) (by kernel_rfl) (by kernel_rfl) (fun _ _ _ h => h) (fun o' wq e hS => exec_field (u := .pointer (some ⟨ro, 0, none⟩)) wq e (by kernel_rfl) (by kernel_rfl)) HS.out ?_
          refine takeG 1 (.load 22 (.tmp 14)) (some 15) none (.slice (some ⟨g, o, none⟩) n c) (by kernel_rfl) (by kernel_rfl) (by kernel_rfl) (fun _ _ _ h => h) (fun o' wq e hS => exec_load (x := (.tmp 14)) e (by kernel_rfl) (load_one Try.underlying22 (by kernel_rfl) (hS.1.cell 1))) HS.out ?_
          refine takeG 2 (.move (.tmp 3)) (some 16) none (.int .i64 (i : Int)) (by kernel_rfl) (by kernel_rfl) (by kernel_rfl) (fun _ _ _ h => h) (fun o' wq e hS => exec_move wq e (by kernel_rfl)) HS.out ?_
          refine takeG 3 (.indexAddr 22 (.tmp 15) (.tmp 16)) (some 17) none (.pointer (some ⟨g, o + i * 2, none⟩)) (by kernel_rfl) (by kernel_rfl) (by kernel_rfl) (fun _ _ _ h => h) (fun o' wq e hS => exec_index (u1 := .slice (some ⟨g, o, none⟩) n c) (u2 := .int .i64 (i : Int)) wq e (by kernel_rfl) (by kernel_rfl) (index_rsn g o n c i hlt _)) HS.out ?_
          refine takeG 4 (.fieldAddr 72 (.tmp 17) 0) (some 18) none (.pointer (some ⟨g, o + i * 2, none⟩)) (by kernel_rfl) (by kernel_rfl) (by kernel_rfl) (fun _ _ _ h => h) (fun o' wq e hS => exec_field (u := .pointer (some ⟨g, o + i * 2, none⟩)) wq e (by kernel_rfl) (by kernel_rfl)) HS.out ?_
          refine takeG 5 (.load 3 (.tmp 18)) (some 19) none (.int .i64 t) (by kernel_rfl) (by kernel_rfl) (by kernel_rfl) (fun _ _ _ h => h) (fun o' wq e hS => exec_load (x := (.tmp 18)) e (by kernel_rfl) (load_one Try.underlying3 (by kernel_rfl) hS.2.1)) HS.out ?_
          refine takeG 6 (.load 25 (.tmp 1)) (some 20) none (.agg #[.int .i64 bs, .slice (some ⟨g, o, none⟩) n c, .slice A' m c']) (by kernel_rfl) (by kernel_rfl) (by kernel_rfl) (fun _ _ _ h => h) (fun o' wq e hS => exec_load (x := (.tmp 1)) e (by kernel_rfl) (load_rln hS.1)) HS.out ?_
          refine takeG 7 (.move (.tmp 3)) (some 21) none (.int .i64 (i : Int)) (by kernel_rfl) (by kernel_rfl) (by kernel_rfl) (fun _ _ _ h => h) (fun o' wq e hS => exec_move wq e (by kernel_rfl)) HS.out ?_
          refine loneG 8 (.call ⟨.value (.func 27), #[(.tmp 20), (.tmp 21)], #[25, 3]⟩) (some 22) none (by kernel_rfl) (by kernel_rfl) (by kernel_rfl) ?_
          intro o' ho hod
          refine wp_callC (f := 27) (args := #[.agg #[.int .i64 bs, .slice (some ⟨g, o, none⟩) n c, .slice A' m c'], .int .i64 (i : Int)]) (by cases o'; cases ho; kernel_rfl) (HA1.out _ LX0.out) ?_
          rintro ee W1 ⟨rfl, b1⟩
          have LX1 := Lib.hid (LX0.out.trans (b1.mono LX0.out.size))
          have HS1 := Lib.hid (HSB.out _ LX1.out)
          refine ⟨.int .i64 a, rfl, ?_⟩
          rw [hod]
          clear hod ho b1
          refine ⟨fun _ => HS1.out, ?_⟩
          refine takeG 9 (.binOp .leq 3 (.tmp 19) (.tmp 22) 3) (some 23) none (.bool true) (by kernel_rfl) (by kernel_rfl) (by kernel_rfl) (fun _ _ _ h => h) (fun o' wq e hS => exec_bin (u1 := .int .i64 t) (u2 := .int .i64 a) wq e (by kernel_rfl) (by kernel_rfl) (eqG_int ..) (leq_is t a _ e1 _)) HS1.out ?_
          refine takeG 10 (.move (.tmp 23)) (some 24) none (.bool true) (by kernel_rfl) (by kernel_rfl) (by kernel_rfl) (fun _ _ _ h => h) (fun o' wq e hS => exec_move wq e (by kernel_rfl)) HS1.out ?_
          refine takeSkip 11 (.fieldAddr 25 (.tmp 1) 1) (some 25) (some (10, false)) (by kernel_rfl) (by kernel_rfl) (by kernel_rfl) (fun _ _ _ h => h) HS1.out ?_
          refine takeSkip 12 (.load 22 (.tmp 25)) (some 26) (some (10, false)) (by kernel_rfl) (by kernel_rfl) (by kernel_rfl) (fun _ _ _ h => h) HS1.out ?_
          refine takeSkip 13 (.move (.tmp 3)) (some 27) (some (10, false)) (by kernel_rfl) (by kernel_rfl) (by kernel_rfl) (fun _ _ _ h => h) HS1.out ?_
          refine takeSkip 14 (.indexAddr 22 (.tmp 26) (.tmp 27)) (some 28) (some (10, false)) (by kernel_rfl) (by kernel_rfl) (by kernel_rfl) (fun _ _ _ h => h) HS1.out ?_
          refine takeSkip 15 (.fieldAddr 72 (.tmp 28) 1) (some 29) (some (10, false)) (by kernel_rfl) (by kernel_rfl) (by kernel_rfl) (fun _ _ _ h => h) HS1.out ?_
          refine takeSkip 16 (.load 23 (.tmp 29)) (some 30) (some (10, false)) (by kernel_rfl) (by kernel_rfl) (by kernel_rfl) (fun _ _ _ h => h) HS1.out ?_
          refine takeSkip 17 (.load 25 (.tmp 1)) (some 31) (some (10, false)) (by kernel_rfl) (by kernel_rfl) (by kernel_rfl) (fun _ _ _ h => h) HS1.out ?_
          refine takeSkip 18 (.move (.tmp 3)) (some 32) (some (10, false)) (by kernel_rfl) (by kernel_rfl) (by kernel_rfl) (fun _ _ _ h => h) HS1.out ?_
          refine takeSkip 19 (.call ⟨.value (.func 27), #[(.tmp 31), (.tmp 32)], #[25, 3]⟩) (some 33) (some (10, false)) (by kernel_rfl) (by kernel_rfl) (by kernel_rfl) (fun _ _ _ h => h) HS1.out ?_
          refine takeSkip 20 (.call ⟨.value (.func 28), #[(.tmp 30), (.tmp 33)], #[23, 3]⟩) (some 34) (some (10, false)) (by kernel_rfl) (by kernel_rfl) (by kernel_rfl) (fun _ _ _ h => h) HS1.out ?_
          refine takeSkip 21 (.unOp .not 4 (.tmp 34)) (some 35) (some (10, false)) (by kernel_rfl) (by kernel_rfl) (by kernel_rfl) (fun _ _ _ h => h) HS1.out ?_
          refine lastS 22 (.pick (.tmp 24) (.const (Value.bool true)) (.tmp 35)) (some 36) (.bool true) (by kernel_rfl) (by kernel_rfl) (by kernel_rfl) HS1.out (fun o' e => exec_pick (b := true) _ e (by kernel_rfl) (by kernel_rfl)) ?_
          simp only [put_some, put_none, List.setIfInBounds_toArray, List.set_cons_succ, List.set_cons_zero]
          go_wp2_with fail
          go_ret
          rw [HQ.out]
          exact ⟨rfl, L1.out.trans ((LW.out.trans (LX1.out.mono HWR.out)).mono L1.out.size)⟩
        · have e1 : decide (t ≤ a) = false := by simp; omega
          have e2 : decide (a < t) = true := by simp; omega
          cases yy with
          | false =>
            have HQ : Hid (R = false) := Lib.hid (by
              rw [HR.out]
              refine rightL_no (i := i + 1) (by have := HN.out; omega) ?_
              rw [HSTEP.out, e2]; rfl)
            clear HSTEP k0
            go_upto_region 6 with (fail)
            refine region_anyZ (SR ro g o i bs t (some ⟨g, o, none⟩) n c A' m c' A2 m2 c2) 23 (by kernel_rfl) ?_
            refine takeG 0 (.fieldAddr 25 (.tmp 1) 1) (some 14) none (.pointer (some ⟨ro, 1, none⟩)) (by kernel_rfl) (by kernel_rfl) (by kernel_rfl) (fun _ _ _ h => h) (fun o' wq e hS => exec_field (u := .pointer (some ⟨ro, 0, none⟩)) wq e (by kernel_rfl) (by kernel_rfl)) HS.out ?_
            refine takeG 1 (.load 22 (.tmp 14)) (some 15) none (.slice (some ⟨g, o, none⟩) n c) (by kernel_rfl) (by kernel_rfl) (by kernel_rfl) (fun _ _ _ h => h) (fun o' wq e hS => exec_load (x := (.tmp 14)) e (by kernel_rfl) (load_one Try.underlying22 (by kernel_rfl) (hS.1.cell 1))) HS.out ?_
            refine takeG 2 (.move (.tmp 3)) (some 16) none (.int .i64 (i : Int)) (by kernel_rfl) (by kernel_rfl) (by kernel_rfl) (fun _ _ _ h => h) (fun o' wq e hS => exec_move wq e (by kernel_rfl)) HS.out ?_
            refine takeG 3 (.indexAddr 22 (.tmp 15) (.tmp 16)) (some 17) none (.pointer (some ⟨g, o + i * 2, none⟩)) (by kernel_rfl) (by kernel_rfl) (by kernel_rfl) (fun _ _ _ h => h) (fun o' wq e hS => exec_index (u1 := .slice (some ⟨g, o, none⟩) n c) (u2 := .int .i64 (i : Int)) wq e (by kernel_rfl) (by kernel_rfl) (index_rsn g o n c i hlt _)) HS.out ?_
            refine takeG 4 (.fieldAddr 72 (.tmp 17) 0) (some 18) none (.pointer (some ⟨g, o + i * 2, none⟩)) (by kernel_rfl) (by kernel_rfl) (by kernel_rfl) (fun _ _ _ h => h) (fun o' wq e hS => exec_field (u := .pointer (some ⟨g, o + i * 2, none⟩)) wq e (by kernel_rfl) (by kernel_rfl)) HS.out ?_
            refine takeG 5 (.load 3 (.tmp 18)) (some 19) none (.int .i64 t) (by kernel_rfl) (by kernel_rfl) (by kernel_rfl) (fun _ _ _ h => h) (fun o' wq e hS => exec_load (x := (.tmp 18)) e (by kernel_rfl) (load_one Try.underlying3 (by kernel_rfl) hS.2.1)) HS.out ?_
            refine takeG 6 (.load 25 (.tmp 1)) (some 20) none (.agg #[.int .i64 bs, .slice (some ⟨g, o, none⟩) n c, .slice A' m c']) (by kernel_rfl) (by kernel_rfl) (by kernel_rfl) (fun _ _ _ h => h) (fun o' wq e hS => exec_load (x := (.tmp 1)) e (by kernel_rfl) (load_rln hS.1)) HS.out ?_
            refine takeG 7 (.move (.tmp 3)) (some 21) none (.int .i64 (i : Int)) (by kernel_rfl) (by kernel_rfl) (by kernel_rfl) (fun _ _ _ h => h) (fun o' wq e hS => exec_move wq e (by kernel_rfl)) HS.out ?_
            refine loneG 8 (.call ⟨.value (.func 27), #[(.tmp 20), (.tmp 21)], #[25, 3]⟩) (some 22) none (by kernel_rfl) (by kernel_rfl) (by kernel_rfl) ?_
            intro o' ho hod
            refine wp_callC (f := 27) (args := #[.agg #[.int .i64 bs, .slice (some ⟨g, o, none⟩) n c, .slice A' m c'], .int .i64 (i : Int)]) (by cases o'; cases ho; kernel_rfl) (HA1.out _ LX0.out) ?_
            rintro ee W1 ⟨rfl, b1⟩
            have LX1 := Lib.hid (LX0.out.trans (b1.mono LX0.out.size))
            have HS1 := Lib.hid (HSB.out _ LX1.out)
            refine ⟨.int .i64 a, rfl, ?_⟩
            rw [hod]
            clear hod ho b1
            refine ⟨fun _ => HS1.out, ?_⟩
            refine takeG 9 (.binOp .leq 3 (.tmp 19) (.tmp 22) 3) (some 23) none (.bool false) (by kernel_rfl) (by kernel_rfl) (by kernel_rfl) (fun _ _ _ h => h) (fun o' wq e hS => exec_bin (u1 := .int .i64 t) (u2 := .int .i64 a) wq e (by kernel_rfl) (by kernel_rfl) (eqG_int ..) (leq_is t a _ e1 _)) HS1.out ?_
            refine takeG 10 (.move (.tmp 23)) (some 24) none (.bool false) (by kernel_rfl) (by kernel_rfl) (by kernel_rfl) (fun _ _ _ h => h) (fun o' wq e hS => exec_move wq e (by kernel_rfl)) HS1.out ?_
            refine takeG 11 (.fieldAddr 25 (.tmp 1) 1) (some 25) (some (10, false)) (.pointer (some ⟨ro, 1, none⟩)) (by kernel_rfl) (by kernel_rfl) (by kernel_rfl) (fun _ _ _ h => h) (fun o' wq e hS => exec_field (u := .pointer (some ⟨ro, 0, none⟩)) wq e (by kernel_rfl) (by kernel_rfl)) HS1.out ?_
            refine takeG 12 (.load 22 (.tmp 25)) (some 26) (some (10, false)) (.slice (some ⟨g, o, none⟩) n c) (by kernel_rfl) (by kernel_rfl) (by kernel_rfl) (fun _ _ _ h => h) (fun o' wq e hS => exec_load (x := (.tmp 25)) e (by kernel_rfl) (load_one Try.underlying22 (by kernel_rfl) (hS.1.cell 1))) HS1.out ?_
            refine takeG 13 (.move (.tmp 3)) (some 27) (some (10, false)) (.int .i64 (i : Int)) (by kernel_rfl) (by kernel_rfl) (by kernel_rfl) (fun _ _ _ h => h) (fun o' wq e hS => exec_move wq e (by kernel_rfl)) HS1.out ?_
            refine takeG 14 (.indexAddr 22 (.tmp 26) (.tmp 27)) (some 28) (some (10, false)) (.pointer (some ⟨g, o + i * 2, none⟩)) (by kernel_rfl) (by kernel_rfl) (by kernel_rfl) (fun _ _ _ h => h) (fun o' wq e hS => exec_index (u1 := .slice (some ⟨g, o, none⟩) n c) (u2 := .int .i64 (i : Int)) wq e (by kernel_rfl) (by kernel_rfl) (index_rsn g o n c i hlt _)) HS1.out ?_
            refine takeG 15 (.fieldAddr 72 (.tmp 28) 1) (some 29) (some (10, false)) (.pointer (some ⟨g, o + i * 2 + 1, none⟩)) (by kernel_rfl) (by kernel_rfl) (by kernel_rfl) (fun _ _ _ h => h) (fun o' wq e hS => exec_field (u := .pointer (some ⟨g, o + i * 2, none⟩)) wq e (by kernel_rfl) (by kernel_rfl)) HS1.out ?_
            refine takeG 16 (.load 23 (.tmp 29)) (some 30) (some (10, false)) (.slice A2 m2 c2) (by kernel_rfl) (by kernel_rfl) (by kernel_rfl) (fun _ _ _ h => h) (fun o' wq e hS => exec_load (x := (.tmp 29)) e (by kernel_rfl) (load_one Try.underlying23 (by kernel_rfl) hS.2.2)) HS1.out ?_
            refine takeG 17 (.load 25 (.tmp 1)) (some 31) (some (10, false)) (.agg #[.int .i64 bs, .slice (some ⟨g, o, none⟩) n c, .slice A' m c']) (by kernel_rfl) (by kernel_rfl) (by kernel_rfl) (fun _ _ _ h => h) (fun o' wq e hS => exec_load (x := (.tmp 1)) e (by kernel_rfl) (load_rln hS.1)) HS1.out ?_
            refine takeG 18 (.move (.tmp 3)) (some 32) (some (10, false)) (.int .i64 (i : Int)) (by kernel_rfl) (by kernel_rfl) (by kernel_rfl) (fun _ _ _ h => h) (fun o' wq e hS => exec_move wq e (by kernel_rfl)) HS1.out ?_
            refine loneG 19 (.call ⟨.value (.func 27), #[(.tmp 31), (.tmp 32)], #[25, 3]⟩) (some 33) (some (10, false)) (by kernel_rfl) (by kernel_rfl) (by kernel_rfl) ?_
            intro o' ho hod
            refine wp_callC (f := 27) (args := #[.agg #[.int .i64 bs, .slice (some ⟨g, o, none⟩) n c, .slice A' m c'], .int .i64 (i : Int)]) (by cases o'; cases ho; kernel_rfl) (HA1.out _ LX1.out) ?_
            rintro ee W2 ⟨rfl, b2⟩
            have LX2 := Lib.hid (LX1.out.trans (b2.mono LX1.out.size))
            have HS2 := Lib.hid (HSB.out _ LX2.out)
            refine ⟨.int .i64 a, rfl, ?_⟩
            rw [hod]
            clear hod ho b2
            refine ⟨fun _ => HS2.out, ?_⟩
            refine loneG 20 (.call ⟨.value (.func 28), #[(.tmp 30), (.tmp 33)], #[23, 3]⟩) (some 34) (some (10, false)) (by kernel_rfl) (by kernel_rfl) (by kernel_rfl) ?_
            intro o' ho hod
            refine wp_callC (f := 28) (args := #[.slice A2 m2 c2, .int .i64 a]) (by cases o'; cases ho; kernel_rfl) (HY1.out _ LX2.out) ?_
            rintro ee W3 ⟨rfl, b3⟩
            have LX3 := Lib.hid (LX2.out.trans (b3.mono LX2.out.size))
            have HS3 := Lib.hid (HSB.out _ LX3.out)
            refine ⟨.bool false, rfl, ?_⟩
            rw [hod]
            clear hod ho b3
            refine ⟨fun _ => HS3.out, ?_⟩
            refine takeG 21 (.unOp .not 4 (.tmp 34)) (some 35) (some (10, false)) (.bool true) (by kernel_rfl) (by kernel_rfl) (by kernel_rfl) (fun _ _ _ h => h) (fun o' wq e hS => exec_un (u := .bool false) wq e (by kernel_rfl) (by kernel_rfl)) HS3.out ?_
            refine lastS 22 (.pick (.tmp 24) (.const (Value.bool true)) (.tmp 35)) (some 36) (.bool true) (by kernel_rfl) (by kernel_rfl) (by kernel_rfl) HS3.out (fun o' e => exec_pick (b := false) _ e (by kernel_rfl) (by kernel_rfl)) ?_
            simp only [put_some, put_none, List.setIfInBounds_toArray, List.set_cons_succ, List.set_cons_zero]
            go_wp2_with fail
            go_ret
            rw [HQ.out]
            exact ⟨rfl, L1.out.trans ((LW.out.trans (LX3.out.mono HWR.out)).mono L1.out.size)⟩
          | true =>
            have HF1 : Hid (formTo L (i + 1) = true) := Lib.hid (by rw [HSTEP.out, e2]; rfl)
            clear HSTEP k0
            go_upto_region 6 with (fail)
            refine region_anyZ (SR ro g o i bs t (some ⟨g, o, none⟩) n c A' m c' A2 m2 c2) 23 (by kernel_rfl) ?_
            refine takeG 0 (.fieldAddr 25 (.tmp 1) 1) (some 14) none (.pointer (some ⟨ro, 1, none⟩)) (by kernel_rfl) (by kernel_rfl) (by kernel_rfl) (fun _ _ _ h => h) (fun o' wq e hS => exec_field (u := .pointer (some ⟨ro, 0, none⟩)) wq e (by kernel_rfl) (by kernel_rfl)) HS.out ?_
            refine takeG 1 (.load 22 (.tmp 14)) (some 15) none (.slice (some ⟨g, o, none⟩) n c) (by kernel_rfl) (by kernel_rfl) (by kernel_rfl) (fun _ _ _ h => h) (fun o' wq e hS => exec_load (x := (.tmp 14)) e (by kernel_rfl) (load_one Try.underlying22 (by kernel_rfl) (hS.1.cell 1))) HS.out ?_
            refine takeG 2 (.move (.tmp 3)) (some 16) none (.int .i64 (i : Int)) (by kernel_rfl) (by kernel_rfl) (by kernel_rfl) (fun _ _ _ h => h) (fun o' wq e hS => exec_move wq e (by kernel_rfl)) HS.out ?_
            refine takeG 3 (.indexAddr 22 (.tmp 15) (.tmp 16)) (some 17) none (.pointer (some ⟨g, o + i * 2, none⟩)) (by kernel_rfl) (by kernel_rfl) (by kernel_rfl) (fun _ _ _ h => h) (fun o' wq e hS => exec_index (u1 := .slice (some ⟨g, o, none⟩) n c) (u2 := .int .i64 (i : Int)) wq e (by kernel_rfl) (by kernel_rfl) (index_rsn g o n c i hlt _)) HS.out ?_
            refine takeG 4 (.fieldAddr 72 (.tmp 17) 0) (some 18) none (.pointer (some ⟨g, o + i * 2, none⟩)) (by kernel_rfl) (by kernel_rfl) (by kernel_rfl) (fun _ _ _ h => h) (fun o' wq e hS => exec_field (u := .pointer (some ⟨g, o + i * 2, none⟩)) wq e (by kernel_rfl) (by kernel_rfl)) HS.out ?_
            refine takeG 5 (.load 3 (.tmp 18)) (some 19) none (.int .i64 t) (by kernel_rfl) (by kernel_rfl) (by kernel_rfl) (fun _ _ _ h => h) (fun o' wq e hS => exec_load (x := (.tmp 18)) e (by kernel_rfl) (load_one Try.underlying3 (by kernel_rfl) hS.2.1)) HS.out ?_
            refine takeG 6 (.load 25 (.tmp 1)) (some 20) none (.agg #[.int .i64 bs, .slice (some ⟨g, o, none⟩) n c, .slice A' m c']) (by kernel_rfl) (by kernel_rfl) (by kernel_rfl) (fun _ _ _ h => h) (fun o' wq e hS => exec_load (x := (.tmp 1)) e (by kernel_rfl) (load_rln hS.1)) HS.out ?_
            refine takeG 7 (.move (.tmp 3)) (some 21) none (.int .i64 (i : Int)) (by kernel_rfl) (by kernel_rfl) (by kernel_rfl) (fun _ _ _ h => h) (fun o' wq e hS => exec_move wq e (by kernel_rfl)) HS.out ?_
            refine loneG 8 (.call ⟨.value (.func 27), #[(.tmp 20), (.tmp 21)], #[25, 3]⟩) (some 22) none (by kernel_rfl) (by kernel_rfl) (by kernel_rfl) ?_
            intro o' ho hod
            refine wp_callC (f := 27) (args := #[.agg #[.int .i64 bs, .slice (some ⟨g, o, none⟩) n c, .slice A' m c'], .int .i64 (i : Int)]) (by cases o'; cases ho; kernel_rfl) (HA1.out _ LX0.out) ?_
            rintro ee W1 ⟨rfl, b1⟩
            have LX1 := Lib.hid (LX0.out.trans (b1.mono LX0.out.size))
            have HS1 := Lib.hid (HSB.out _ LX1.out)
            refine ⟨.int .i64 a, rfl, ?_⟩
            rw [hod]
            clear hod ho b1
            refine ⟨fun _ => HS1.out, ?_⟩
            refine takeG 9 (.binOp .leq 3 (.tmp 19) (.tmp 22) 3) (some 23) none (.bool false) (by kernel_rfl) (by kernel_rfl) (by kernel_rfl) (fun _ _ _ h => h) (fun o' wq e hS => exec_bin (u1 := .int .i64 t) (u2 := .int .i64 a) wq e (by kernel_rfl) (by kernel_rfl) (eqG_int ..) (leq_is t a _ e1 _)) HS1.out ?_
            refine takeG 10 (.move (.tmp 23)) (some 24) none (.bool false) (by kernel_rfl) (by kernel_rfl) (by kernel_rfl) (fun _ _ _ h => h) (fun o' wq e hS => exec_move wq e (by kernel_rfl)) HS1.out ?_
            refine takeG 11 (.fieldAddr 25 (.tmp 1) 1) (some 25) (some (10, false)) (.pointer (some ⟨ro, 1, none⟩)) (by kernel_rfl) (by kernel_rfl) (by kernel_rfl) (fun _ _ _ h => h) (fun o' wq e hS => exec_field (u := .pointer (some ⟨ro, 0, none⟩)) wq e (by kernel_rfl) (by kernel_rfl)) HS1.out ?_
            refine takeG 12 (.load 22 (.tmp 25)) (some 26) (some (10, false)) (.slice (some ⟨g, o, none⟩) n c) (by kernel_rfl) (by kernel_rfl) (by kernel_rfl) (fun _ _ _ h => h) (fun o' wq e hS => exec_load (x := (.tmp 25)) e (by kernel_rfl) (load_one Try.underlying22 (by kernel_rfl) (hS.1.cell 1))) HS1.out ?_
            refine takeG 13 (.move (.tmp 3)) (some 27) (some (10, false)) (.int .i64 (i : Int)) (by kernel_rfl) (by kernel_rfl) (by kernel_rfl) (fun _ _ _ h => h) (fun o' wq e hS => exec_move wq e (by kernel_rfl)) HS1.out ?_
            refine takeG 14 (.indexAddr 22 (.tmp 26) (.tmp 27)) (some 28) (some (10, false)) (.pointer (some ⟨g, o + i * 2, none⟩)) (by kernel_rfl) (by kernel_rfl) (by kernel_rfl) (fun _ _ _ h => h) (fun o' wq e hS => exec_index (u1 := .slice (some ⟨g, o, none⟩) n c) (u2 := .int .i64 (i : Int)) wq e (by kernel_rfl) (by kernel_rfl) (index_rsn g o n c i hlt _)) HS1.out ?_
            refine takeG 15 (.fieldAddr 72 (.tmp 28) 1) (some 29) (some (10, false)) (.pointer (some ⟨g, o + i * 2 + 1, none⟩)) (by kernel_rfl) (by kernel_rfl) (by kernel_rfl) (fun _ _ _ h => h) (fun o' wq e hS => exec_field (u := .pointer (some ⟨g, o + i * 2, none⟩)) wq e (by kernel_rfl) (by kernel_rfl)) HS1.out ?_
            refine takeG 16 (.load 23 (.tmp 29)) (some 30) (some (10, false)) (.slice A2 m2 c2) (by kernel_rfl) (by kernel_rfl) (by kernel_rfl) (fun _ _ _ h => h) (fun o' wq e hS => exec_load (x := (.tmp 29)) e (by kernel_rfl) (load_one Try.underlying23 (by kernel_rfl) hS.2.2)) HS1.out ?_
            refine takeG 17 (.load 25 (.tmp 1)) (some 31) (some (10, false)) (.agg #[.int .i64 bs, .slice (some ⟨g, o, none⟩) n c, .slice A' m c']) (by kernel_rfl) (by kernel_rfl) (by kernel_rfl) (fun _ _ _ h => h) (fun o' wq e hS => exec_load (x := (.tmp 1)) e (by kernel_rfl) (load_rln hS.1)) HS1.out ?_
            refine takeG 18 (.move (.tmp 3)) (some 32) (some (10, false)) (.int .i64 (i : Int)) (by kernel_rfl) (by kernel_rfl) (by kernel_rfl) (fun _ _ _ h => h) (fun o' wq e hS => exec_move wq e (by kernel_rfl)) HS1.out ?_
            refine loneG 19 (.call ⟨.value (.func 27), #[(.tmp 31), (.tmp 32)], #[25, 3]⟩) (some 33) (some (10, false)) (by kernel_rfl) (by kernel_rfl) (by kernel_rfl) ?_
            intro o' ho hod
            refine wp_callC (f := 27) (args := #[.agg #[.int .i64 bs, .slice (some ⟨g, o, none⟩) n c, .slice A' m c'], .int .i64 (i : Int)]) (by cases o'; cases ho; kernel_rfl) (HA1.out _ LX1.out) ?_
            rintro ee W2 ⟨rfl, b2⟩
            have LX2 := Lib.hid (LX1.out.trans (b2.mono LX1.out.size))
            have HS2 := Lib.hid (HSB.out _ LX2.out)
            refine ⟨.int .i64 a, rfl, ?_⟩
            rw [hod]
            clear hod ho b2
            refine ⟨fun _ => HS2.out, ?_⟩
            refine loneG 20 (.call ⟨.value (.func 28), #[(.tmp 30), (.tmp 33)], #[23, 3]⟩) (some 34) (some (10, false)) (by kernel_rfl) (by kernel_rfl) (by kernel_rfl) ?_
            intro o' ho hod
            refine wp_callC (f := 28) (args := #[.slice A2 m2 c2, .int .i64 a]) (by cases o'; cases ho; kernel_rfl) (HY1.out _ LX2.out) ?_
            rintro ee W3 ⟨rfl, b3⟩
            have LX3 := Lib.hid (LX2.out.trans (b3.mono LX2.out.size))
            have HS3 := Lib.hid (HSB.out _ LX3.out)
            refine ⟨.bool true, rfl, ?_⟩
            rw [hod]
            clear hod ho b3
            refine ⟨fun _ => HS3.out, ?_⟩
            refine takeG 21 (.unOp .not 4 (.tmp 34)) (some 35) (some (10, false)) (.bool false) (by kernel_rfl) (by kernel_rfl) (by kernel_rfl) (fun _ _ _ h => h) (fun o' wq e hS => exec_un (u := .bool true) wq e (by kernel_rfl) (by kernel_rfl)) HS3.out ?_
            refine lastS 22 (.pick (.tmp 24) (.const (Value.bool true)) (.tmp 35)) (some 36) (.bool false) (by kernel_rfl) (by kernel_rfl) (by kernel_rfl) HS3.out (fun o' e => exec_pick (b := false) _ e (by kernel_rfl) (by kernel_rfl)) ?_
            simp only [put_some, put_none, List.setIfInBounds_toArray, List.set_cons_succ, List.set_cons_zero]
            have LZ : Hid (Below W.heap.size W W3) := Lib.hid (LW.out.trans (LX3.out.mono HWR.out))
            clear HS3 HS2 HS1 HS
            go_wp2_with fail
            go_roundw
            case rel => exact ⟨i + 1, by omega, by go_num, HF1, LZ⟩
            case measure => simp [intOf]; omega
      · obtain rfl : i = n := by omega
        have i1 : ¬ ((i : Int) < (i : Int)) := by omega
        obtain ⟨a, ha⟩ : ∃ a, a = aheadL L i := ⟨_, rfl⟩
        have HA1 : Hid (∀ W2, Below wr.heap.size wr W2 → Calls Try.prog 27 #[.agg #[.int .i64 bs, .slice A i c, .slice A' m c'], .int .i64 (i : Int)] W2 fun e w' => e = .returned (.int .i64 a) ∧ Below W2.heap.size W2 w') := Lib.hid fun W2 hb2 => by
          rw [ha]; exact HAH.out W2 i (by omega) (LW.out.trans (hb2.mono LW.out.size))
        obtain ⟨yy, hyy⟩ : ∃ yy, yy = youngL a L.dead := ⟨_, rfl⟩
        have HY1 : Hid (∀ W2, Below wr.heap.size wr W2 → Calls Try.prog 28 #[.slice A' m c', .int .i64 a] W2 fun e w' => e = .returned (.bool yy) ∧ Below W2.heap.size W2 w') := Lib.hid fun W2 hb2 => by
          rw [hyy, HM.out]; exact ryoung_at W2 L.dead A' c' a HF.out.nd ((HRS.out.2.below LW.out).below hb2)
        have HQ : Hid (R = yy) := Lib.hid (by
          rw [HR.out, hyy, ha]
          unfold rightL
          rw [← HN.out, HF0.out, Bool.true_and])
        have HSB : Hid (∀ W2, Below wr.heap.size wr W2 → Blk W2 ro 25 #[.int .i64 bs, .slice A i c, .slice A' m c']) := Lib.hid fun W2 hb2 => HXr.out.below hb2 HXr.out.lt
        have LX0 : Hid (Below wr.heap.size wr wr.drew) := Lib.hid (Below.refl _ _).drew
        have HS := Lib.hid (HSB.out _ LX0.out)
        have HWR : Hid (W.heap.size ≤ wr.heap.size) := Lib.hid LW.out.size
        clear ha hyy hlt HF0
        go_upto_region 8 with (fail)
        refine region_anyZ (fun w' => Blk w' ro 25 #[.int .i64 bs, .slice A i c, .slice A' m c']) 9 (by kernel_rfl) ?_
        refine takeG 0 (.fieldAddr 25 (.tmp 1) 2) (some 37) none (.pointer (some ⟨ro, 2, none⟩)) (by kernel_rfl) (by kernel_rfl) (by kernel_rfl) (fun _ _ _ h => h) (fun o' wq e hS => exec_field (u := .pointer (some ⟨ro, 0, none⟩)) wq e (by kernel_rfl) (by kernel_rfl)) HS.out ?_
        refine takeG 1 (.load 23 (.tmp 37)) (some 38) none (.slice A' m c') (by kernel_rfl) (by kernel_rfl) (by kernel_rfl) (fun _ _ _ h => h) (fun o' wq e hS => exec_load (x := (.tmp 37)) e (by kernel_rfl) (load_one Try.underlying23 (by kernel_rfl) (hS.cell 2))) HS.out ?_
        refine takeG 2 (.load 25 (.tmp 1)) (some 39) none (.agg #[.int .i64 bs, .slice A i c, .slice A' m c']) (by kernel_rfl) (by kernel_rfl) (by kernel_rfl) (fun _ _ _ h => h) (fun o' wq e hS => exec_load (x := (.tmp 1)) e (by kernel_rfl) (load_rln hS)) HS.out ?_
        refine takeG 3 (.fieldAddr 25 (.tmp 1) 1) (some 40) none (.pointer (some ⟨ro, 1, none⟩)) (by kernel_rfl) (by kernel_rfl) (by kernel_rfl) (fun _ _ _ h => h) (fun o' wq e hS => exec_field (u := .pointer (some ⟨ro, 0, none⟩)) wq e (by kernel_rfl) (by kernel_rfl)) HS.out ?_
        refine takeG 4 (.load 22 (.tmp 40)) (some 41) none (.slice A i c) (by kernel_rfl) (by kernel_rfl) (by kernel_rfl) (fun _ _ _ h => h) (fun o' wq e hS => exec_load (x := (.tmp 40)) e (by kernel_rfl) (load_one Try.underlying22 (by kernel_rfl) (hS.cell 1))) HS.out ?_
        refine takeG 5 (.call ⟨.builtin .len, #[(.tmp 41)], #[22]⟩) (some 42) none (.int .i64 (i : Int)) (by kernel_rfl) (by kernel_rfl) (by kernel_rfl) (fun _ _ _ h => h) (fun o' wq e hS => exec_len (u := .slice A i c) wq e (by kernel_rfl) (by kernel_rfl)) HS.out ?_
        refine loneG 6 (.call ⟨.value (.func 27), #[(.tmp 39), (.tmp 42)], #[25, 3]⟩) (some 43) none (by kernel_rfl) (by kernel_rfl) (by kernel_rfl) ?_
        intro o' ho hod
        refine wp_callC (f := 27) (args := #[.agg #[.int .i64 bs, .slice A i c, .slice A' m c'], .int .i64 (i : Int)]) (by cases o'; cases ho; kernel_rfl) (HA1.out _ LX0.out) ?_
        rintro ee W1 ⟨rfl, b1⟩
        have LX1 := Lib.hid (LX0.out.trans (b1.mono LX0.out.size))
        have HS1 := Lib.hid (HSB.out _ LX1.out)
        refine ⟨.int .i64 a, rfl, ?_⟩
        rw [hod]
        clear hod ho b1
        refine ⟨fun _ => HS1.out, ?_⟩
        refine loneG 7 (.call ⟨.value (.func 28), #[(.tmp 38), (.tmp 43)], #[23, 3]⟩) (some 44) none (by kernel_rfl) (by kernel_rfl) (by kernel_rfl) ?_
        intro o' ho hod
        refine wp_callC (f := 28) (args := #[.slice A' m c', .int .i64 a]) (by cases o'; cases ho; kernel_rfl) (HY1.out _ LX1.out) ?_
        rintro ee W2 ⟨rfl, b2⟩
        have LX2 := Lib.hid (LX1.out.trans (b2.mono LX1.out.size))
        have HS2 := Lib.hid (HSB.out _ LX2.out)
        refine ⟨.bool yy, rfl, ?_⟩
        rw [hod]
        clear hod ho b2
        refine ⟨fun _ => HS2.out, ?_⟩
        refine lastS 8 (.assign (.tmp 44)) (some 2) (.bool yy) (by kernel_rfl) (by kernel_rfl) (by kernel_rfl) HS2.out (fun o' e => exec_assign _ e (by kernel_rfl)) ?_
        simp only [put_some, put_none, List.setIfInBounds_toArray, List.set_cons_succ, List.set_cons_zero]
        go_wp2_with fail
        go_ret
        rw [HQ.out]
        exact ⟨rfl, L1.out.trans ((LW.out.trans (LX2.out.mono HWR.out)).mono L1.out.size)⟩
end Dd
end Go.Proofs.Ytpoacgofbbfhcaa
