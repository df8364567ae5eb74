/-
  'Check' of a line by a contract: is it in form? The conditions: the line can be read, its lengths are ints.
-/
import Derived.Test.YtefgofoocabkkaaDeadFind
namespace Go.Proofs.Ytefgofoocabkkaa
open Go Go.RowKit
set_option maxRecDepth 100000
set_option linter.unusedVariables false
namespace Dd
theorem leq_isC (a b : Int) (r : Bool) (h : decide (a ≤ b) = r) (W : World) : (binOp .leq 3 (.int .i64 a) (.int .i64 b)).run Try.prog W = .ok (.bool r) W := by rw [← h]; rfl
def SC (ro bx : Nat) (bs t : Int) (A : Option Addr) (n c : Nat) (A' : Option Addr) (m c' : Nat) (A2 : Option Addr) (m2 c2 : Nat) (W : World) : Prop :=
  Blk W ro 28 #[.int .i64 bs, .slice A n c, .slice A' m c'] ∧ Blk W bx 51 #[.int .i64 t, .slice A2 m2 c2]
set_option maxHeartbeats 12800000 in
theorem check_at (w : World) (L : Ln) (A A' : Option Addr) (c c' : Nat) (hf : Fit L) (hs : RdS w A L.snaps) (hd : RdP w A' L.dead) :
    Calls Try.prog 9 #[.agg #[.int .i64 L.base, .slice A L.snaps.length c, .slice A' L.dead.length c']] w fun e w' => e = .returned (.int .i64 (if rightL L then 0 else 2)) ∧ Below w.heap.size w w' := by
  obtain ⟨n, hn⟩ : ∃ n, n = L.snaps.length := ⟨_, rfl⟩
  obtain ⟨m, hm⟩ : ∃ m, m = L.dead.length := ⟨_, rfl⟩
  have HN := Lib.hid hn
  have HM := Lib.hid hm
  obtain ⟨R, hR⟩ : ∃ R : Int, R = if rightL L then 0 else 2 := ⟨_, rfl⟩
  have HR := Lib.hid hR
  have HF := Lib.hid hf
  have hnb : n ≤ big := by rw [hn]; exact hf.ns
  unfold big at hnb
  rw [← hn, ← hm, ← hR]
  obtain ⟨W, hW⟩ : ∃ W, W = w.alloc (.cells #[.int .i64 L.base, .slice A n c, .slice A' m c'] 28) := ⟨_, rfl⟩
  have hb : Below w.heap.size w W := by rw [hW]; exact (Below.refl _ _).alloc (Nat.le_refl _) _
  have X : Blk W w.heap.size 28 #[.int .i64 L.base, .slice A n c, .slice A' m c'] := by rw [hW]; exact Blk.new _ _ _
  have HRS := Lib.hid (⟨hs.below hb, hd.below hb⟩ : RdS W A L.snaps ∧ RdP W A' L.dead)
  obtain ⟨ro, hro⟩ : ∃ ro, ro = w.heap.size := ⟨_, rfl⟩
  have HRO := Lib.hid hro
  rw [← hro] at X
  have HX := Lib.hid X
  have L1 := Lib.hid hb
  have HAH : Hid (∀ (W2 : World) (i : Nat), i ≤ n → Below W.heap.size W W2 → Calls Try.prog 15 #[.agg #[.int .i64 L.base, .slice A n c, .slice A' m c'], .int .i64 (i : Int)] W2 fun e w' => e = .returned (.int .i64 (aheadL L i)) ∧ Below W2.heap.size W2 w') := Lib.hid fun W2 i hi hb2 => ahead_at W2 L A A' c c' n m i HN.out hi (HRS.out.1.below hb2) (by rw [HN.out]; exact HF.out.ns)
  have HLA : Hid (∀ (W2 : World), Below W.heap.size W W2 → Calls Try.prog 13 #[.agg #[.int .i64 L.base, .slice A n c, .slice A' m c']] W2 fun e w' => e = .returned (.int .i64 (aheadL L n)) ∧ Below W2.heap.size W2 w') := Lib.hid fun W2 hb2 => last_at W2 L A A' c c' n m HN.out (HRS.out.1.below hb2) (by rw [HN.out]; exact HF.out.ns)
  obtain ⟨bs, hbs⟩ : ∃ bs, bs = L.base := ⟨_, rfl⟩
  rw [← hbs] at X HX HAH HLA hW ⊢
  have HBS := Lib.hid hbs
  have d0 : W.cell? ⟨ro, 0, none⟩ = some (.int .i64 bs) := X.cell 0
  have d1 : W.cell? ⟨ro, 1, none⟩ = some (.slice A n c) := X.cell 1
  clear hn hm hR hf hs hd hb X hbs
  by_cases hneg : bs < 0
  · have HQ : Hid (R = 2) := Lib.hid (by
      rw [HR.out, rightL_no (i := 0) (Nat.zero_le _) (by show decide (0 ≤ L.base) = false; rw [← HBS.out]; simp; omega)]
      rfl)
    go_enter Try.func9, Try.ntmps9
    go_upto_region 1 with (fail)
    rw [← hW, ← HRO.out]
    clear hW hro
    go_wp2_with fail
    go_ret
    rw [HQ.out]
    exact ⟨rfl, L1.out⟩
  · have HF0 : Hid (formTo L 0 = true) := Lib.hid (by show decide (0 ≤ L.base) = true; rw [← HBS.out]; simp; omega)
    have LW : Hid (Below W.heap.size W W) := Lib.hid (Below.refl _ _)
    go_enter Try.func9, Try.ntmps9
    go_upto_region 1 with (fail)
    rw [← hW, ← HRO.out]
    clear hW hro
    go_wp2_with fail
    clear d0 d1
    go_loopw [11] (fun y wr => ∃ i : Nat, i ≤ n ∧ y = .int .i64 (i : Int) ∧ Hid (formTo L i = true) ∧ Hid (Below W.heap.size W wr)) (fun y _ => n - (intOf y).toNat)
    case atStart => exact ⟨0, by omega, rfl, HF0, LW⟩
    case round =>
      clear HF0 LW
      obtain ⟨i, hi, rfl, HF0, LW⟩ := hrel
      have HXr := Lib.hid (HX.out.below LW.out HX.out.lt)
      by_cases hlt : i < n
      · have i1 : (i : Int) < (n : Int) := by omega
        have hil : i < L.snaps.length := by have := HN.out; omega
        obtain ⟨s, hse⟩ : ∃ s, s = L.snaps[i] := ⟨_, rfl⟩
        have hsi : L.snaps[i]? = some s := by rw [hse]; exact List.getElem?_eq_getElem hil
        obtain ⟨g, o, A2, c2, hA, hgb, k0, k1, hrp⟩ := (HRS.out.1.below LW.out) i s hsi
        have hstep := formTo_step hsi
        rw [HF0.out, Bool.true_and] at hstep
        obtain ⟨m2, hm2⟩ : ∃ m2, m2 = s.dead.length := ⟨_, rfl⟩
        have hsb : m2 ≤ big := by rw [hm2]; exact HF.out.sd s (List.mem_of_getElem? hsi)
        obtain ⟨t, ht⟩ : ∃ t, t = s.txg := ⟨_, rfl⟩
        obtain ⟨a, ha⟩ : ∃ a, a = aheadL L i := ⟨_, rfl⟩
        rw [← ht] at k0
        rw [← hm2] at k1
        obtain ⟨bx, hbx⟩ : ∃ bx, bx = wr.heap.size := ⟨_, rfl⟩
        obtain ⟨w5, hw5⟩ : ∃ w5, w5 = wr.alloc (.cells #[.int .i64 t, .slice A2 m2 c2] 51) := ⟨_, rfl⟩
        have hb5 : Below wr.heap.size wr w5 := by rw [hw5]; exact (Below.refl _ _).alloc (Nat.le_refl _) _
        have X5 : Blk w5 bx 51 #[.int .i64 t, .slice A2 m2 c2] := by rw [hw5, hbx]; exact Blk.new _ _ _
        have LW5 : Hid (Below W.heap.size W w5) := Lib.hid (LW.out.trans (hb5.mono LW.out.size))
        have HA1 : Hid (∀ W2, Below w5.heap.size w5 W2 → Calls Try.prog 15 #[.agg #[.int .i64 bs, .slice A n c, .slice A' m c'], .int .i64 (i : Int)] W2 fun e w' => e = .returned (.int .i64 a) ∧ Below W2.heap.size W2 w') := Lib.hid fun W2 hb2 => by
          rw [ha]; exact HAH.out W2 i (by omega) (LW5.out.trans (hb2.mono LW5.out.size))
        have HBE : Hid (∀ W2, Below w5.heap.size w5 W2 → Calls Try.prog 18 #[.int .i64 a] W2 fun e w' => MadeB W2 a e w') := Lib.hid fun W2 _ => behind_at W2 a
        obtain ⟨yy, hyy⟩ : ∃ yy, yy = youngL a s.dead := ⟨_, rfl⟩
        have hrp5 := hrp.1.below hb5
        have HY1 : Hid (∀ (W2 : World) (bf : Nat), Below w5.heap.size w5 W2 → Blk W2 bf 3 #[.int .i64 a] → Calls Try.prog 17 #[.slice A2 m2 c2, .func (.func 22) #[] #[.pointer (some ⟨bf, 0, none⟩)]] W2 fun e w' => e = .returned (.bool (!yy)) ∧ Below W2.heap.size W2 w') := Lib.hid fun W2 bf hb2 hbk => by
          rw [hyy]; exact contains_at W2 s.dead A2 c2 bf m2 a hm2 hsb (hrp5.below hb2) hbk
        rw [← ht, ← ha, ← hyy] at hstep
        have HSB : Hid (∀ W2, Below w5.heap.size w5 W2 → SC ro bx bs t A n c A' m c' A2 m2 c2 W2) := Lib.hid fun W2 hb2 => ⟨(HXr.out.below hb5 HXr.out.lt).below hb2 (HXr.out.below hb5 HXr.out.lt).lt, X5.below hb2 X5.lt⟩
        have LX0 : Hid (Below w5.heap.size w5 w5.drew) := Lib.hid (Below.refl _ _).drew
        have HS := Lib.hid (HSB.out _ LX0.out)
        have HWR : Hid (W.heap.size ≤ w5.heap.size) := Lib.hid LW5.out.size
        have HSTEP := Lib.hid hstep
        subst hA
        clear hil hse hsi hgb hrp hrp5 hstep hm2 hsb ht ha hyy hb5 X5 HXr
        go_upto_region 6 with (fail)
        rw [← hw5, ← hbx]
        clear hw5 hbx k0 k1
        by_cases hz : t ≤ a
        · have e1 : decide (t ≤ a) = true := by simp [hz]
          have HQ : Hid (R = 2) := Lib.hid (by
            rw [HR.out, rightL_no (i := i + 1) (by have := HN.out; omega) (by
              rw [HSTEP.out]
              have : decide (a < t) = false := by simp; omega
              rw [this]; rfl)]
            rfl)
          clear HSTEP HY1
          refine region_anyZ (SC ro bx bs t (some ⟨g, o, none⟩) n c A' m c' A2 m2 c2) 15 (by kernel_rfl) ?_
          refine takeG 0 (.fieldAddr 51 (.tmp 4) 0) (some 16) none (.pointer (some ⟨bx, 0, none⟩)) (by kernel_rfl) (by kernel_rfl) (by kernel_rfl) (fun _ _ _ h => h) (fun o' wq e hS => exec_field (u := .pointer (some ⟨bx, 0, none⟩)) wq e (by kernel_rfl) (by kernel_rfl)) HS.out ?_
          refine takeG 1 (.load 3 (.tmp 16)) (some 17) none (.int .i64 t) (by kernel_rfl) (by kernel_rfl) (by kernel_rfl) (fun _ _ _ h => h) (fun o' wq e hS => exec_load (x := (.tmp 16)) e (by kernel_rfl) (load_one Try.underlying3 (by kernel_rfl) (hS.2.cell 0))) HS.out ?_
          refine takeG 2 (.load 28 (.tmp 1)) (some 18) none (.agg #[.int .i64 bs, .slice (some ⟨g, o, none⟩) n c, .slice A' m c']) (by kernel_rfl) (by kernel_rfl) (by kernel_rfl) (fun _ _ _ h => h) (fun o' wq e hS => exec_load (x := (.tmp 1)) e (by kernel_rfl) (load_ln hS.1)) HS.out ?_
          refine takeG 3 (.move (.tmp 3)) (some 19) none (.int .i64 (i : Int)) (by kernel_rfl) (by kernel_rfl) (by kernel_rfl) (fun _ _ _ h => h) (fun o' wq e hS => exec_move wq e (by kernel_rfl)) HS.out ?_
          refine loneG 4 (.call ⟨.value (.func 15), #[(.tmp 18), (.tmp 19)], #[28, 3]⟩) (some 20) none (by kernel_rfl) (by kernel_rfl) (by kernel_rfl) ?_
          intro o' ho hod
          refine wp_callC (f := 15) (args := #[.agg #[.int .i64 bs, .slice (some ⟨g, o, none⟩) n c, .slice A' m c'], .int .i64 (i : Int)]) (by cases o'; cases ho; kernel_rfl) (HA1.out _ LX0.out) ?_
          rintro ee W1 ⟨rfl, b1⟩
          have LX1 := Lib.hid (LX0.out.trans (b1.mono LX0.out.size))
          have HS1 := Lib.hid (HSB.out _ LX1.out)
          refine ⟨.int .i64 a, rfl, ?_⟩
          rw [hod]
          clear hod ho b1
          refine ⟨fun _ => HS1.out, ?_⟩
          refine takeG 5 (.binOp .leq 3 (.tmp 17) (.tmp 20) 3) (some 21) none (.bool true) (by kernel_rfl) (by kernel_rfl) (by kernel_rfl) (fun _ _ _ h => h) (fun o' wq e hS => exec_bin (u1 := .int .i64 t) (u2 := .int .i64 a) wq e (by kernel_rfl) (by kernel_rfl) (eqG_int ..) (leq_isC t a _ e1 _)) HS1.out ?_
          refine takeG 6 (.move (.tmp 21)) (some 22) none (.bool true) (by kernel_rfl) (by kernel_rfl) (by kernel_rfl) (fun _ _ _ h => h) (fun o' wq e hS => exec_move wq e (by kernel_rfl)) HS1.out ?_
          refine takeSkip 7 (.fieldAddr 51 (.tmp 4) 1) (some 23) (some (6, false)) (by kernel_rfl) (by kernel_rfl) (by kernel_rfl) (fun _ _ _ h => h) HS1.out ?_
          refine takeSkip 8 (.load 26 (.tmp 23)) (some 24) (some (6, false)) (by kernel_rfl) (by kernel_rfl) (by kernel_rfl) (fun _ _ _ h => h) HS1.out ?_
          refine takeSkip 9 (.load 28 (.tmp 1)) (some 25) (some (6, false)) (by kernel_rfl) (by kernel_rfl) (by kernel_rfl) (fun _ _ _ h => h) HS1.out ?_
          refine takeSkip 10 (.move (.tmp 3)) (some 26) (some (6, false)) (by kernel_rfl) (by kernel_rfl) (by kernel_rfl) (fun _ _ _ h => h) HS1.out ?_
          refine takeSkip 11 (.call ⟨.value (.func 15), #[(.tmp 25), (.tmp 26)], #[28, 3]⟩) (some 27) (some (6, false)) (by kernel_rfl) (by kernel_rfl) (by kernel_rfl) (fun _ _ _ h => h) HS1.out ?_
          refine takeSkip 12 (.call ⟨.value (.func 18), #[(.tmp 27)], #[3]⟩) (some 28) (some (6, false)) (by kernel_rfl) (by kernel_rfl) (by kernel_rfl) (fun _ _ _ h => h) HS1.out ?_
          refine takeSkip 13 (.call ⟨.value (.func 17), #[(.tmp 24), (.tmp 28)], #[26, 58]⟩) (some 29) (some (6, false)) (by kernel_rfl) (by kernel_rfl) (by kernel_rfl) (fun _ _ _ h => h) HS1.out ?_
          refine lastS 14 (.pick (.tmp 22) (.const (Value.bool true)) (.tmp 29)) (some 30) (.bool true) (by kernel_rfl) (by kernel_rfl) (by kernel_rfl) HS1.out (fun o' e => exec_pick (b := true) _ e (by kernel_rfl) (by kernel_rfl)) ?_
          simp only [put_some, put_none, List.setIfInBounds_toArray, List.set_cons_succ, List.set_cons_zero]
          go_wp2_with fail
          go_ret
          rw [HQ.out]
          exact ⟨rfl, L1.out.trans ((LW5.out.trans (LX1.out.mono HWR.out)).mono L1.out.size)⟩
        · have e1 : decide (t ≤ a) = false := by simp; omega
          have e2 : decide (a < t) = true := by simp; omega
          cases yy with
          | false =>
            have HQ : Hid (R = 2) := Lib.hid (by
              rw [HR.out, rightL_no (i := i + 1) (by have := HN.out; omega) (by rw [HSTEP.out, e2]; rfl)]
              rfl)
            clear HSTEP
            refine region_anyZ (SC ro bx bs t (some ⟨g, o, none⟩) n c A' m c' A2 m2 c2) 15 (by kernel_rfl) ?_
            refine takeG 0 (.fieldAddr 51 (.tmp 4) 0) (some 16) none (.pointer (some ⟨bx, 0, none⟩)) (by kernel_rfl) (by kernel_rfl) (by kernel_rfl) (fun _ _ _ h => h) (fun o' wq e hS => exec_field (u := .pointer (some ⟨bx, 0, none⟩)) wq e (by kernel_rfl) (by kernel_rfl)) HS.out ?_
            refine takeG 1 (.load 3 (.tmp 16)) (some 17) none (.int .i64 t) (by kernel_rfl) (by kernel_rfl) (by kernel_rfl) (fun _ _ _ h => h) (fun o' wq e hS => exec_load (x := (.tmp 16)) e (by kernel_rfl) (load_one Try.underlying3 (by kernel_rfl) (hS.2.cell 0))) HS.out ?_
            refine takeG 2 (.load 28 (.tmp 1)) (some 18) none (.agg #[.int .i64 bs, .slice (some ⟨g, o, none⟩) n c, .slice A' m c']) (by kernel_rfl) (by kernel_rfl) (by kernel_rfl) (fun _ _ _ h => h) (fun o' wq e hS => exec_load (x := (.tmp 1)) e (by kernel_rfl) (load_ln hS.1)) HS.out ?_
            refine takeG 3 (.move (.tmp 3)) (some 19) none (.int .i64 (i : Int)) (by kernel_rfl) (by kernel_rfl) (by kernel_rfl) (fun _ _ _ h => h) (fun o' wq e hS => exec_move wq e (by kernel_rfl)) HS.out ?_
            refine loneG 4 (.call ⟨.value (.func 15), #[(.tmp 18), (.tmp 19)], #[28, 3]⟩) (some 20) none (by kernel_rfl) (by kernel_rfl) (by kernel_rfl) ?_
            intro o' ho hod
            refine wp_callC (f := 15) (args := #[.agg #[.int .i64 bs, .slice (some ⟨g, o, none⟩) n c, .slice A' m c'], .int .i64 (i : Int)]) (by cases o'; cases ho; kernel_rfl) (HA1.out _ LX0.out) ?_
            rintro ee W1 ⟨rfl, b1⟩
            have LX1 := Lib.hid (LX0.out.trans (b1.mono LX0.out.size))
            have HS1 := Lib.hid (HSB.out _ LX1.out)
            refine ⟨.int .i64 a, rfl, ?_⟩
            rw [hod]
            clear hod ho b1
            refine ⟨fun _ => HS1.out, ?_⟩
            refine takeG 5 (.binOp .leq 3 (.tmp 17) (.tmp 20) 3) (some 21) none (.bool false) (by kernel_rfl) (by kernel_rfl) (by kernel_rfl) (fun _ _ _ h => h) (fun o' wq e hS => exec_bin (u1 := .int .i64 t) (u2 := .int .i64 a) wq e (by kernel_rfl) (by kernel_rfl) (eqG_int ..) (leq_isC t a _ e1 _)) HS1.out ?_
            refine takeG 6 (.move (.tmp 21)) (some 22) none (.bool false) (by kernel_rfl) (by kernel_rfl) (by kernel_rfl) (fun _ _ _ h => h) (fun o' wq e hS => exec_move wq e (by kernel_rfl)) HS1.out ?_
            refine takeG 7 (.fieldAddr 51 (.tmp 4) 1) (some 23) (some (6, false)) (.pointer (some ⟨bx, 1, none⟩)) (by kernel_rfl) (by kernel_rfl) (by kernel_rfl) (fun _ _ _ h => h) (fun o' wq e hS => exec_field (u := .pointer (some ⟨bx, 0, none⟩)) wq e (by kernel_rfl) (by kernel_rfl)) HS1.out ?_
            refine takeG 8 (.load 26 (.tmp 23)) (some 24) (some (6, false)) (.slice A2 m2 c2) (by kernel_rfl) (by kernel_rfl) (by kernel_rfl) (fun _ _ _ h => h) (fun o' wq e hS => exec_load (x := (.tmp 23)) e (by kernel_rfl) (load_one Try.underlying26 (by kernel_rfl) (hS.2.cell 1))) HS1.out ?_
            refine takeG 9 (.load 28 (.tmp 1)) (some 25) (some (6, false)) (.agg #[.int .i64 bs, .slice (some ⟨g, o, none⟩) n c, .slice A' m c']) (by kernel_rfl) (by kernel_rfl) (by kernel_rfl) (fun _ _ _ h => h) (fun o' wq e hS => exec_load (x := (.tmp 1)) e (by kernel_rfl) (load_ln hS.1)) HS1.out ?_
            refine takeG 10 (.move (.tmp 3)) (some 26) (some (6, false)) (.int .i64 (i : Int)) (by kernel_rfl) (by kernel_rfl) (by kernel_rfl) (fun _ _ _ h => h) (fun o' wq e hS => exec_move wq e (by kernel_rfl)) HS1.out ?_
            refine loneG 11 (.call ⟨.value (.func 15), #[(.tmp 25), (.tmp 26)], #[28, 3]⟩) (some 27) (some (6, false)) (by kernel_rfl) (by kernel_rfl) (by kernel_rfl) ?_
            intro o' ho hod
            refine wp_callC (f := 15) (args := #[.agg #[.int .i64 bs, .slice (some ⟨g, o, none⟩) n c, .slice A' m c'], .int .i64 (i : Int)]) (by cases o'; cases ho; kernel_rfl) (HA1.out _ LX1.out) ?_
            rintro ee W2 ⟨rfl, b2⟩
            have LX2 := Lib.hid (LX1.out.trans (b2.mono LX1.out.size))
            have HS2 := Lib.hid (HSB.out _ LX2.out)
            refine ⟨.int .i64 a, rfl, ?_⟩
            rw [hod]
            clear hod ho b2
            refine ⟨fun _ => HS2.out, ?_⟩
            refine loneG 12 (.call ⟨.value (.func 18), #[(.tmp 27)], #[3]⟩) (some 28) (some (6, false)) (by kernel_rfl) (by kernel_rfl) (by kernel_rfl) ?_
            intro o' ho hod
            refine wp_callC (f := 18) (args := #[.int .i64 a]) (by cases o'; cases ho; kernel_rfl) (HBE.out _ LX2.out) ?_
            rintro ee W3 ⟨bf, rfl, hbf, b3⟩
            have HBF := Lib.hid hbf
            have LX3 := Lib.hid (LX2.out.trans (b3.mono LX2.out.size))
            have HS3 := Lib.hid (HSB.out _ LX3.out)
            refine ⟨.func (.func 22) #[] #[.pointer (some ⟨bf, 0, none⟩)], rfl, ?_⟩
            rw [hod]
            clear hod ho b3 hbf
            refine ⟨fun _ => HS3.out, ?_⟩
            refine loneG 13 (.call ⟨.value (.func 17), #[(.tmp 24), (.tmp 28)], #[26, 58]⟩) (some 29) (some (6, false)) (by kernel_rfl) (by kernel_rfl) (by kernel_rfl) ?_
            intro o' ho hod
            refine wp_callC (f := 17) (args := #[.slice A2 m2 c2, .func (.func 22) #[] #[.pointer (some ⟨bf, 0, none⟩)]]) (by cases o'; cases ho; kernel_rfl) (HY1.out _ _ LX3.out HBF.out) ?_
            rintro ee W4 ⟨rfl, b4⟩
            have LX4 := Lib.hid (LX3.out.trans (b4.mono LX3.out.size))
            have HS4 := Lib.hid (HSB.out _ LX4.out)
            refine ⟨.bool true, rfl, ?_⟩
            rw [hod]
            clear hod ho b4
            refine ⟨fun _ => HS4.out, ?_⟩
            refine lastS 14 (.pick (.tmp 22) (.const (Value.bool true)) (.tmp 29)) (some 30) (.bool true) (by kernel_rfl) (by kernel_rfl) (by kernel_rfl) HS4.out (fun o' e => exec_pick (b := false) _ e (by kernel_rfl) (by kernel_rfl)) ?_
            simp only [put_some, put_none, List.setIfInBounds_toArray, List.set_cons_succ, List.set_cons_zero]
            go_wp2_with fail
            go_ret
            rw [HQ.out]
            exact ⟨rfl, L1.out.trans ((LW5.out.trans (LX4.out.mono HWR.out)).mono L1.out.size)⟩
          | true =>
            have HF1 : Hid (formTo L (i + 1) = true) := Lib.hid (by rw [HSTEP.out, e2]; rfl)
            clear HSTEP
            refine region_anyZ (SC ro bx bs t (some ⟨g, o, none⟩) n c A' m c' A2 m2 c2) 15 (by kernel_rfl) ?_
            refine takeG 0 (.fieldAddr 51 (.tmp 4) 0) (some 16) none (.pointer (some ⟨bx, 0, none⟩)) (by kernel_rfl) (by kernel_rfl) (by kernel_rfl) (fun _ _ _ h => h) (fun o' wq e hS => exec_field (u := .pointer (some ⟨bx, 0, none⟩)) wq e (by kernel_rfl) (by kernel_rfl)) HS.out ?_
            refine takeG 1 (.load 3 (.tmp 16)) (some 17) none (.int .i64 t) (by kernel_rfl) (by kernel_rfl) (by kernel_rfl) (fun _ _ _ h => h) (fun o' wq e hS => exec_load (x := (.tmp 16)) e (by kernel_rfl) (load_one Try.underlying3 (by kernel_rfl) (hS.2.cell 0))) HS.out ?_
            refine takeG 2 (.load 28 (.tmp 1)) (some 18) none (.agg #[.int .i64 bs, .slice (some ⟨g, o, none⟩) n c, .slice A' m c']) (by kernel_rfl) (by kernel_rfl) (by kernel_rfl) (fun _ _ _ h => h) (fun o' wq e hS => exec_load (x := (.tmp 1)) e (by kernel_rfl) (load_ln hS.1)) HS.out ?_
            refine takeG 3 (.move (.tmp 3)) (some 19) none (.int .i64 (i : Int)) (by kernel_rfl) (by kernel_rfl) (by kernel_rfl) (fun _ _ _ h => h) (fun o' wq e hS => exec_move wq e (by kernel_rfl)) HS.out ?_
            refine loneG 4 (.call ⟨.value (.func 15), #[(.tmp 18), (.tmp 19)], #[28, 3]⟩) (some 20) none (by kernel_rfl) (by kernel_rfl) (by kernel_rfl) ?_
            intro o' ho hod
            refine wp_callC (f := 15) (args := #[.agg #[.int .i64 bs, .slice (some ⟨g, o, none⟩) n c, .slice A' m c'], .int .i64 (i : Int)]) (by cases o'; cases ho; kernel_rfl) (HA1.out _ LX0.out) ?_
            rintro ee W1 ⟨rfl, b1⟩
            have LX1 := Lib.hid (LX0.out.trans (b1.mono LX0.out.size))
            have HS1 := Lib.hid (HSB.out _ LX1.out)
            refine ⟨.int .i64 a, rfl, ?_⟩
            rw [hod]
            clear hod ho b1
            refine ⟨fun _ => HS1.out, ?_⟩
            refine takeG 5 (.binOp .leq 3 (.tmp 17) (.tmp 20) 3) (some 21) none (.bool false) (by kernel_rfl) (by kernel_rfl) (by kernel_rfl) (fun _ _ _ h => h) (fun o' wq e hS => exec_bin (u1 := .int .i64 t) (u2 := .int .i64 a) wq e (by kernel_rfl) (by kernel_rfl) (eqG_int ..) (leq_isC t a _ e1 _)) HS1.out ?_
            refine takeG 6 (.move (.tmp 21)) (some 22) none (.bool false) (by kernel_rfl) (by kernel_rfl) (by kernel_rfl) (fun _ _ _ h => h) (fun o' wq e hS => exec_move wq e (by kernel_rfl)) HS1.out ?_
            refine takeG 7 (.fieldAddr 51 (.tmp 4) 1) (some 23) (some (6, false)) (.pointer (some ⟨bx, 1, none⟩)) (by kernel_rfl) (by kernel_rfl) (by kernel_rfl) (fun _ _ _ h => h) (fun o' wq e hS => exec_field (u := .pointer (some ⟨bx, 0, none⟩)) wq e (by kernel_rfl) (by kernel_rfl)) HS1.out ?_
            refine takeG 8 (.load 26 (.tmp 23)) (some 24) (some (6, false)) (.slice A2 m2 c2) (by kernel_rfl) (by kernel_rfl) (by kernel_rfl) (fun _ _ _ h => h) (fun o' wq e hS => exec_load (x := (.tmp 23)) e (by kernel_rfl) (load_one Try.underlying26 (by kernel_rfl) (hS.2.cell 1))) HS1.out ?_
            refine takeG 9 (.load 28 (.tmp 1)) (some 25) (some (6, false)) (.agg #[.int .i64 bs, .slice (some ⟨g, o, none⟩) n c, .slice A' m c']) (by kernel_rfl) (by kernel_rfl) (by kernel_rfl) (fun _ _ _ h => h) (fun o' wq e hS => exec_load (x := (.tmp 1)) e (by kernel_rfl) (load_ln hS.1)) HS1.out ?_
            refine takeG 10 (.move (.tmp 3)) (some 26) (some (6, false)) (.int .i64 (i : Int)) (by kernel_rfl) (by kernel_rfl) (by kernel_rfl) (fun _ _ _ h => h) (fun o' wq e hS => exec_move wq e (by kernel_rfl)) HS1.out ?_
            refine loneG 11 (.call ⟨.value (.func 15), #[(.tmp 25), (.tmp 26)], #[28, 3]⟩) (some 27) (some (6, false)) (by kernel_rfl) (by kernel_rfl) (by kernel_rfl) ?_
            intro o' ho hod
            refine wp_callC (f := 15) (args := #[.agg #[.int .i64 bs, .slice (some ⟨g, o, none⟩) n c, .slice A' m c'], .int .i64 (i : Int)]) (by cases o'; cases ho; kernel_rfl) (HA1.out _ LX1.out) ?_
            rintro ee W2 ⟨rfl, b2⟩
            have LX2 := Lib.hid (LX1.out.trans (b2.mono LX1.out.size))
            have HS2 := Lib.hid (HSB.out _ LX2.out)
            refine ⟨.int .i64 a, rfl, ?_⟩
            rw [hod]
            clear hod ho b2
            refine ⟨fun _ => HS2.out, ?_⟩
            refine loneG 12 (.call ⟨.value (.func 18), #[(.tmp 27)], #[3]⟩) (some 28) (some (6, false)) (by kernel_rfl) (by kernel_rfl) (by kernel_rfl) ?_
            intro o' ho hod
            refine wp_callC (f := 18) (args := #[.int .i64 a]) (by cases o'; cases ho; kernel_rfl) (HBE.out _ LX2.out) ?_
            rintro ee W3 ⟨bf, rfl, hbf, b3⟩
            have HBF := Lib.hid hbf
            have LX3 := Lib.hid (LX2.out.trans (b3.mono LX2.out.size))
            have HS3 := Lib.hid (HSB.out _ LX3.out)
            refine ⟨.func (.func 22) #[] #[.pointer (some ⟨bf, 0, none⟩)], rfl, ?_⟩
            rw [hod]
            clear hod ho b3 hbf
            refine ⟨fun _ => HS3.out, ?_⟩
            refine loneG 13 (.call ⟨.value (.func 17), #[(.tmp 24), (.tmp 28)], #[26, 58]⟩) (some 29) (some (6, false)) (by kernel_rfl) (by kernel_rfl) (by kernel_rfl) ?_
            intro o' ho hod
            refine wp_callC (f := 17) (args := #[.slice A2 m2 c2, .func (.func 22) #[] #[.pointer (some ⟨bf, 0, none⟩)]]) (by cases o'; cases ho; kernel_rfl) (HY1.out _ _ LX3.out HBF.out) ?_
            rintro ee W4 ⟨rfl, b4⟩
            have LX4 := Lib.hid (LX3.out.trans (b4.mono LX3.out.size))
            have HS4 := Lib.hid (HSB.out _ LX4.out)
            refine ⟨.bool false, rfl, ?_⟩
            rw [hod]
            clear hod ho b4
            refine ⟨fun _ => HS4.out, ?_⟩
            refine lastS 14 (.pick (.tmp 22) (.const (Value.bool true)) (.tmp 29)) (some 30) (.bool false) (by kernel_rfl) (by kernel_rfl) (by kernel_rfl) HS4.out (fun o' e => exec_pick (b := false) _ e (by kernel_rfl) (by kernel_rfl)) ?_
            simp only [put_some, put_none, List.setIfInBounds_toArray, List.set_cons_succ, List.set_cons_zero]
            have LZ : Hid (Below W.heap.size W W4) := Lib.hid (LW5.out.trans (LX4.out.mono HWR.out))
            clear HS4 HS3 HS2 HS1 HS
            go_wp2_with fail
            go_roundw
            case rel => exact ⟨i + 1, by omega, by go_num, HF1, LZ⟩
            case measure => simp [intOf]; omega
      · obtain rfl : i = n := by omega
        have i1 : ¬ ((i : Int) < (i : Int)) := by omega
        obtain ⟨a, ha⟩ : ∃ a, a = aheadL L i := ⟨_, rfl⟩
        have HA1 : Hid (∀ W2, Below wr.heap.size wr W2 → Calls Try.prog 13 #[.agg #[.int .i64 bs, .slice A i c, .slice A' m c']] W2 fun e w' => e = .returned (.int .i64 a) ∧ Below W2.heap.size W2 w') := Lib.hid fun W2 hb2 => by
          rw [ha]; exact HLA.out W2 (LW.out.trans (hb2.mono LW.out.size))
        have HBE : Hid (∀ W2, Below wr.heap.size wr W2 → Calls Try.prog 18 #[.int .i64 a] W2 fun e w' => MadeB W2 a e w') := Lib.hid fun W2 _ => behind_at W2 a
        obtain ⟨yy, hyy⟩ : ∃ yy, yy = youngL a L.dead := ⟨_, rfl⟩
        have HY1 : Hid (∀ (W2 : World) (bf : Nat), Below wr.heap.size wr W2 → Blk W2 bf 3 #[.int .i64 a] → Calls Try.prog 17 #[.slice A' m c', .func (.func 22) #[] #[.pointer (some ⟨bf, 0, none⟩)]] W2 fun e w' => e = .returned (.bool (!yy)) ∧ Below W2.heap.size W2 w') := Lib.hid fun W2 bf hb2 hbk => by
          rw [hyy]; exact contains_at W2 L.dead A' c' bf m a HM.out (by rw [HM.out]; exact HF.out.nd) ((HRS.out.2.below LW.out).below hb2) hbk
        have HQ : Hid (R = if yy then 0 else 2) := Lib.hid (by
          rw [HR.out, hyy, ha]
          unfold rightL
          rw [← HN.out, HF0.out, Bool.true_and])
        have HSB : Hid (∀ W2, Below wr.heap.size wr W2 → Blk W2 ro 28 #[.int .i64 bs, .slice A i c, .slice A' m c']) := Lib.hid fun W2 hb2 => HXr.out.below hb2 HXr.out.lt
        have LX0 : Hid (Below wr.heap.size wr wr.drew) := Lib.hid (Below.refl _ _).drew
        have HS := Lib.hid (HSB.out _ LX0.out)
        have HWR : Hid (W.heap.size ≤ wr.heap.size) := Lib.hid LW.out.size
        clear ha hyy hlt HF0
        cases yy with
        | false =>
          go_upto_region 9 with (fail)
          refine region_anyZ (fun w' => Blk w' ro 28 #[.int .i64 bs, .slice A i c, .slice A' m c']) 6 (by kernel_rfl) ?_
          refine takeG 0 (.fieldAddr 28 (.tmp 1) 2) (some 32) none (.pointer (some ⟨ro, 2, none⟩)) (by kernel_rfl) (by kernel_rfl) (by kernel_rfl) (fun _ _ _ h => h) (fun o' wq e hS => exec_field (u := .pointer (some ⟨ro, 0, none⟩)) wq e (by kernel_rfl) (by kernel_rfl)) HS.out ?_
          refine takeG 1 (.load 26 (.tmp 32)) (some 33) none (.slice A' m c') (by kernel_rfl) (by kernel_rfl) (by kernel_rfl) (fun _ _ _ h => h) (fun o' wq e hS => exec_load (x := (.tmp 32)) e (by kernel_rfl) (load_one Try.underlying26 (by kernel_rfl) (hS.cell 2))) HS.out ?_
          refine takeG 2 (.load 28 (.tmp 1)) (some 34) none (.agg #[.int .i64 bs, .slice A i c, .slice A' m c']) (by kernel_rfl) (by kernel_rfl) (by kernel_rfl) (fun _ _ _ h => h) (fun o' wq e hS => exec_load (x := (.tmp 1)) e (by kernel_rfl) (load_ln hS)) HS.out ?_
          refine loneG 3 (.call ⟨.value (.func 13), #[(.tmp 34)], #[28]⟩) (some 35) none (by kernel_rfl) (by kernel_rfl) (by kernel_rfl) ?_
          intro o' ho hod
          refine wp_callC (f := 13) (args := #[.agg #[.int .i64 bs, .slice A i c, .slice A' m c']]) (by cases o'; cases ho; kernel_rfl) (HA1.out _ LX0.out) ?_
          rintro ee W1 ⟨rfl, b1⟩
          have LX1 := Lib.hid (LX0.out.trans (b1.mono LX0.out.size))
          have HS1 := Lib.hid (HSB.out _ LX1.out)
          refine ⟨.int .i64 a, rfl, ?_⟩
          rw [hod]
          clear hod ho b1
          refine ⟨fun _ => HS1.out, ?_⟩
          refine loneG 4 (.call ⟨.value (.func 18), #[(.tmp 35)], #[3]⟩) (some 36) none (by kernel_rfl) (by kernel_rfl) (by kernel_rfl) ?_
          intro o' ho hod
          refine wp_callC (f := 18) (args := #[.int .i64 a]) (by cases o'; cases ho; kernel_rfl) (HBE.out _ LX1.out) ?_
          rintro ee W2 ⟨bf, rfl, hbf, b2⟩
          have HBF := Lib.hid hbf
          have LX2 := Lib.hid (LX1.out.trans (b2.mono LX1.out.size))
          have HS2 := Lib.hid (HSB.out _ LX2.out)
          refine ⟨.func (.func 22) #[] #[.pointer (some ⟨bf, 0, none⟩)], rfl, ?_⟩
          rw [hod]
          clear hod ho b2 hbf
          refine ⟨fun _ => HS2.out, ?_⟩
          refine loneG 5 (.call ⟨.value (.func 17), #[(.tmp 33), (.tmp 36)], #[26, 58]⟩) (some 37) none (by kernel_rfl) (by kernel_rfl) (by kernel_rfl) ?_
          intro o' ho hod
          refine wp_callC (f := 17) (args := #[.slice A' m c', .func (.func 22) #[] #[.pointer (some ⟨bf, 0, none⟩)]]) (by cases o'; cases ho; kernel_rfl) (HY1.out _ _ LX2.out HBF.out) ?_
          rintro ee W3 ⟨rfl, b3⟩
          have LX3 := Lib.hid (LX2.out.trans (b3.mono LX2.out.size))
          have HS3 := Lib.hid (HSB.out _ LX3.out)
          refine ⟨.bool true, rfl, ?_⟩
          rw [hod]
          clear hod ho b3
          refine ⟨fun _ => HS3.out, ?_⟩
          refine AnyZ.done (by kernel_rfl) ?_
          simp only [put_some, put_none, List.setIfInBounds_toArray, List.set_cons_succ, List.set_cons_zero]
          go_wp2_with fail
          go_ret
          rw [HQ.out]
          exact ⟨rfl, L1.out.trans ((LW.out.trans (LX3.out.mono HWR.out)).mono L1.out.size)⟩
        | true =>
          go_upto_region 9 with (fail)
          refine region_anyZ (fun w' => Blk w' ro 28 #[.int .i64 bs, .slice A i c, .slice A' m c']) 6 (by kernel_rfl) ?_
          refine takeG 0 (.fieldAddr 28 (.tmp 1) 2) (some 32) none (.pointer (some ⟨ro, 2, none⟩)) (by kernel_rfl) (by kernel_rfl) (by kernel_rfl) (fun _ _ _ h => h) (fun o' wq e hS => exec_field (u := .pointer (some ⟨ro, 0, none⟩)) wq e (by kernel_rfl) (by kernel_rfl)) HS.out ?_
          refine takeG 1 (.load 26 (.tmp 32)) (some 33) none (.slice A' m c') (by kernel_rfl) (by kernel_rfl) (by kernel_rfl) (fun _ _ _ h => h) (fun o' wq e hS => exec_load (x := (.tmp 32)) e (by kernel_rfl) (load_one Try.underlying26 (by kernel_rfl) (hS.cell 2))) HS.out ?_
          refine takeG 2 (.load 28 (.tmp 1)) (some 34) none (.agg #[.int .i64 bs, .slice A i c, .slice A' m c']) (by kernel_rfl) (by kernel_rfl) (by kernel_rfl) (fun _ _ _ h => h) (fun o' wq e hS => exec_load (x := (.tmp 1)) e (by kernel_rfl) (load_ln hS)) HS.out ?_
          refine loneG 3 (.call ⟨.value (.func 13), #[(.tmp 34)], #[28]⟩) (some 35) none (by kernel_rfl) (by kernel_rfl) (by kernel_rfl) ?_
          intro o' ho hod
          refine wp_callC (f := 13) (args := #[.agg #[.int .i64 bs, .slice A i c, .slice A' m c']]) (by cases o'; cases ho; kernel_rfl) (HA1.out _ LX0.out) ?_
          rintro ee W1 ⟨rfl, b1⟩
          have LX1 := Lib.hid (LX0.out.trans (b1.mono LX0.out.size))
          have HS1 := Lib.hid (HSB.out _ LX1.out)
          refine ⟨.int .i64 a, rfl, ?_⟩
          rw [hod]
          clear hod ho b1
          refine ⟨fun _ => HS1.out, ?_⟩
          refine loneG 4 (.call ⟨.value (.func 18), #[(.tmp 35)], #[3]⟩) (some 36) none (by kernel_rfl) (by kernel_rfl) (by kernel_rfl) ?_
          intro o' ho hod
          refine wp_callC (f := 18) (args := #[.int .i64 a]) (by cases o'; cases ho; kernel_rfl) (HBE.out _ LX1.out) ?_
          rintro ee W2 ⟨bf, rfl, hbf, b2⟩
          have HBF := Lib.hid hbf
          have LX2 := Lib.hid (LX1.out.trans (b2.mono LX1.out.size))
          have HS2 := Lib.hid (HSB.out _ LX2.out)
          refine ⟨.func (.func 22) #[] #[.pointer (some ⟨bf, 0, none⟩)], rfl, ?_⟩
          rw [hod]
          clear hod ho b2 hbf
          refine ⟨fun _ => HS2.out, ?_⟩
          refine loneG 5 (.call ⟨.value (.func 17), #[(.tmp 33), (.tmp 36)], #[26, 58]⟩) (some 37) none (by kernel_rfl) (by kernel_rfl) (by kernel_rfl) ?_
          intro o' ho hod
          refine wp_callC (f := 17) (args := #[.slice A' m c', .func (.func 22) #[] #[.pointer (some ⟨bf, 0, none⟩)]]) (by cases o'; cases ho; kernel_rfl) (HY1.out _ _ LX2.out HBF.out) ?_
          rintro ee W3 ⟨rfl, b3⟩
          have LX3 := Lib.hid (LX2.out.trans (b3.mono LX2.out.size))
          have HS3 := Lib.hid (HSB.out _ LX3.out)
          refine ⟨.bool false, rfl, ?_⟩
          rw [hod]
          clear hod ho b3
          refine ⟨fun _ => HS3.out, ?_⟩
          refine AnyZ.done (by kernel_rfl) ?_
          simp only [put_some, put_none, List.setIfInBounds_toArray, List.set_cons_succ, List.set_cons_zero]
          go_wp2_with fail
          go_ret
          rw [HQ.out]
          exact ⟨rfl, L1.out.trans ((LW.out.trans (LX3.out.mono HWR.out)).mono L1.out.size)⟩
end Dd
end Go.Proofs.Ytefgofoocabkkaa
