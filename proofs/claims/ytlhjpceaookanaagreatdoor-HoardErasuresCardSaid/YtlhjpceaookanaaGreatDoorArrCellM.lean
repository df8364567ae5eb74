/-
  What 'parity.fault' refuses beside the order of the bad ones, and 'Rebuild' without a bad column, whatever the empty list is. Conditions: columns read as rows of bytes, the bad ones as a row of numbers.
-/
import Derived.Test.YtlhjpceaookanaaGreatDoorParHealAll
import Derived.Test.YtlhjpceaookanaaGreatDoorParSoundM
import Derived.Test.YtlhjpceaookanaaGreatDoorFieldDoM
import Derived.Test.YtlhjpceaookanaaGreatDoorArrCallsM
import Derived.Test.YtlhjpceaookanaaGreatDoorRackRotRowM
namespace Go.Proofs.YtlhjpceaookanaaGreatDoor
open Go Go.RowKit
set_option maxRecDepth 100000
set_option linter.unusedVariables false

set_option maxHeartbeats 1600000 in
theorem alike_not (k cd B m c B2 f i0 : Nat) (A A2 : Option Addr) (ra : Nat → Option Addr) (rl rc : Nat → Nat) (x : Nat → Nat → Nat) (b : Nat → Int) (w : World) (hr : RdR w B A k ra rl rc x) (hz : RdZ w B2 A2 m b) (hmc : m ≤ c) (hcm : c ≤ maxLen) (hri : Rise m b (k : Int)) (hf : First m b f) (hfk : f < k) (hk : k ≤ 16) (hm : m ≤ 16) (hi0 : i0 < k) (hb0 : isB m b i0 = false) (hn0 : rl i0 ≠ rl f) (hg0 : ∀ i, i < i0 → (∀ j, j < m → b j ≠ (i : Int)) → rl i = rl f) (h1 : 1 ≤ rl f) (h2 : rl f ≤ 4096) :
    Calls Tryz.prog 81 #[.slice A k cd, .slice A2 m c] w fun e w' => e = .returned (.bool false) ∧ w = w' := by
  have HA := Lib.hid hg0
  have HB0 := Lib.hid hb0
  have HN0 := Lib.hid hn0
  have HR := Lib.hid hr
  have HZ := Lib.hid hz
  have HRI := Lib.hid hri
  have HF := Lib.hid hf
  have L0 : Hid (Left w B2 (.slice A2 m c) m 0 m 0 b) := Lib.hid (Left.start hz hmc hcm hri)
  have t1 : ((rl f : Int) < 1) = False := by simp; omega
  have t2 : ((4096 : Int) < (rl f : Int)) = False := by simp; omega
  clear hg0 hb0 hn0 hr hz hri hf
  go_enter Tryz.func81, Tryz.ntmps81
  go_wp2_with fail
  refine (length_at k cd B m c B2 f A A2 ra rl rc x b _ HR.out HZ.out HF.out hfk hk hm).mono ?_
  rintro e w1 ⟨rfl, rfl⟩
  generalize hn : rl f = n at *
  have HN := Lib.hid hn
  clear hn
  go_wp2_with fail
  go_loop [1, 19] (fun y x => ∃ i t q : Nat, i ≤ i0 ∧ x = .int .i64 i ∧ Hid (Left w B2 y m t q i b)) (fun _ x => i0 - (intOf x).toNat)
  case atStart => exact ⟨0, 0, m, by omega, rfl, L0⟩
  case round =>
    clear L0
    obtain ⟨i, t, q, hi, rfl, L⟩ := hrel
    by_cases hlt : i < i0
    · have hltk : i < k := by omega
      obtain ⟨bx, ox, rfl, hbx, hcx, _⟩ := HR.out i hltk
      obtain ⟨A', c', rfl, hqc, hcm', hz'⟩ := L.out.row
      unfold maxLen at hcm'
      clear hbx
      by_cases hq : q = 0
      · subst hq
        rw [HA.out i hlt (L.out.not_bad (.inl rfl) HRI.out)] at hcx
        have L2 := Lib.hid (L.out.keep (.inl rfl) HRI.out)
        generalize ra i = r1 at *
        generalize rc i = c1 at *
        clear L hz'
        go_wp2_with fail
        go_round
        case rel => exact ⟨i + 1, t, 0, by omega, by go_num, L2⟩
        case measure => simp [intOf]; omega
      · obtain ⟨q, rfl⟩ : ∃ q', q = q' + 1 := ⟨q - 1, by omega⟩
        obtain ⟨bb, ob, rfl, hbb, hcb⟩ := hz' 0 (by omega)
        have hcb : w.cell? ⟨bb, ob, none⟩ = some (.int .i64 (b t)) := hcb
        by_cases hb : b t = (i : Int)
        · have hz2 : RdZ w B2 (some ⟨bb, ob + 1, none⟩) q (fun j => b (t + 1 + j)) := fun j hj => by
            obtain ⟨b', o', e, h1, h2⟩ := hz' (j + 1) (by omega)
            injection e with e
            injection e with e1 e2
            subst e1; subst e2
            refine ⟨bb, ob + 1, rfl, h1, ?_⟩
            rw [show ob + 1 + j = ob + (j + 1) by omega]
            show _ = some (Value.int .i64 (b (t + 1 + j)))
            rw [show t + 1 + j = t + (j + 1) by omega]
            exact h2
          have hz3 : q = 0 → RdZ w B2 (some ⟨bb, ob, none⟩) q (fun j => b (t + 1 + j)) := fun e j hj => absurd hj (by omega)
          rw [hb] at hcb
          have HZ2 := Lib.hid hz2
          have HZ3 := Lib.hid hz3
          have HB := Lib.hid hb
          have L2 := fun A c h1 h2 h3 => Lib.hid (L.out.next (A := A) (c := c) HRI.out HB.out h1 h2 h3)
          have HL2 := Lib.hid L2
          have hsub : IntKind.i64.wrap (((q + 1 : Nat) : Int) - 1) = (q : Int) := by rw [IntKind.wrap_i64]; omega
          generalize ra i = r1 at *
          generalize rc i = c1 at *
          generalize rl i = l1 at *
          clear hz' hz2 hz3 hbb hb L2 L
          by_cases hc1 : c' = 1
          · subst hc1
            obtain rfl : q = 0 := by omega
            go_wp2_with fail
            go_round
            case rel => exact ⟨i + 1, t + 1, 0, by omega, by go_num, HL2.out _ _ (by omega) (by unfold maxLen; omega) (HZ3.out rfl)⟩
            case measure => simp [intOf]; omega
          · have hc2 : 1 < c' := by omega
            go_wp2_with fail
            go_round
            case rel => exact ⟨i + 1, t + 1, q, by omega, by go_num, HL2.out _ _ (by omega) (by unfold maxLen; omega) HZ2.out⟩
            case measure => simp [intOf]; omega
        · have hne : (b t == (i : Int)) = false := by rw [beq_eq_false_iff_ne]; exact hb
          rw [HA.out i hlt (L.out.not_bad (.inr hb) HRI.out)] at hcx
          have L2 := Lib.hid (L.out.keep (.inr hb) HRI.out)
          generalize ra i = r1 at *
          generalize rc i = c1 at *
          generalize b t = z at *
          clear L hz' hbb hb
          go_wp2_with fail
          go_round
          case rel => exact ⟨i + 1, t, q + 1, by omega, by go_num, L2⟩
          case measure => simp [intOf]; omega
    · obtain rfl : i = i0 := by omega
      have hltk := hi0
      obtain ⟨bx, ox, rfl, hbx, hcx, _⟩ := HR.out i hltk
      obtain ⟨A', c', rfl, hqc, hcm', hz'⟩ := L.out.row
      unfold maxLen at hcm'
      have hne : ((rl i : Nat) : Int) ≠ (n : Int) := fun e => HN0.out (by have := HN.out; omega)
      have t3 : (((rl i : Nat) : Int) != (n : Int)) = true := by rw [bne_iff_ne]; exact hne
      have hbt : q ≠ 0 → b t ≠ (i : Int) := fun hq e => by
        have h := HB0.out
        rw [isB_true (show t < m by have := L.out.sum; omega) e] at h
        cases h
      have HBT := Lib.hid hbt
      generalize ra i = r1 at *
      generalize rc i = c1 at *
      generalize rl i = l1 at *
      clear hbx hne hbt
      by_cases hq : q = 0
      · subst hq
        clear L hz'
        go_wp2_with fail
        go_ret
        exact ⟨rfl, rfl⟩
      · obtain ⟨q, rfl⟩ : ∃ q', q = q' + 1 := ⟨q - 1, by omega⟩
        obtain ⟨bb, ob, rfl, hbb, hcb⟩ := hz' 0 (by omega)
        have hcb2 : w.cell? ⟨bb, ob, none⟩ = some (.int .i64 (b t)) := hcb
        have hne : (b t == (i : Int)) = false := by rw [beq_eq_false_iff_ne]; exact HBT.out (by omega)
        generalize b t = z at *
        clear L hz' hbb hcb hq HBT
        go_wp2_with fail
        go_ret
        exact ⟨rfl, rfl⟩

set_option maxHeartbeats 800000 in
theorem alike_short (k cd B m c B2 f : Nat) (A A2 : Option Addr) (ra : Nat → Option Addr) (rl rc : Nat → Nat) (x : Nat → Nat → Nat) (b : Nat → Int) (w : World) (hr : RdR w B A k ra rl rc x) (hz : RdZ w B2 A2 m b) (hf : First m b f) (hfk : f < k) (hk : k ≤ 16) (hm : m ≤ 16) (h : rl f < 1 ∨ 4096 < rl f) :
    Calls Tryz.prog 81 #[.slice A k cd, .slice A2 m c] w fun e w' => e = .returned (.bool false) ∧ w = w' := by
  have HR := Lib.hid hr
  have HZ := Lib.hid hz
  have HF := Lib.hid hf
  clear hr hz hf
  rcases h with h | h
  · have t1 : ((rl f : Int) < 1) = True := by simp; omega
    go_enter Tryz.func81, Tryz.ntmps81
    go_wp2_with fail
    refine (length_at k cd B m c B2 f A A2 ra rl rc x b _ HR.out HZ.out HF.out hfk hk hm).mono ?_
    rintro e w1 ⟨rfl, rfl⟩
    go_wp2_with fail
    go_ret
    exact ⟨rfl, rfl⟩
  · have t1 : ((rl f : Int) < 1) = False := by simp; omega
    have t2 : ((4096 : Int) < (rl f : Int)) = True := by simp; omega
    go_enter Tryz.func81, Tryz.ntmps81
    go_wp2_with fail
    refine (length_at k cd B m c B2 f A A2 ra rl rc x b _ HR.out HZ.out HF.out hfk hk hm).mono ?_
    rintro e w1 ⟨rfl, rfl⟩
    go_wp2_with fail
    go_ret
    exact ⟨rfl, rfl⟩
theorem not_alike {k m f : Nat} {b : Nat → Int} {rl : Nat → Nat} (h : ¬ AlikeB k m (rl f) b rl) : (rl f < 1 ∨ 4096 < rl f) ∨ ∃ i0, i0 < k ∧ isB m b i0 = false ∧ rl i0 ≠ rl f ∧ (∀ i, i < i0 → (∀ j, j < m → b j ≠ (i : Int)) → rl i = rl f) ∧ 1 ≤ rl f ∧ rl f ≤ 4096 := by
  by_cases h1 : rl f < 1
  · exact .inl (.inl h1)
  by_cases h2 : 4096 < rl f
  · exact .inl (.inr h2)
  refine .inr ?_
  obtain ⟨i0, hi0, hbad, hgood⟩ := least_p (p := fun i => (∀ j, j < m → b j ≠ (i : Int)) → rl i = rl f) fun q => h ⟨by omega, by omega, q⟩
  have hb : ∀ j, j < m → b j ≠ (i0 : Int) := fun j hj e => hbad fun q => absurd e (q j hj)
  exact ⟨i0, hi0, isB_false hb, fun e => hbad fun _ => e, hgood, by omega, by omega⟩
set_option maxHeartbeats 800000 in
theorem fault_alike (k cd B m c B2 f : Nat) (A A2 : Option Addr) (ra : Nat → Option Addr) (rl rc : Nat → Nat) (x : Nat → Nat → Nat) (b : Nat → Int) (w : World) (hr : RdR w B A k ra rl rc x) (hz : RdZ w B2 A2 m b) (hmc : m ≤ c) (hcm : c ≤ maxLen) (hri : Rise m b (k : Int)) (hf : First m b f) (hfk : f < k) (hk4 : 4 ≤ k) (hk : k ≤ 16) (hmk : m ≠ k) (hm : m ≤ 16) (ha : ¬ AlikeB k m (rl f) b rl) :
    Calls Tryz.prog 97 #[.slice A k cd, .slice A2 m c] w fun e w' => e = .returned (.int .i64 1) ∧ w = w' := by
  have HAL : Hid (Calls Tryz.prog 81 #[.slice A k cd, .slice A2 m c] w fun e w' => e = .returned (.bool false) ∧ w = w') := Lib.hid (by
    rcases not_alike ha with h | ⟨i0, g1, g2, g3, g4, g5, g6⟩
    · exact alike_short k cd B m c B2 f A A2 ra rl rc x b w hr hz hf hfk hk hm h
    · exact alike_not k cd B m c B2 f i0 A A2 ra rl rc x b w hr hz hmc hcm hri hf hfk hk hm g1 g2 g3 g4 g5 g6)
  have HZ := Lib.hid hz
  have HRI := Lib.hid hri
  have t1 : ((k : Int) < 4) = False := by simp; omega
  have t2 : ((16 : Int) < (k : Int)) = False := by simp; omega
  have t3 : ((m : Int) == (k : Int)) = false := by rw [beq_eq_false_iff_ne]; omega
  have hmm : m ≤ maxLen := by unfold maxLen; omega
  clear ha hr hz hri hf hcm
  go_enter Tryz.func97, Tryz.ntmps97
  go_wp2_with fail
  refine (rising_yes m c B2 A2 b _ _ HZ.out hmm HRI.out).mono ?_
  rintro e w1 ⟨rfl, rfl⟩
  go_wp2_with fail
  refine HAL.out.mono ?_
  rintro e w1 ⟨rfl, rfl⟩
  go_wp2_with fail
  go_ret
  exact ⟨rfl, rfl⟩
theorem fault_few (k cd m c : Nat) (A A2 : Option Addr) (w : World) (hk : ¬ (4 ≤ k ∧ k ≤ 16)) :
    Calls Tryz.prog 97 #[.slice A k cd, .slice A2 m c] w fun e w' => e = .returned (.int .i64 1) ∧ w = w' := by
  by_cases h1 : k < 4
  · have t1 : ((k : Int) < 4) = True := by simp; omega
    go_enter Tryz.func97, Tryz.ntmps97
    go_wp2_with fail
    go_ret
    exact ⟨rfl, rfl⟩
  have t1 : ((k : Int) < 4) = False := by simp; omega
  have t2 : ((16 : Int) < (k : Int)) = True := by simp; omega
  go_enter Tryz.func97, Tryz.ntmps97
  go_wp2_with fail
  go_ret
  exact ⟨rfl, rfl⟩
end Go.Proofs.YtlhjpceaookanaaGreatDoor
namespace Go.Proofs.YtlhjpceaookanaaGreatDoor
open Go Go.RowKit
set_option maxRecDepth 100000
set_option linter.unusedVariables false

set_option maxHeartbeats 800000 in
theorem mend_zero (b m cd c2 : Nat) (A A2 : Option Addr) (w : World) (hk : m + 3 ≤ 16) (h0 : A2 = none → c2 = 0) (hcm : c2 ≤ maxLen) :
    Calls Tryz.prog 99 #[.pointer (some ⟨b, 0, none⟩), .slice A (m + 3) cd, .slice A2 0 c2] w fun e w' => e = .returned (.tuple #[]) ∧ Below w.heap.size w w' := by
  have e1 : IntKind.i64.wrap (((m + 3 : Nat) : Int) - 3) = (m : Int) := by rw [IntKind.wrap_i64]; omega
  have HT : Hid True := trivial
  have H0 := Lib.hid h0
  have HCM := Lib.hid hcm
  have HZ0 : Hid (∀ W : World, RdZ W W.heap.size (subA A2 c2 0) 0 (fun _ => 0)) := Lib.hid fun W i hi => absurd hi (by omega)
  unfold maxLen at hcm
  clear h0
  go_enter Tryz.func99, Tryz.ntmps99
  go_wp2_with fail
  go_loop [7] (fun x => x = .int .i64 0) (fun _ => 0)
  case atStart => rfl
  case round =>
    obtain rfl := hrel
    clear e1
    go_wp2_with fail
    refine region_anyZ (fun _ : World => True) 13 (by kernel_rfl) ?_
    refine takeG 0 (.move (.tmp 0)) (some 27) none (.pointer (some ⟨b, 0, none⟩)) (by kernel_rfl) (by kernel_rfl) (by kernel_rfl) (fun _ _ _ h => h) (fun o w e hS => exec_move w e (by kernel_rfl)) HT.out ?_
    refine takeG 1 (.move (.tmp 1)) (some 28) none (.slice A (m + 3) cd) (by kernel_rfl) (by kernel_rfl) (by kernel_rfl) (fun _ _ _ h => h) (fun o w e hS => exec_move w e (by kernel_rfl)) HT.out ?_
    refine takeG 2 (.move (.tmp 2)) (some 29) none (.slice A2 0 c2) (by kernel_rfl) (by kernel_rfl) (by kernel_rfl) (fun _ _ _ h => h) (fun o w e hS => exec_move w e (by kernel_rfl)) HT.out ?_
    refine takeG 3 (.move (.tmp 7)) (some 30) none (.int .i64 0) (by kernel_rfl) (by kernel_rfl) (by kernel_rfl) (fun _ _ _ h => h) (fun o w e hS => exec_move w e (by kernel_rfl)) HT.out ?_
    refine takeG 4 (.slice 22 (.tmp 29) .none (.some (.tmp 30)) .none) (some 31) none (.slice (subA A2 c2 0) 0 c2) (by kernel_rfl) (by kernel_rfl) (by kernel_rfl) (fun _ _ _ h => h) (fun o w e hS => exec_slice (u := .slice A2 0 c2) w e (by kernel_rfl) (by kernel_rfl) (by kernel_rfl) (by kernel_rfl) (slice_toZ A2 0 c2 0 0 rfl (by omega) _)) HT.out ?_
    refine takeG 5 (.move (.tmp 2)) (some 32) none (.slice A2 0 c2) (by kernel_rfl) (by kernel_rfl) (by kernel_rfl) (fun _ _ _ h => h) (fun o w e hS => exec_move w e (by kernel_rfl)) HT.out ?_
    refine takeG 6 (.move (.tmp 7)) (some 33) none (.int .i64 0) (by kernel_rfl) (by kernel_rfl) (by kernel_rfl) (fun _ _ _ h => h) (fun o w e hS => exec_move w e (by kernel_rfl)) HT.out ?_
    refine takeG 7 (.slice 22 (.tmp 32) (.some (.tmp 33)) .none .none) (some 34) none (.slice (subA A2 c2 0) 0 c2) (by kernel_rfl) (by kernel_rfl) (by kernel_rfl) (fun _ _ _ h => h) (fun o w e hS => exec_slice (u := .slice A2 0 c2) w e (by kernel_rfl) (by kernel_rfl) (by kernel_rfl) (by kernel_rfl) (slice_fromZ A2 0 c2 0 0 rfl (by omega) _)) HT.out ?_
    refine takeG 8 (.move (.tmp 6)) (some 35) none (.int .i64 (m : Int)) (by kernel_rfl) (by kernel_rfl) (by kernel_rfl) (fun _ _ _ h => h) (fun o w e hS => exec_move w e (by kernel_rfl)) HT.out ?_
    refine takeG 10 (.move (.tmp 7)) (some 37) none (.int .i64 0) (by kernel_rfl) (by kernel_rfl) (by kernel_rfl) (fun _ _ _ h => h) (fun o w e hS => exec_move w e (by kernel_rfl)) HT.out ?_
    refine loneG 9 (.call ⟨.value (.func 112), #[(.tmp 34), (.tmp 35)], #[22, 3]⟩) (some 36) none (by kernel_rfl) (by kernel_rfl) (by kernel_rfl) ?_
    intro o ho hod
    refine wp_callC (f := 112) (args := #[.slice (subA A2 c2 0) 0 c2, .int .i64 (m : Int)]) (by cases o; cases ho; kernel_rfl) (sound_any m 0 c2 _ (subA A2 c2 0) (fun _ => 0) 0 _ (HZ0.out _) (Nat.le_refl _) (Nat.zero_le _) HCM.out (fun i hi => absurd hi (by omega)) (fun i hi => absurd hi (by omega)) (by omega) (by omega)) ?_
    rintro e w2 ⟨vs, rfl, ho2, hb2⟩
    have hl3 : (sndL 0 (fun _ => (0 : Int)) m 3).length = 3 := rfl
    rw [hl3] at ho2
    obtain ⟨As, cs, rfl, _, _, _⟩ := own_ints2 ho2
    clear ho2 hl3
    refine ⟨.slice As 3 cs, rfl, ?_⟩
    rw [hod]
    clear hod ho
    have L2 := Lib.hid hb2
    refine ⟨fun _ => trivial, ?_⟩
    refine takeG 11 (.slice 22 (.tmp 36) .none (.some (.tmp 37)) .none) (some 38) none (.slice (subA As cs 0) 0 cs) (by kernel_rfl) (by kernel_rfl) (by kernel_rfl) (fun _ _ _ h => h) (fun o w e hS => exec_slice (u := .slice As 3 cs) w e (by kernel_rfl) (by kernel_rfl) (by kernel_rfl) (by kernel_rfl) (slice_toZ As 3 cs 0 0 rfl (by omega) _)) HT.out ?_
    refine loneG 12 (.call ⟨.value (.func 111), #[(.tmp 27), (.tmp 28), (.tmp 31), (.tmp 38)], #[132, 77, 22, 22]⟩) (some 39) none (by kernel_rfl) (by kernel_rfl) (by kernel_rfl) ?_
    intro o ho hod
    refine wp_callC (f := 111) (args := #[.pointer (some ⟨b, 0, none⟩), .slice A (m + 3) cd, .slice (subA A2 c2 0) 0 c2, .slice (subA As cs 0) 0 cs]) (by cases o; cases ho; kernel_rfl) (mendData_zero b m cd cs c2 A (subA A2 c2 0) (subA As cs 0) _ hk) ?_
    rintro e w3 ⟨rfl, hb3⟩
    refine ⟨.tuple #[], rfl, ?_⟩
    rw [hod]
    clear hod ho
    have L3 := Lib.hid (L2.out.trans (hb3.mono L2.out.size))
    clear hb3 L2
    refine ⟨fun _ => trivial, ?_⟩
    refine AnyZ.done (by kernel_rfl) ?_
    simp only [put_some, put_none, List.setIfInBounds_toArray, List.set_cons_succ, List.set_cons_zero]
    by_cases hc0 : c2 = 0
    · subst hc0
      cases A2 with
      | none =>
        go_wp2_with fail
        go_loop [44] (fun x => x = .int .i64 ((0 : Nat) : Int)) (fun _ => 0)
        case atStart => rfl
        case round =>
          obtain rfl := hrel
          go_wp2_with fail
          go_end0
          exact ⟨rfl, (below_drew (Below.refl w.heap.size w)).trans L3.out⟩
      | some ad =>
        go_wp2_with fail
        go_loop [44] (fun x => x = .int .i64 ((0 : Nat) : Int)) (fun _ => 0)
        case atStart => rfl
        case round =>
          obtain rfl := hrel
          go_wp2_with fail
          go_end0
          exact ⟨rfl, (below_drew (Below.refl w.heap.size w)).trans L3.out⟩
    · cases A2 with
      | none => exact absurd (H0.out rfl) hc0
      | some ad =>
        go_wp2_with fail
        go_loop [44] (fun x => x = .int .i64 ((0 : Nat) : Int)) (fun _ => 0)
        case atStart => rfl
        case round =>
          obtain rfl := hrel
          go_wp2_with fail
          go_end0
          exact ⟨rfl, (below_drew (Below.refl w.heap.size w)).trans L3.out⟩

set_option maxHeartbeats 1600000 in
theorem rebuild_zero (k m cd B c2 : Nat) (A A2 : Option Addr) (ra : Nat → Option Addr) (rl rc : Nat → Nat) (x : Nat → Nat → Nat) (w : World) (hr : RdR w B A k ra rl rc x) (hB : B ≤ w.heap.size) (hm : k = m + 3) (hm0 : 0 < m) (hk : k ≤ 16) (ha : Alike k rl) (h0 : A2 = none → c2 = 0) (hcm : c2 ≤ maxLen) :
    Calls Tryz.prog 78 #[.slice A k cd, .slice A2 0 c2] w fun e w' => ∃ v H R, e = .returned (.tuple #[v, .int .i64 0]) ∧ Cols w' w.heap.size v k (rl 0) H R x ∧ Below w.heap.size w w' := by
  subst hm
  have HA := Lib.hid ha
  have HR := Lib.hid hr
  have hz := build_field
  have HZ : Hid (RdZ w 0 A2 0 (fun _ => 0)) := fun i hi => absurd hi (by omega)
  have HRI : Hid (Rise 0 (fun _ => 0) ((m + 3 : Nat) : Int)) := fun i hi => absurd hi (by omega)
  have HF : Hid (First 0 (fun _ => 0) 0) := ⟨Nat.le_refl _, fun j hj => absurd hj (by omega), fun h => absurd h (by omega)⟩
  have HAB : Hid (AlikeB (m + 3) 0 (rl 0) (fun _ => 0) rl) := ⟨ha.1, ha.2.1, fun i hi _ => ha.2.2 i hi⟩
  have HC0 : Hid (c2 ≤ maxLen) := hcm
  have H0 := Lib.hid h0
  clear hr ha h0
  go_enter Tryz.func78, Tryz.ntmps78
  go_wp2_with fail
  refine (fault_none (m + 3) cd B 0 c2 0 0 A A2 ra rl rc x (fun _ => 0) _ HR.out HZ.out (Nat.zero_le _) HC0.out HRI.out HF.out (by omega) (by omega) (by omega) (by omega) HAB.out).mono ?_
  rintro e w1 ⟨rfl, rfl⟩
  go_wp2_with fail
  refine (whole_any (m + 3) cd B 0 c2 0 0 A A2 ra rl rc x (fun _ => 0) _ HR.out HZ.out hB (by omega) (by omega) HC0.out HRI.out HF.out (by omega) hk (by omega) HAB.out).mono ?_
  rintro e w2 ⟨rfl, H2⟩
  have C2 := Lib.hid (H2.cols hk HA.out.2.1)
  have L2 := Lib.hid H2.below
  have HX : Hid (∀ j, goodX 0 (fun _ => 0) x j = x j) := fun j => by unfold goodX; rw [isB_false (fun j hj => absurd hj (by omega))]; rfl
  clear H2 HZ HRI HF HAB
  go_wp2_with fail
  refine (mend_zero w2.heap.size m (m + 3) c2 (some ⟨w.heap.size, 0, none⟩) A2 _ hk H0.out HC0.out).mono ?_
  rintro e w3 ⟨rfl, hb3⟩
  have B2 : Below w2.heap.size w2 (w2.alloc (.cells (fcells 0 0 0) 147)) := (Below.refl _ _).alloc (Nat.le_refl _) _
  have HB3 := Lib.hid (B2.trans (hb3.mono B2.size))
  clear hb3 B2
  go_wp2_with fail
  go_ret2
  have h := C2.out.below HB3.out (Nat.le_refl _)
  rw [show goodX 0 (fun _ => 0) x = x from funext HX.out] at h
  exact ⟨.slice (some ⟨w.heap.size, 0, none⟩) (m + 3) (m + 3), _, _, rfl, h, L2.out.trans (HB3.out.mono L2.out.size)⟩
end Go.Proofs.YtlhjpceaookanaaGreatDoor
namespace Go.Proofs.YtlhjpceaookanaaGreatDoor
open Go Go.RowKit refRack
set_option maxRecDepth 100000
set_option linter.unusedVariables false
namespace Arr
theorem exec_ext {P : Program} {a : Act} {o : Oper} {x : Operand} {k : Nat} {vs : Array Value} {v : Value} (w : World) (e : o.op = .extract x k) (hx : a.eval x = .tuple vs) (hv : vs[k]? = some v) : (execOp a.eval o).run P w = .ok (.value v) w := by
  unfold execOp; simp only [e, hx, Instr.extract, hv, Sem.run_bind, Sem.run_pure, Result.andThen_ok]
section
variable {B a r f : Nat} {w w' : World} {s s' : RS}
theorem cell_in (h : At B w a r f s) {c : Nat} (hc : c < cells s f) : c % s.nd < s.nd ∧ f + c / s.nd < s.ns := by
  have h5 := h.five
  have hf := h.first
  refine ⟨Nat.mod_lt _ (by omega), ?_⟩
  have : c / s.nd < s.ns - f := by
    rw [Nat.div_lt_iff_lt_mul (by omega), Nat.mul_comm]
    exact hc
  omega
/-- what a cell holds -/
def holdsC (s : RS) (f c : Nat) : Nat → Nat := s.holds (c % s.nd) (f + c / s.nd)
def goneC (s : RS) (c : Nat) : Bool := s.gone (c % s.nd)
theorem why_in (s : RS) {d q : Nat} (hd : d < s.nd) (hq : q < s.ns) : s.why (d : Int) (q : Int) = if s.gone d = true then 3 else 0 := by
  have hp : s.isP (d : Int) (q : Int) = true := by simp [RS.isP, RS.isD]; omega
  unfold RS.why
  rw [if_pos hp, Int.toNat_natCast]
theorem deny_in (s : RS) (ho : s.off = false) {d q : Nat} (hd : d < s.nd) (hq : q < s.ns) : s.deny (d : Int) (q : Int) = if s.gone d = true then 3 else 0 := by
  unfold RS.deny
  rw [why_in s hd hq, ho]
  by_cases hg : s.gone d = true
  · rw [if_pos hg, if_neg (by omega)]
  · rw [if_neg hg, if_pos rfl, if_neg (by simp)]
/-- so many bytes a read answers -/
def lenC (s : RS) (c : Nat) : Nat := if goneC s c = true then 0 else 128
def errC (s : RS) (c : Nat) : Int := if goneC s c = true then 3 else 0
theorem rdC (h : At B w a r f s) (ho : s.off = false) {c : Nat} (hc : c < cells s f) :
    Calls Tryz.prog 13 #[.pointer (some ⟨r, 0, none⟩), .int .i64 ((c % s.nd : Nat) : Int), .int .i64 ((f + c / s.nd : Nat) : Int)] w fun e w' => (∃ v, e = .returned (.tuple #[v, .int .i64 (errC s c)]) ∧ w'.ownsRow w.heap.size 5 1 v (lenC s c) (rowL (lenC s c) (holdsC s f c))) ∧ RackAt B w' r s ∧ Keep B w w' := by
  obtain ⟨h1, h2⟩ := cell_in h hc
  have h3 := deny_in s ho h1 h2
  refine (read_tot w r s _ _ h.rack).mono ?_
  rintro e w' ⟨⟨v, rfl, hv⟩, hr, hk⟩
  refine ⟨⟨v, ?_, ?_⟩, hr, hk⟩
  · rw [h3]; rfl
  · unfold rdN at hv
    rw [h3] at hv
    simp only [Int.toNat_natCast] at hv
    unfold lenC goneC holdsC
    by_cases hg : s.gone (c % s.nd) = true
    · rw [if_pos hg, if_neg (by omega)] at hv
      rw [if_pos hg]
      exact hv
    · rw [if_neg hg, if_pos rfl] at hv
      rw [if_neg hg]
      exact hv
set_option maxHeartbeats 800000 in
theorem read_any (w : World) (h : At B w a r f s) (ho : s.off = false) (c : Nat) (hc : c < cells s f) :
    Calls Tryz.prog 40 #[.pointer (some ⟨a, 0, none⟩), .int .i64 (c : Int)] w fun e w' => (∃ v, e = .returned (.tuple #[v, .int .i64 (errC s c)]) ∧ w'.ownsRow w.heap.size 5 1 v (lenC s c) (rowL (lenC s c) (holdsC s f c))) ∧ RackAt B w' r s ∧ Keep B w w' := by
  have hle := cells_le h
  have HC : Hid (c ≤ 100000) := Lib.hid (by omega)
  have HL := Lib.hid hc
  have HO := Lib.hid ho
  have H0 : Hid (At B w.drew a r f s) := Lib.hid (h.drewN 1)
  have HS0 : Hid (w.drew.cell? ⟨a, 0, none⟩ = some (.pointer (some ⟨r, 0, none⟩))) := Lib.hid H0.out.c0
  clear h hle hc ho
  go_enter Tryz.func40, Tryz.ntmps40
  go_wp2_with fail
  refine region_anyZ (fun W => W.cell? ⟨a, 0, none⟩ = some (.pointer (some ⟨r, 0, none⟩))) 15 (by kernel_rfl) ?_
  refine takeG 0 (.move (.tmp 0)) (some 6) none (.pointer (some ⟨a, 0, none⟩)) (by kernel_rfl) (by kernel_rfl) (by kernel_rfl) (fun _ _ _ h => h) (fun o' wq e hS => exec_move wq e (by kernel_rfl)) HS0.out ?_
  refine takeG 1 (.nilCheck (.tmp 6)) (some 7) none (.pointer (some ⟨a, 0, none⟩)) (by kernel_rfl) (by kernel_rfl) (by kernel_rfl) (fun _ _ _ h => h) (fun o' wq e hS => exec_nil wq e (by kernel_rfl)) HS0.out ?_
  refine takeG 2 (.fieldAddr 105 (.tmp 7) 0) (some 8) none (.pointer (some ⟨a, 0, none⟩)) (by kernel_rfl) (by kernel_rfl) (by kernel_rfl) (fun _ _ _ h => h) (fun o' wq e hS => exec_field (u := .pointer (some ⟨a, 0, none⟩)) wq e (by kernel_rfl) (by kernel_rfl)) HS0.out ?_
  refine takeG 3 (.load 26 (.tmp 8)) (some 9) none (.pointer (some ⟨r, 0, none⟩)) (by kernel_rfl) (by kernel_rfl) (by kernel_rfl) (fun _ _ _ h => h) (fun o' wq e hS => exec_load (x := (.tmp 8)) e (by kernel_rfl) (load_one Tryz.underlying26 (by kernel_rfl) hS)) HS0.out ?_
  refine takeG 4 (.move (.tmp 0)) (some 10) none (.pointer (some ⟨a, 0, none⟩)) (by kernel_rfl) (by kernel_rfl) (by kernel_rfl) (fun _ _ _ h => h) (fun o' wq e hS => exec_move wq e (by kernel_rfl)) HS0.out ?_
  refine takeG 5 (.move (.tmp 1)) (some 11) none (.int .i64 (c : Int)) (by kernel_rfl) (by kernel_rfl) (by kernel_rfl) (fun _ _ _ h => h) (fun o' wq e hS => exec_move wq e (by kernel_rfl)) HS0.out ?_
  refine takeG 7 (.move (.tmp 0)) (some 13) none (.pointer (some ⟨a, 0, none⟩)) (by kernel_rfl) (by kernel_rfl) (by kernel_rfl) (fun _ _ _ h => h) (fun o' wq e hS => exec_move wq e (by kernel_rfl)) HS0.out ?_
  refine takeG 8 (.move (.tmp 1)) (some 14) none (.int .i64 (c : Int)) (by kernel_rfl) (by kernel_rfl) (by kernel_rfl) (fun _ _ _ h => h) (fun o' wq e hS => exec_move wq e (by kernel_rfl)) HS0.out ?_
  refine loneG 6 (.call ⟨.value (.func 43), #[(.tmp 10), (.tmp 11)], #[27, 3]⟩) (some 12) none (by kernel_rfl) (by kernel_rfl) (by kernel_rfl) ?_
  intro o' ho hod
  refine wp_callC (f := 43) (args := #[.pointer (some ⟨a, 0, none⟩), .int .i64 (c : Int)]) (by cases o'; cases ho; kernel_rfl) (drive_any _ H0.out c HC.out) ?_
  rintro e wq ⟨rfl, rfl⟩
  refine ⟨_, rfl, ?_⟩
  rw [hod]
  clear hod ho
  refine ⟨fun _ => HS0.out, ?_⟩

  refine loneG 9 (.call ⟨.value (.func 69), #[(.tmp 13), (.tmp 14)], #[27, 3]⟩) (some 15) none (by kernel_rfl) (by kernel_rfl) (by kernel_rfl) ?_
  intro o' ho hod
  refine wp_callC (f := 69) (args := #[.pointer (some ⟨a, 0, none⟩), .int .i64 (c : Int)]) (by cases o'; cases ho; kernel_rfl) (sector_any _ H0.out c HC.out) ?_
  rintro e wq ⟨rfl, d2, rfl⟩
  refine ⟨_, rfl, ?_⟩
  rw [hod]
  clear hod ho
  have H2 := Lib.hid (H0.out.drewN d2)
  have HS2 : Hid ((w.drew.drewN d2).cell? ⟨a, 0, none⟩ = some (.pointer (some ⟨r, 0, none⟩))) := Lib.hid H2.out.c0
  refine ⟨fun _ => HS2.out, ?_⟩

  refine loneG 10 (.call ⟨.value (.func 13), #[(.tmp 9), (.tmp 12), (.tmp 15)], #[26, 3, 3]⟩) (some 16) none (by kernel_rfl) (by kernel_rfl) (by kernel_rfl) ?_
  intro o' ho hod
  refine wp_callC (f := 13) (args := #[.pointer (some ⟨r, 0, none⟩), .int .i64 ((c % s.nd : Nat) : Int), .int .i64 ((f + c / s.nd : Nat) : Int)]) (by cases o'; cases ho; kernel_rfl) (rdC H2.out HO.out HL.out) ?_
  rintro e wq ⟨⟨v, rfl, hv⟩, h3, k3⟩
  refine ⟨_, rfl, ?_⟩
  rw [hod]
  clear hod ho
  have H3 := Lib.hid (⟨hv, h3, (((Keep.refl B w).drew).drewN d2).trans k3⟩ : _ ∧ _ ∧ _)
  have HS3 : Hid (wq.cell? ⟨a, 0, none⟩ = some (.pointer (some ⟨r, 0, none⟩))) := Lib.hid (k3.block H2.out.blk rfl |>.cell 0)
  clear hv h3 k3
  refine ⟨fun _ => HS3.out, ?_⟩

  refine takeG 11 (.extract (.tmp 16) 0) (some 17) none (v) (by kernel_rfl) (by kernel_rfl) (by kernel_rfl) (fun _ _ _ h => h) (fun o' wq e hS => exec_ext (vs := #[v, .int .i64 (errC s c)]) wq e (by kernel_rfl) (by rfl)) HS3.out ?_
  refine takeG 12 (.extract (.tmp 16) 1) (some 18) none (.int .i64 (errC s c)) (by kernel_rfl) (by kernel_rfl) (by kernel_rfl) (fun _ _ _ h => h) (fun o' wq e hS => exec_ext (vs := #[v, .int .i64 (errC s c)]) wq e (by kernel_rfl) (by rfl)) HS3.out ?_
  refine takeG 13 (.assign (.tmp 17)) (some 4) none (v) (by kernel_rfl) (by kernel_rfl) (by kernel_rfl) (fun _ _ _ h => h) (fun o' wq e hS => exec_assign wq e (by kernel_rfl)) HS3.out ?_
  refine lastS 14 (.assign (.tmp 18)) (some 5) (.int .i64 (errC s c)) (by kernel_rfl) (by kernel_rfl) (by kernel_rfl) HS3.out (fun o' e => exec_assign _ e (by kernel_rfl)) ?_
  simp only [put_some, put_none, List.setIfInBounds_toArray, List.set_cons_succ, List.set_cons_zero]
  go_wp2_with fail
  go_ret2
  exact ⟨⟨v, rfl, by have := H3.out.1; exact own_base this (Nat.le_refl _)⟩, H3.out.2.1, H3.out.2.2⟩
end
end Arr
end Go.Proofs.YtlhjpceaookanaaGreatDoor
