/-
  What 'parity.fault' refuses beside the order of the bad ones, and 'Rebuild' without a bad column, whatever the empty list is. Conditions: columns read as rows of bytes, the bad ones as a row of numbers.
-/
import Derived.Test.YtoabhbmhjelplaaParHealAll
import Derived.Test.YtoabhbmhjelplaaParMend0
namespace Go.Proofs.Ytoabhbmhjelplaa
open Go Go.RowKit
set_option maxRecDepth 100000
set_option linter.unusedVariables false

set_option maxHeartbeats 1600000 in
theorem alike_not (k cd B m c B2 f i0 : Nat) (A A2 : Option Addr) (ra : Nat → Option Addr) (rl rc : Nat → Nat) (x : Nat → Nat → Nat) (b : Nat → Int) (w : World) (hr : RdR w B A k ra rl rc x) (hz : RdZ w B2 A2 m b) (hmc : m ≤ c) (hcm : c ≤ maxLen) (hri : Rise m b (k : Int)) (hf : First m b f) (hfk : f < k) (hk : k ≤ 16) (hm : m ≤ 16) (hi0 : i0 < k) (hb0 : isB m b i0 = false) (hn0 : rl i0 ≠ rl f) (hg0 : ∀ i, i < i0 → (∀ j, j < m → b j ≠ (i : Int)) → rl i = rl f) (h1 : 1 ≤ rl f) (h2 : rl f ≤ 4096) :
    Calls Try.prog 22 #[.slice A k cd, .slice A2 m c] w fun e w' => e = .returned (.bool false) ∧ w = w' := by
  have HA := Lib.hid hg0
  have HB0 := Lib.hid hb0
  have HN0 := Lib.hid hn0
  have HR := Lib.hid hr
  have HZ := Lib.hid hz
  have HRI := Lib.hid hri
  have HF := Lib.hid hf
  have L0 : Hid (Left w B2 (.slice A2 m c) m 0 m 0 b) := Lib.hid (Left.start hz hmc hcm hri)
  have t1 : ((rl f : Int) < 1) = False := by simp; omega
  have t2 : ((4096 : Int) < (rl f : Int)) = False := by simp; omega
  clear hg0 hb0 hn0 hr hz hri hf
  go_enter Try.func22, Try.ntmps22
  go_wp2_with fail
  refine (length_at k cd B m c B2 f A A2 ra rl rc x b _ HR.out HZ.out HF.out hfk hk hm).mono ?_
  rintro e w1 ⟨rfl, rfl⟩
  generalize hn : rl f = n at *
  have HN := Lib.hid hn
  clear hn
  go_wp2_with fail
  go_loop [1, 19] (fun y x => ∃ i t q : Nat, i ≤ i0 ∧ x = .int .i64 i ∧ Hid (Left w B2 y m t q i b)) (fun _ x => i0 - (intOf x).toNat)
  case atStart => exact ⟨0, 0, m, by omega, rfl, L0⟩
  case round =>
    clear L0
    obtain ⟨i, t, q, hi, rfl, L⟩ := hrel
    by_cases hlt : i < i0
    · have hltk : i < k := by omega
      obtain ⟨bx, ox, rfl, hbx, hcx, _⟩ := HR.out i hltk
      obtain ⟨A', c', rfl, hqc, hcm', hz'⟩ := L.out.row
      unfold maxLen at hcm'
      clear hbx
      by_cases hq : q = 0
      · subst hq
        rw [HA.out i hlt (L.out.not_bad (.inl rfl) HRI.out)] at hcx
        have L2 := Lib.hid (L.out.keep (.inl rfl) HRI.out)
        generalize ra i = r1 at *
        generalize rc i = c1 at *
        clear L hz'
        go_wp2_with fail
        go_round
        case rel => exact ⟨i + 1, t, 0, by omega, by go_num, L2⟩
        case measure => simp [intOf]; omega
      · obtain ⟨q, rfl⟩ : ∃ q', q = q' + 1 := ⟨q - 1, by omega⟩
        obtain ⟨bb, ob, rfl, hbb, hcb⟩ := hz' 0 (by omega)
        have hcb : w.cell? ⟨bb, ob, none⟩ = some (.int .i64 (b t)) := hcb
        by_cases hb : b t = (i : Int)
        · have hz2 : RdZ w B2 (some ⟨bb, ob + 1, none⟩) q (fun j => b (t + 1 + j)) := fun j hj => by
            obtain ⟨b', o', e, h1, h2⟩ := hz' (j + 1) (by omega)
            injection e with e
            injection e with e1 e2
            subst e1; subst e2
            refine ⟨bb, ob + 1, rfl, h1, ?_⟩
            rw [show ob + 1 + j = ob + (j + 1) by omega]
            show _ = some (Value.int .i64 (b (t + 1 + j)))
            rw [show t + 1 + j = t + (j + 1) by omega]
            exact h2
          have hz3 : q = 0 → RdZ w B2 (some ⟨bb, ob, none⟩) q (fun j => b (t + 1 + j)) := fun e j hj => absurd hj (by omega)
          rw [hb] at hcb
          have HZ2 := Lib.hid hz2
          have HZ3 := Lib.hid hz3
          have HB := Lib.hid hb
          have L2 := fun A c h1 h2 h3 => Lib.hid (L.out.next (A := A) (c := c) HRI.out HB.out h1 h2 h3)
          have HL2 := Lib.hid L2
          have hsub : IntKind.i64.wrap (((q + 1 : Nat) : Int) - 1) = (q : Int) := by rw [IntKind.wrap_i64]; omega
          generalize ra i = r1 at *
          generalize rc i = c1 at *
          generalize rl i = l1 at *
          clear hz' hz2 hz3 hbb hb L2 L
          by_cases hc1 : c' = 1
          · subst hc1
            obtain rfl : q = 0 := by omega
            go_wp2_with fail
            go_round
            case rel => exact ⟨i + 1, t + 1, 0, by omega, by go_num, HL2.out _ _ (by omega) (by unfold maxLen; omega) (HZ3.out rfl)⟩
            case measure => simp [intOf]; omega
          · have hc2 : 1 < c' := by omega
            go_wp2_with fail
            go_round
            case rel => exact ⟨i + 1, t + 1, q, by omega, by go_num, HL2.out _ _ (by omega) (by unfold maxLen; omega) HZ2.out⟩
            case measure => simp [intOf]; omega
        · have hne : (b t == (i : Int)) = false := by rw [beq_eq_false_iff_ne]; exact hb
          rw [HA.out i hlt (L.out.not_bad (.inr hb) HRI.out)] at hcx
          have L2 := Lib.hid (L.out.keep (.inr hb) HRI.out)
          generalize ra i = r1 at *
          generalize rc i = c1 at *
          generalize b t = z at *
          clear L hz' hbb hb
          go_wp2_with fail
          go_round
          case rel => exact ⟨i + 1, t, q + 1, by omega, by go_num, L2⟩
          case measure => simp [intOf]; omega
    · obtain rfl : i = i0 := by omega
      have hltk := hi0
      obtain ⟨bx, ox, rfl, hbx, hcx, _⟩ := HR.out i hltk
      obtain ⟨A', c', rfl, hqc, hcm', hz'⟩ := L.out.row
      unfold maxLen at hcm'
      have hne : ((rl i : Nat) : Int) ≠ (n : Int) := fun e => HN0.out (by have := HN.out; omega)
      have t3 : (((rl i : Nat) : Int) != (n : Int)) = true := by rw [bne_iff_ne]; exact hne
      have hbt : q ≠ 0 → b t ≠ (i : Int) := fun hq e => by
        have h := HB0.out
        rw [isB_true (show t < m by have := L.out.sum; omega) e] at h
        cases h
      have HBT := Lib.hid hbt
      generalize ra i = r1 at *
      generalize rc i = c1 at *
      generalize rl i = l1 at *
      clear hbx hne hbt
      by_cases hq : q = 0
      · subst hq
        clear L hz'
        go_wp2_with fail
        go_ret
        exact ⟨rfl, rfl⟩
      · obtain ⟨q, rfl⟩ : ∃ q', q = q' + 1 := ⟨q - 1, by omega⟩
        obtain ⟨bb, ob, rfl, hbb, hcb⟩ := hz' 0 (by omega)
        have hcb2 : w.cell? ⟨bb, ob, none⟩ = some (.int .i64 (b t)) := hcb
        have hne : (b t == (i : Int)) = false := by rw [beq_eq_false_iff_ne]; exact HBT.out (by omega)
        generalize b t = z at *
        clear L hz' hbb hcb hq HBT
        go_wp2_with fail
        go_ret
        exact ⟨rfl, rfl⟩

set_option maxHeartbeats 800000 in
theorem alike_short (k cd B m c B2 f : Nat) (A A2 : Option Addr) (ra : Nat → Option Addr) (rl rc : Nat → Nat) (x : Nat → Nat → Nat) (b : Nat → Int) (w : World) (hr : RdR w B A k ra rl rc x) (hz : RdZ w B2 A2 m b) (hf : First m b f) (hfk : f < k) (hk : k ≤ 16) (hm : m ≤ 16) (h : rl f < 1 ∨ 4096 < rl f) :
    Calls Try.prog 22 #[.slice A k cd, .slice A2 m c] w fun e w' => e = .returned (.bool false) ∧ w = w' := by
  have HR := Lib.hid hr
  have HZ := Lib.hid hz
  have HF := Lib.hid hf
  clear hr hz hf
  rcases h with h | h
  · have t1 : ((rl f : Int) < 1) = True := by simp; omega
    go_enter Try.func22, Try.ntmps22
    go_wp2_with fail
    refine (length_at k cd B m c B2 f A A2 ra rl rc x b _ HR.out HZ.out HF.out hfk hk hm).mono ?_
    rintro e w1 ⟨rfl, rfl⟩
    go_wp2_with fail
    go_ret
    exact ⟨rfl, rfl⟩
  · have t1 : ((rl f : Int) < 1) = False := by simp; omega
    have t2 : ((4096 : Int) < (rl f : Int)) = True := by simp; omega
    go_enter Try.func22, Try.ntmps22
    go_wp2_with fail
    refine (length_at k cd B m c B2 f A A2 ra rl rc x b _ HR.out HZ.out HF.out hfk hk hm).mono ?_
    rintro e w1 ⟨rfl, rfl⟩
    go_wp2_with fail
    go_ret
    exact ⟨rfl, rfl⟩
theorem not_alike {k m f : Nat} {b : Nat → Int} {rl : Nat → Nat} (h : ¬ AlikeB k m (rl f) b rl) : (rl f < 1 ∨ 4096 < rl f) ∨ ∃ i0, i0 < k ∧ isB m b i0 = false ∧ rl i0 ≠ rl f ∧ (∀ i, i < i0 → (∀ j, j < m → b j ≠ (i : Int)) → rl i = rl f) ∧ 1 ≤ rl f ∧ rl f ≤ 4096 := by
  by_cases h1 : rl f < 1
  · exact .inl (.inl h1)
  by_cases h2 : 4096 < rl f
  · exact .inl (.inr h2)
  refine .inr ?_
  obtain ⟨i0, hi0, hbad, hgood⟩ := least_p (p := fun i => (∀ j, j < m → b j ≠ (i : Int)) → rl i = rl f) fun q => h ⟨by omega, by omega, q⟩
  have hb : ∀ j, j < m → b j ≠ (i0 : Int) := fun j hj e => hbad fun q => absurd e (q j hj)
  exact ⟨i0, hi0, isB_false hb, fun e => hbad fun _ => e, hgood, by omega, by omega⟩
set_option maxHeartbeats 800000 in
theorem fault_alike (k cd B m c B2 f : Nat) (A A2 : Option Addr) (ra : Nat → Option Addr) (rl rc : Nat → Nat) (x : Nat → Nat → Nat) (b : Nat → Int) (w : World) (hr : RdR w B A k ra rl rc x) (hz : RdZ w B2 A2 m b) (hmc : m ≤ c) (hcm : c ≤ maxLen) (hri : Rise m b (k : Int)) (hf : First m b f) (hfk : f < k) (hk4 : 4 ≤ k) (hk : k ≤ 16) (hmk : m ≠ k) (hm : m ≤ 16) (ha : ¬ AlikeB k m (rl f) b rl) :
    Calls Try.prog 19 #[.slice A k cd, .slice A2 m c] w fun e w' => e = .returned (.int .i64 1) ∧ w = w' := by
  have HAL : Hid (Calls Try.prog 22 #[.slice A k cd, .slice A2 m c] w fun e w' => e = .returned (.bool false) ∧ w = w') := Lib.hid (by
    rcases not_alike ha with h | ⟨i0, g1, g2, g3, g4, g5, g6⟩
    · exact alike_short k cd B m c B2 f A A2 ra rl rc x b w hr hz hf hfk hk hm h
    · exact alike_not k cd B m c B2 f i0 A A2 ra rl rc x b w hr hz hmc hcm hri hf hfk hk hm g1 g2 g3 g4 g5 g6)
  have HZ := Lib.hid hz
  have HRI := Lib.hid hri
  have t1 : ((k : Int) < 4) = False := by simp; omega
  have t2 : ((16 : Int) < (k : Int)) = False := by simp; omega
  have t3 : ((m : Int) == (k : Int)) = false := by rw [beq_eq_false_iff_ne]; omega
  have hmm : m ≤ maxLen := by unfold maxLen; omega
  clear ha hr hz hri hf hcm
  go_enter Try.func19, Try.ntmps19
  go_wp2_with fail
  refine (rising_yes m c B2 A2 b _ _ HZ.out hmm HRI.out).mono ?_
  rintro e w1 ⟨rfl, rfl⟩
  go_wp2_with fail
  refine HAL.out.mono ?_
  rintro e w1 ⟨rfl, rfl⟩
  go_wp2_with fail
  go_ret
  exact ⟨rfl, rfl⟩
theorem fault_few (k cd m c : Nat) (A A2 : Option Addr) (w : World) (hk : ¬ (4 ≤ k ∧ k ≤ 16)) :
    Calls Try.prog 19 #[.slice A k cd, .slice A2 m c] w fun e w' => e = .returned (.int .i64 1) ∧ w = w' := by
  by_cases h1 : k < 4
  · have t1 : ((k : Int) < 4) = True := by simp; omega
    go_enter Try.func19, Try.ntmps19
    go_wp2_with fail
    go_ret
    exact ⟨rfl, rfl⟩
  have t1 : ((k : Int) < 4) = False := by simp; omega
  have t2 : ((16 : Int) < (k : Int)) = True := by simp; omega
  go_enter Try.func19, Try.ntmps19
  go_wp2_with fail
  go_ret
  exact ⟨rfl, rfl⟩
end Go.Proofs.Ytoabhbmhjelplaa
