/-
  The document's 'right' with bad columns by contracts. Conditions: columns read as rows of bytes, the bad ones as a row of numbers.
-/
import Derived.Test.YtoabhbmhjelplaaParDocEvenM
import Derived.Test.YtoabhbmhjelplaaQuietTailM
namespace Go.Proofs.Ytoabhbmhjelplaa
open Go Go.RowKit
set_option maxRecDepth 100000
set_option linter.unusedVariables false

set_option maxHeartbeats 1600000 in
theorem rightB_few (k cd m c : Nat) (A A2 : Option Addr) (w : World) (hk : ¬ (4 ≤ k ∧ k ≤ 16)) :
    Calls Try.prog 12 #[.slice A k cd, .slice A2 m c] w fun e w' => e = .returned (.int .i64 1) ∧ w = w' := by
  by_cases h1 : k < 4
  · have t1 : ((k : Int) < 4) = True := by simp; omega
    go_enter Try.func12, Try.ntmps12
    go_wp2_with fail
    go_ret
    exact ⟨rfl, rfl⟩
  have t1 : ((k : Int) < 4) = False := by simp; omega
  have t2 : ((16 : Int) < (k : Int)) = True := by simp; omega
  go_enter Try.func12, Try.ntmps12
  go_wp2_with fail
  go_ret
  exact ⟨rfl, rfl⟩

set_option maxHeartbeats 3200000 in
theorem rightB_no (k cd B m c : Nat) (A A2 : Option Addr) (b : Nat → Int) (w : World) (hz : RdZ w B A2 m b) (hm : m ≤ maxLen) (h : ¬ Rise m b (k : Int)) (hk : 4 ≤ k ∧ k ≤ 16) :
    Calls Try.prog 12 #[.slice A k cd, .slice A2 m c] w fun e w' => e = .returned (.int .i64 1) ∧ ∃ n, w' = w.drewN n := by
  obtain ⟨i0, hi0, hbad, hgood⟩ := least_p (p := fun i => prv b i < b i ∧ b i < (k : Int)) h
  have HZ := Lib.hid hz
  have hri : Rise i0 b (k : Int) := hgood
  have HRI := Lib.hid hri
  have HBAD := Lib.hid hbad
  unfold maxLen at hm
  obtain ⟨hk4, hk16⟩ := hk
  have t1 : ((k : Int) < 4) = False := by simp; omega
  have t2 : ((16 : Int) < (k : Int)) = False := by simp; omega
  clear hz h hgood hbad hri
  go_enter Try.func12, Try.ntmps12
  go_wp2_with fail
  clear t1 t2
  go_loopw [5] (fun x wr => ∃ i d : Nat, x = .int .i64 i ∧ i ≤ i0 ∧ Hid (wr = w.drewN d)) (fun x _ => i0 - (intOf x).toNat)
  case atStart => exact ⟨0, 0, rfl, by omega, Lib.hid rfl⟩
  case round =>
    obtain ⟨i, d, rfl, hi, hw⟩ := hrel
    obtain rfl := hw.out
    obtain ⟨bb, ob, rfl, _, hc⟩ := HZ.out i (by omega)
    have i2 : (i : Int) < (m : Int) := by omega
    by_cases hlt : i < i0
    · have h0 := HRI.out.ge i hlt
      have h2 := (HRI.out i hlt).2
      have t1 : (b i < 0) = False := by simp; omega
      have t2 : ((k : Int) ≤ b i) = False := by simp; omega
      cases i with
      | zero =>
        rw [Nat.add_zero] at hc
        clear h0 h2
        generalize b 0 = z at *
        go_wp2_with fail
        go_quiet (fail)
        go_wp2_with fail
        go_roundw
        case rel => exact ⟨1, d + nq, by go_num, by omega, Lib.hid (by simp [World.drewN_drewN])⟩
        case measure => simp [intOf]; omega
      | succ j =>
        have h3 := HRI.out.lt (show j < j + 1 by omega) hlt
        obtain ⟨b', o', e1, _, hc1⟩ := HZ.out j (by omega)
        injection e1 with e1
        injection e1 with e1 e2
        subst e1; subst e2
        have t3 : (b (j + 1) ≤ b j) = False := by simp; omega
        have e3 : IntKind.i64.wrap (((j + 1 : Nat) : Int) - 1) = (j : Int) := by rw [IntKind.wrap_i64]; omega
        clear h0 h2 h3
        generalize b (j + 1) = z at *
        generalize b j = y at *
        go_wp2_with fail
        go_quiet (fail)
        go_wp2_with fail
        go_roundw
        case rel => exact ⟨j + 1 + 1, d + nq, by go_num, by omega, Lib.hid (by simp [World.drewN_drewN])⟩
        case measure => simp [intOf]; omega
    · obtain rfl : i = i0 := by omega
      have hb := HBAD.out
      by_cases h1 : b i < 0
      · have t1 : (b i < 0) = True := by simp; omega
        clear hb h1
        generalize b i = z at *
        go_wp2_with fail
        go_quiet (fail)
        go_wp2_with fail
        go_ret
        exact ⟨rfl, d + nq, by simp [World.drewN_drewN]⟩
      · have t1 : (b i < 0) = False := by simp; omega
        by_cases h2 : (k : Int) ≤ b i
        · have t2 : ((k : Int) ≤ b i) = True := by simp; omega
          clear hb h1 h2
          generalize b i = z at *
          go_wp2_with fail
          go_quiet (fail)
          go_wp2_with fail
          go_ret
          exact ⟨rfl, d + nq, by simp [World.drewN_drewN]⟩
        · have t2 : ((k : Int) ≤ b i) = False := by simp; omega
          cases i with
          | zero => exact absurd ⟨by unfold prv; rw [if_pos rfl]; omega, by omega⟩ hb
          | succ j =>
            have h3 : b (j + 1) ≤ b j := by
              rw [prv_succ] at hb
              omega
            obtain ⟨b', o', e1, _, hc1⟩ := HZ.out j (by omega)
            injection e1 with e1
            injection e1 with e1 e2
            subst e1; subst e2
            have t3 : (b (j + 1) ≤ b j) = True := by simp; omega
            have e3 : IntKind.i64.wrap (((j + 1 : Nat) : Int) - 1) = (j : Int) := by rw [IntKind.wrap_i64]; omega
            clear h1 h2 h3 hb
            generalize b (j + 1) = z at *
            generalize b j = y at *
            go_wp2_with fail
            go_quiet (fail)
            go_wp2_with fail
            go_ret
            exact ⟨rfl, d + nq, by simp [World.drewN_drewN]⟩

set_option maxHeartbeats 3200000 in
theorem rightB_rise (k cd B m c B2 : Nat) (A A2 : Option Addr) (ra : Nat → Option Addr) (rl rc : Nat → Nat) (x : Nat → Nat → Nat) (b : Nat → Int) (v : Int) (w : World) (hr : RdR w B A k ra rl rc x) (hz : RdZ w B2 A2 m b) (hm : m ≤ maxLen) (hri : Rise m b (k : Int)) (hk : 4 ≤ k ∧ k ≤ 16)
    (he : ∀ w, RdR w B A k ra rl rc x → RdZ w B2 A2 m b → Calls Try.prog 13 #[.slice A k cd, .slice A2 m c] w fun e w' => e = .returned (.int .i64 v) ∧ w = w') :
    Calls Try.prog 12 #[.slice A k cd, .slice A2 m c] w fun e w' => e = .returned (.int .i64 (if v < 0 then 1 else if 3 < m then 4 else 0)) ∧ ∃ n, w' = w.drewN n := by
  have HR := Lib.hid hr
  have HZ := Lib.hid hz
  have HRI := Lib.hid hri
  have HE := Lib.hid he
  unfold maxLen at hm
  obtain ⟨hk4, hk16⟩ := hk
  have t1 : ((k : Int) < 4) = False := by simp; omega
  have t2 : ((16 : Int) < (k : Int)) = False := by simp; omega
  clear hr hz hri he
  go_enter Try.func12, Try.ntmps12
  go_wp2_with fail
  clear t1 t2
  go_loopw [5] (fun x wr => ∃ i d : Nat, x = .int .i64 i ∧ i ≤ m ∧ Hid (wr = w.drewN d)) (fun x _ => m - (intOf x).toNat)
  case atStart => exact ⟨0, 0, rfl, by omega, Lib.hid rfl⟩
  case round =>
    obtain ⟨i, d, rfl, hi, hw⟩ := hrel
    obtain rfl := hw.out
    by_cases hlt : i < m
    · obtain ⟨bb, ob, rfl, _, hc⟩ := HZ.out i hlt
      have i2 : (i : Int) < (m : Int) := by omega
      have h0 := HRI.out.ge i hlt
      have h2 := (HRI.out i hlt).2
      have t1 : (b i < 0) = False := by simp; omega
      have t2 : ((k : Int) ≤ b i) = False := by simp; omega
      cases i with
      | zero =>
        rw [Nat.add_zero] at hc
        clear h0 h2
        generalize b 0 = z at *
        go_wp2_with fail
        go_quiet (fail)
        go_wp2_with fail
        go_roundw
        case rel => exact ⟨1, d + nq, by go_num, by omega, Lib.hid (by simp [World.drewN_drewN])⟩
        case measure => simp [intOf]; omega
      | succ j =>
        have h3 := HRI.out.lt (show j < j + 1 by omega) hlt
        obtain ⟨b', o', e1, _, hc1⟩ := HZ.out j (by omega)
        injection e1 with e1
        injection e1 with e1 e2
        subst e1; subst e2
        have t3 : (b (j + 1) ≤ b j) = False := by simp; omega
        have e3 : IntKind.i64.wrap (((j + 1 : Nat) : Int) - 1) = (j : Int) := by rw [IntKind.wrap_i64]; omega
        clear h0 h2 h3
        generalize b (j + 1) = z at *
        generalize b j = y at *
        go_wp2_with fail
        go_quiet (fail)
        go_wp2_with fail
        go_roundw
        case rel => exact ⟨j + 1 + 1, d + nq, by go_num, by omega, Lib.hid (by simp [World.drewN_drewN])⟩
        case measure => simp [intOf]; omega
    · obtain rfl : i = m := by omega
      by_cases hv : v < 0
      · have t1 : (v < 0) = True := by simp; omega
        have HV := Lib.hid hv
        clear hv
        go_wp2_with fail
        refine (HE.out (w.drewN d) HR.out HZ.out).mono ?_
        rintro e w1 ⟨rfl, rfl⟩
        go_wp2_with fail
        go_ret
        exact ⟨by first | rfl | (rw [if_pos HV.out]; rfl), d, rfl⟩
      · have t1 : (v < 0) = False := by simp; omega
        have HV := Lib.hid hv
        clear hv
        by_cases h3 : 3 < i
        · have t3 : ((3 : Int) < (i : Int)) = True := by simp; omega
          go_wp2_with fail
          refine (HE.out (w.drewN d) HR.out HZ.out).mono ?_
          rintro e w1 ⟨rfl, rfl⟩
          go_wp2_with fail
          all_goals
            go_ret
            exact ⟨by first | rfl | (rw [if_neg HV.out, if_pos h3]; rfl), d, rfl⟩
        · have t3 : ((3 : Int) < (i : Int)) = False := by simp; omega
          go_wp2_with fail
          refine (HE.out (w.drewN d) HR.out HZ.out).mono ?_
          rintro e w1 ⟨rfl, rfl⟩
          go_wp2_with fail
          all_goals
            go_ret
            exact ⟨by first | rfl | (rw [if_neg HV.out, if_neg h3]; rfl), d, rfl⟩
end Go.Proofs.Ytoabhbmhjelplaa
