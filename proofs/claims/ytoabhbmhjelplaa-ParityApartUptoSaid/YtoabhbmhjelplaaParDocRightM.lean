/-
  The document's 'Has' by a contract; the first column that isn't bad. Conditions: the bad ones read as a row of numbers.
-/
import Derived.Test.YtoabhbmhjelplaaParityBoundsWalkM
import Derived.Test.YtoabhbmhjelplaaParFault
import Derived.Test.YtoabhbmhjelplaaParAidM
import Derived.Test.YtoabhbmhjelplaaQuietTailM
namespace Go.Proofs.Ytoabhbmhjelplaa
open Go Go.RowKit
set_option maxRecDepth 100000
set_option linter.unusedVariables false

set_option maxHeartbeats 800000 in
theorem has_any (m c B i : Nat) (A : Option Addr) (b : Nat → Int) (w : World) (hz : RdZ w B A m b) (hm : m ≤ maxLen) :
    Calls Try.prog 14 #[.slice A m c, .int .i64 (i : Int)] w fun e w' => e = .returned (.bool (isB m b i)) ∧ w = w' := by
  have HZ := Lib.hid hz
  unfold maxLen at hm
  clear hz
  go_enter Try.func14, Try.ntmps14
  go_wp2_with fail
  go_loop [5] (fun x => ∃ j : Nat, j ≤ m ∧ x = .int .i64 j ∧ Hid (∀ t, t < j → b t ≠ (i : Int))) (fun x => m - (intOf x).toNat)
  case atStart => exact ⟨0, by omega, rfl, Lib.hid fun t ht => absurd ht (by omega)⟩
  case round =>
    obtain ⟨j, hj, rfl, HP⟩ := hrel
    by_cases hlt : j < m
    · obtain ⟨bb, oo, rfl, hbB, hc⟩ := HZ.out j hlt
      clear hbB
      by_cases he : b j = (i : Int)
      · rw [he] at hc
        have HE := Lib.hid he
        clear he
        go_wp2_with fail
        go_ret
        exact ⟨by rw [isB_true hlt HE.out]; rfl, rfl⟩
      · have t1 : (b j == (i : Int)) = false := by simpa using he
        have HE := Lib.hid he
        obtain ⟨z, hze⟩ : ∃ z, z = b j := ⟨_, rfl⟩
        rw [← hze] at hc t1
        clear hze he
        go_wp2_with fail
        go_round
        case rel => exact ⟨j + 1, by omega, by go_num, Lib.hid fun t ht => by
          by_cases h : t = j
          · rw [h]; exact HE.out
          · exact HP.out t (by omega)⟩
        case measure => simp [intOf]; omega
    · obtain rfl : j = m := by omega
      go_wp2_with fail
      go_ret
      exact ⟨by rw [isB_false HP.out]; rfl, rfl⟩

theorem first_lt {m f i : Nat} {b : Nat → Int} (h : First m b f) (hi : i < f) : isB m b i = true := isB_true (j := i) (by have := h.1; omega) (h.2.1 i hi)
theorem first_at {m f : Nat} {b : Nat → Int} {N : Int} (h : First m b f) (hr : Rise m b N) : isB m b f = false := isB_false fun j hj e => by
  rcases Nat.lt_trichotomy j f with h1 | h1 | h1
  · have := h.2.1 j h1; omega
  · subst h1; exact h.2.2 hj e
  · have h2 := hr.lt h1 hj
    have h3 := hr.ge f (by omega)
    omega

end Go.Proofs.Ytoabhbmhjelplaa
namespace Go.Proofs.Ytoabhbmhjelplaa
open Go Go.RowKit
set_option maxRecDepth 100000
set_option linter.unusedVariables false

set_option maxHeartbeats 6400000 in
theorem even_to (k cd B m c B2 f i0 : Nat) (A A2 : Option Addr) (ra : Nat → Option Addr) (rl rc : Nat → Nat) (x : Nat → Nat → Nat) (b : Nat → Int) (w : World) (hr : RdR w B A k ra rl rc x) (hz : RdZ w B2 A2 m b) (hm : m ≤ maxLen) (hri : Rise m b (k : Int)) (hf : First m b f) (hk0 : 0 < k) (hk : k ≤ 16)
    (hgood : ∀ i, i < i0 → isB m b i = true ∨ rl i = rl f) (hend : i0 = k ∨ (f < i0 ∧ i0 < k ∧ isB m b i0 = false ∧ rl i0 ≠ rl f)) :
    Calls Try.prog 13 #[.slice A k cd, .slice A2 m c] w fun e w' => e = .returned (.int .i64 (if i0 = k ∧ f < k ∧ 1 ≤ rl f ∧ rl f ≤ 4096 then ((rl f : Nat) : Int) else -1)) ∧ w = w' := by
  have HR := Lib.hid hr
  have HZ := Lib.hid hz
  have HM := Lib.hid hm
  have HG := Lib.hid hgood
  have HEND := Lib.hid hend
  have HF := Lib.hid hf
  have HFA : Hid (isB m b f = false) := Lib.hid (first_at hf hri)
  have hik : i0 ≤ k := by rcases hend with h | ⟨_, h, _⟩ <;> omega
  obtain ⟨n, hn⟩ : ∃ n, n = rl f := ⟨_, rfl⟩
  have HN := Lib.hid hn
  rw [← hn]
  clear hr hz hm hri hf hgood hend hn
  go_enter Try.func13, Try.ntmps13
  go_wp2_with fail
  go_loop [5, 6] (fun y t => ∃ i : Nat, i ≤ i0 ∧ t = .int .i64 i ∧ y = .int .i64 (if f < i then (n : Int) else -1)) (fun _ t => k - (intOf t).toNat)
  case atStart => exact ⟨0, by omega, rfl, rfl⟩
  case round =>
    obtain ⟨i, hi, rfl, rfl⟩ := hrel
    have h0n : (0 : Int) ≤ (n : Int) := by omega
    by_cases hlt : i < i0
    · have hltk : i < k := by omega
      obtain ⟨bx, ox, rfl, hbx, hcx, _⟩ := HR.out i hltk
      clear hbx
      have hla := HEND.out
      by_cases hbi : isB m b i = true
      · have HBI := Lib.hid hbi
        have hne : i ≠ f := fun e => by rw [e, HFA.out] at hbi; exact absurd hbi (by decide)
        have e1 : (if f < i + 1 then (n : Int) else -1) = if f < i then (n : Int) else -1 := by
          by_cases h : f < i
          · rw [if_pos h, if_pos (by omega)]
          · rw [if_neg h, if_neg (by omega)]
        have HE1 := Lib.hid e1
        generalize (if f < i then (n : Int) else -1) = yy at *
        clear e1 hcx hla hbi
        go_wp2_with fail
        refine (has_any m c B2 i A2 b _ HZ.out HM.out).mono ?_
        rintro e w1 ⟨rfl, rfl⟩
        rw [HBI.out]
        go_wp2_with fail
        go_round
        case rel => exact ⟨i + 1, by omega, by go_num, by rw [HE1.out]⟩
        case measure => simp [intOf]; omega
      · have HBI : Hid (isB m b i = false) := Lib.hid (by simpa using hbi)
        clear hbi
        have hrl : rl i = n := by
          rw [HN.out]
          rcases HG.out i hlt with h | h
          · rw [HBI.out] at h; cases h
          · exact h
        rw [hrl] at hcx
        clear hrl hla
        generalize ra i = r1 at *
        generalize rc i = c1 at *
        by_cases hfi : f < i
        · rw [if_pos hfi]
          go_wp2_with fail
          refine (has_any m c B2 i A2 b _ HZ.out HM.out).mono ?_
          rintro e w1 ⟨rfl, rfl⟩
          rw [HBI.out]
          go_wp2_with fail
          go_round
          case rel => exact ⟨i + 1, by omega, by go_num, by rw [if_pos (by omega)]⟩
          case measure => simp [intOf]; omega
        · rw [if_neg hfi]
          have hif : i = f := by
            by_cases h : i < f
            · have := first_lt HF.out h
              rw [HBI.out] at this
              cases this
            · omega
          have HIF := Lib.hid hif
          clear hif
          go_wp2_with fail
          refine (has_any m c B2 i A2 b _ HZ.out HM.out).mono ?_
          rintro e w1 ⟨rfl, rfl⟩
          rw [HBI.out]
          go_wp2_with fail
          go_round
          case rel => exact ⟨i + 1, by omega, by go_num, by rw [if_pos (by have := HIF.out; omega)]⟩
          case measure => simp [intOf]; omega
    · obtain rfl : i = i0 := by omega
      rcases HEND.out with hk2 | ⟨h1, h2, h3, h4⟩
      · subst hk2
        by_cases hfi : f < i
        · rw [if_pos hfi]
          by_cases h1 : n < 1
          · have t1 : ((n : Int) < 1) = True := by simp; omega
            go_wp2_with fail
            go_ret
            exact ⟨rfl, rfl⟩
          · have t1 : ((n : Int) < 1) = False := by simp; omega
            by_cases h2 : 4096 < n
            · have t2 : ((4096 : Int) < (n : Int)) = True := by simp; omega
              go_wp2_with fail
              go_ret
              exact ⟨rfl, rfl⟩
            · have t2 : ((4096 : Int) < (n : Int)) = False := by simp; omega
              go_wp2_with fail
              go_ret
              exact ⟨rfl, rfl⟩
        · rw [if_neg hfi]
          go_wp2_with fail
          go_ret
          exact ⟨rfl, rfl⟩
      · rw [if_pos h1]
        obtain ⟨bx, ox, rfl, hbx, hcx, _⟩ := HR.out i h2
        rw [← HN.out] at h4
        have hne : (((rl i : Nat) : Int) != ((n : Nat) : Int)) = true := by rw [bne_iff_ne]; omega
        have HBI := Lib.hid h3
        clear hbx h4 h3
        generalize ra i = r1 at *
        generalize rc i = c1 at *
        generalize rl i = n1 at *
        go_wp2_with fail
        refine (has_any m c B2 i A2 b _ HZ.out HM.out).mono ?_
        rintro e w1 ⟨rfl, rfl⟩
        rw [HBI.out]
        go_wp2_with fail
        go_ret
        exact ⟨rfl, rfl⟩
end Go.Proofs.Ytoabhbmhjelplaa
namespace Go.Proofs.Ytoabhbmhjelplaa
open Go Go.RowKit
set_option maxRecDepth 100000
set_option linter.unusedVariables false

set_option maxHeartbeats 1600000 in
theorem rightB_few (k cd m c : Nat) (A A2 : Option Addr) (w : World) (hk : ¬ (4 ≤ k ∧ k ≤ 16)) :
    Calls Try.prog 12 #[.slice A k cd, .slice A2 m c] w fun e w' => e = .returned (.int .i64 1) ∧ w = w' := by
  by_cases h1 : k < 4
  · have t1 : ((k : Int) < 4) = True := by simp; omega
    go_enter Try.func12, Try.ntmps12
    go_wp2_with fail
    go_ret
    exact ⟨rfl, rfl⟩
  have t1 : ((k : Int) < 4) = False := by simp; omega
  have t2 : ((16 : Int) < (k : Int)) = True := by simp; omega
  go_enter Try.func12, Try.ntmps12
  go_wp2_with fail
  go_ret
  exact ⟨rfl, rfl⟩

set_option maxHeartbeats 3200000 in
theorem rightB_no (k cd B m c : Nat) (A A2 : Option Addr) (b : Nat → Int) (w : World) (hz : RdZ w B A2 m b) (hm : m ≤ maxLen) (h : ¬ Rise m b (k : Int)) (hk : 4 ≤ k ∧ k ≤ 16) :
    Calls Try.prog 12 #[.slice A k cd, .slice A2 m c] w fun e w' => e = .returned (.int .i64 1) ∧ ∃ n, w' = w.drewN n := by
  obtain ⟨i0, hi0, hbad, hgood⟩ := least_p (p := fun i => prv b i < b i ∧ b i < (k : Int)) h
  have HZ := Lib.hid hz
  have hri : Rise i0 b (k : Int) := hgood
  have HRI := Lib.hid hri
  have HBAD := Lib.hid hbad
  unfold maxLen at hm
  obtain ⟨hk4, hk16⟩ := hk
  have t1 : ((k : Int) < 4) = False := by simp; omega
  have t2 : ((16 : Int) < (k : Int)) = False := by simp; omega
  clear hz h hgood hbad hri
  go_enter Try.func12, Try.ntmps12
  go_wp2_with fail
  clear t1 t2
  go_loopw [5] (fun x wr => ∃ i d : Nat, x = .int .i64 i ∧ i ≤ i0 ∧ Hid (wr = w.drewN d)) (fun x _ => i0 - (intOf x).toNat)
  case atStart => exact ⟨0, 0, rfl, by omega, Lib.hid rfl⟩
  case round =>
    obtain ⟨i, d, rfl, hi, hw⟩ := hrel
    obtain rfl := hw.out
    obtain ⟨bb, ob, rfl, _, hc⟩ := HZ.out i (by omega)
    have i2 : (i : Int) < (m : Int) := by omega
    by_cases hlt : i < i0
    · have h0 := HRI.out.ge i hlt
      have h2 := (HRI.out i hlt).2
      have t1 : (b i < 0) = False := by simp; omega
      have t2 : ((k : Int) ≤ b i) = False := by simp; omega
      cases i with
      | zero =>
        rw [Nat.add_zero] at hc
        clear h0 h2
        generalize b 0 = z at *
        go_wp2_with fail
        go_quiet (fail)
        go_wp2_with fail
        go_roundw
        case rel => exact ⟨1, d + nq, by go_num, by omega, Lib.hid (by simp [World.drewN_drewN])⟩
        case measure => simp [intOf]; omega
      | succ j =>
        have h3 := HRI.out.lt (show j < j + 1 by omega) hlt
        obtain ⟨b', o', e1, _, hc1⟩ := HZ.out j (by omega)
        injection e1 with e1
        injection e1 with e1 e2
        subst e1; subst e2
        have t3 : (b (j + 1) ≤ b j) = False := by simp; omega
        have e3 : IntKind.i64.wrap (((j + 1 : Nat) : Int) - 1) = (j : Int) := by rw [IntKind.wrap_i64]; omega
        clear h0 h2 h3
        generalize b (j + 1) = z at *
        generalize b j = y at *
        go_wp2_with fail
        go_quiet (fail)
        go_wp2_with fail
        go_roundw
        case rel => exact ⟨j + 1 + 1, d + nq, by go_num, by omega, Lib.hid (by simp [World.drewN_drewN])⟩
        case measure => simp [intOf]; omega
    · obtain rfl : i = i0 := by omega
      have hb := HBAD.out
      by_cases h1 : b i < 0
      · have t1 : (b i < 0) = True := by simp; omega
        clear hb h1
        generalize b i = z at *
        go_wp2_with fail
        go_quiet (fail)
        go_wp2_with fail
        go_ret
        exact ⟨rfl, d + nq, by simp [World.drewN_drewN]⟩
      · have t1 : (b i < 0) = False := by simp; omega
        by_cases h2 : (k : Int) ≤ b i
        · have t2 : ((k : Int) ≤ b i) = True := by simp; omega
          clear hb h1 h2
          generalize b i = z at *
          go_wp2_with fail
          go_quiet (fail)
          go_wp2_with fail
          go_ret
          exact ⟨rfl, d + nq, by simp [World.drewN_drewN]⟩
        · have t2 : ((k : Int) ≤ b i) = False := by simp; omega
          cases i with
          | zero => exact absurd ⟨by unfold prv; rw [if_pos rfl]; omega, by omega⟩ hb
          | succ j =>
            have h3 : b (j + 1) ≤ b j := by
              rw [prv_succ] at hb
              omega
            obtain ⟨b', o', e1, _, hc1⟩ := HZ.out j (by omega)
            injection e1 with e1
            injection e1 with e1 e2
            subst e1; subst e2
            have t3 : (b (j + 1) ≤ b j) = True := by simp; omega
            have e3 : IntKind.i64.wrap (((j + 1 : Nat) : Int) - 1) = (j : Int) := by rw [IntKind.wrap_i64]; omega
            clear h1 h2 h3 hb
            generalize b (j + 1) = z at *
            generalize b j = y at *
            go_wp2_with fail
            go_quiet (fail)
            go_wp2_with fail
            go_ret
            exact ⟨rfl, d + nq, by simp [World.drewN_drewN]⟩

set_option maxHeartbeats 3200000 in
theorem rightB_rise (k cd B m c B2 : Nat) (A A2 : Option Addr) (ra : Nat → Option Addr) (rl rc : Nat → Nat) (x : Nat → Nat → Nat) (b : Nat → Int) (v : Int) (w : World) (hr : RdR w B A k ra rl rc x) (hz : RdZ w B2 A2 m b) (hm : m ≤ maxLen) (hri : Rise m b (k : Int)) (hk : 4 ≤ k ∧ k ≤ 16)
    (he : ∀ w, RdR w B A k ra rl rc x → RdZ w B2 A2 m b → Calls Try.prog 13 #[.slice A k cd, .slice A2 m c] w fun e w' => e = .returned (.int .i64 v) ∧ w = w') :
    Calls Try.prog 12 #[.slice A k cd, .slice A2 m c] w fun e w' => e = .returned (.int .i64 (if v < 0 then 1 else if 3 < m then 4 else 0)) ∧ ∃ n, w' = w.drewN n := by
  have HR := Lib.hid hr
  have HZ := Lib.hid hz
  have HRI := Lib.hid hri
  have HE := Lib.hid he
  unfold maxLen at hm
  obtain ⟨hk4, hk16⟩ := hk
  have t1 : ((k : Int) < 4) = False := by simp; omega
  have t2 : ((16 : Int) < (k : Int)) = False := by simp; omega
  clear hr hz hri he
  go_enter Try.func12, Try.ntmps12
  go_wp2_with fail
  clear t1 t2
  go_loopw [5] (fun x wr => ∃ i d : Nat, x = .int .i64 i ∧ i ≤ m ∧ Hid (wr = w.drewN d)) (fun x _ => m - (intOf x).toNat)
  case atStart => exact ⟨0, 0, rfl, by omega, Lib.hid rfl⟩
  case round =>
    obtain ⟨i, d, rfl, hi, hw⟩ := hrel
    obtain rfl := hw.out
    by_cases hlt : i < m
    · obtain ⟨bb, ob, rfl, _, hc⟩ := HZ.out i hlt
      have i2 : (i : Int) < (m : Int) := by omega
      have h0 := HRI.out.ge i hlt
      have h2 := (HRI.out i hlt).2
      have t1 : (b i < 0) = False := by simp; omega
      have t2 : ((k : Int) ≤ b i) = False := by simp; omega
      cases i with
      | zero =>
        rw [Nat.add_zero] at hc
        clear h0 h2
        generalize b 0 = z at *
        go_wp2_with fail
        go_quiet (fail)
        go_wp2_with fail
        go_roundw
        case rel => exact ⟨1, d + nq, by go_num, by omega, Lib.hid (by simp [World.drewN_drewN])⟩
        case measure => simp [intOf]; omega
      | succ j =>
        have h3 := HRI.out.lt (show j < j + 1 by omega) hlt
        obtain ⟨b', o', e1, _, hc1⟩ := HZ.out j (by omega)
        injection e1 with e1
        injection e1 with e1 e2
        subst e1; subst e2
        have t3 : (b (j + 1) ≤ b j) = False := by simp; omega
        have e3 : IntKind.i64.wrap (((j + 1 : Nat) : Int) - 1) = (j : Int) := by rw [IntKind.wrap_i64]; omega
        clear h0 h2 h3
        generalize b (j + 1) = z at *
        generalize b j = y at *
        go_wp2_with fail
        go_quiet (fail)
        go_wp2_with fail
        go_roundw
        case rel => exact ⟨j + 1 + 1, d + nq, by go_num, by omega, Lib.hid (by simp [World.drewN_drewN])⟩
        case measure => simp [intOf]; omega
    · obtain rfl : i = m := by omega
      by_cases hv : v < 0
      · have t1 : (v < 0) = True := by simp; omega
        have HV := Lib.hid hv
        clear hv
        go_wp2_with fail
        refine (HE.out (w.drewN d) HR.out HZ.out).mono ?_
        rintro e w1 ⟨rfl, rfl⟩
        go_wp2_with fail
        go_ret
        exact ⟨by first | rfl | (rw [if_pos HV.out]; rfl), d, rfl⟩
      · have t1 : (v < 0) = False := by simp; omega
        have HV := Lib.hid hv
        clear hv
        by_cases h3 : 3 < i
        · have t3 : ((3 : Int) < (i : Int)) = True := by simp; omega
          go_wp2_with fail
          refine (HE.out (w.drewN d) HR.out HZ.out).mono ?_
          rintro e w1 ⟨rfl, rfl⟩
          go_wp2_with fail
          all_goals
            go_ret
            exact ⟨by first | rfl | (rw [if_neg HV.out, if_pos h3]; rfl), d, rfl⟩
        · have t3 : ((3 : Int) < (i : Int)) = False := by simp; omega
          go_wp2_with fail
          refine (HE.out (w.drewN d) HR.out HZ.out).mono ?_
          rintro e w1 ⟨rfl, rfl⟩
          go_wp2_with fail
          all_goals
            go_ret
            exact ⟨by first | rfl | (rw [if_neg HV.out, if_neg h3]; rfl), d, rfl⟩
end Go.Proofs.Ytoabhbmhjelplaa
