/-
  'parity.rising' and 'parity.fault' with no bad column, 'bytes.Equal', 'parity.Check', each by a contract. Conditions: what is handed in reads as rows of bytes.
-/
import Derived.Test.YtoabhbmhjelplaaParMake
namespace Go.Proofs.Ytoabhbmhjelplaa
open Go Go.RowKit
set_option maxRecDepth 100000
set_option linter.unusedVariables false

set_option maxHeartbeats 400000 in
theorem rising_nil (n : Int) (w : World) : Calls Try.prog 29 #[.slice none 0 0, .int .i64 n] w fun e w' => e = .returned (.bool true) ∧ w = w' := by
  go_enter Try.func29, Try.ntmps29
  go_wp2
  go_loop [10] (fun x => x = .int .i64 ((0 : Nat) : Int)) (fun x => 0)
  case atStart => rfl
  case round =>
    obtain rfl := hrel
    go_wp2
    go_ret
    exact ⟨rfl, rfl⟩

set_option maxHeartbeats 400000 in
theorem fault_ok (k cd B : Nat) (A : Option Addr) (ra : Nat → Option Addr) (rl rc : Nat → Nat) (x : Nat → Nat → Nat) (w : World) (hr : RdR w B A k ra rl rc x) (hk : 4 ≤ k ∧ k ≤ 16) (ha : Alike k rl) :
    Calls Try.prog 19 #[.slice A k cd, .slice none 0 0] w fun e w' => e = .returned (.int .i64 0) ∧ w = w' := by
  have HA := Lib.hid ha
  have HR := Lib.hid hr
  obtain ⟨hk4, hk16⟩ := hk
  have t1 : ((k : Int) < 4) = False := by simp; omega
  have t2 : ((16 : Int) < (k : Int)) = False := by simp; omega
  have t3 : ((0 : Int) == (k : Int)) = false := by rw [beq_eq_false_iff_ne]; omega
  clear hr ha
  go_enter Try.func19, Try.ntmps19
  go_wp2_with fail
  refine (rising_nil _ _).mono ?_
  rintro e w1 ⟨rfl, rfl⟩
  go_wp2_with fail
  refine (alike_yes k cd B A ra rl rc x _ HR.out (by omega) (by omega) HA.out).mono ?_
  rintro e w1 ⟨rfl, rfl⟩
  go_wp2_with fail
  go_ret
  exact ⟨rfl, rfl⟩

set_option maxHeartbeats 400000 in
theorem fault_bad (k cd B : Nat) (A : Option Addr) (ra : Nat → Option Addr) (rl rc : Nat → Nat) (x : Nat → Nat → Nat) (w : World) (hr : RdR w B A k ra rl rc x) (hn : ¬ (4 ≤ k ∧ k ≤ 16 ∧ Alike k rl)) :
    Calls Try.prog 19 #[.slice A k cd, .slice none 0 0] w fun e w' => e = .returned (.int .i64 1) ∧ w = w' := by
  have HN := Lib.hid hn
  have HR := Lib.hid hr
  clear hr hn
  by_cases h1 : k < 4
  · have t1 : ((k : Int) < 4) = True := by simp; omega
    go_enter Try.func19, Try.ntmps19
    go_wp2_with fail
    go_ret
    exact ⟨rfl, rfl⟩
  have t1 : ((k : Int) < 4) = False := by simp; omega
  by_cases h2 : 16 < k
  · have t2 : ((16 : Int) < (k : Int)) = True := by simp; omega
    go_enter Try.func19, Try.ntmps19
    go_wp2_with fail
    go_ret
    exact ⟨rfl, rfl⟩
  have t2 : ((16 : Int) < (k : Int)) = False := by simp; omega
  have t3 : ((0 : Int) == (k : Int)) = false := by rw [beq_eq_false_iff_ne]; omega
  go_enter Try.func19, Try.ntmps19
  go_wp2_with fail
  refine (rising_nil _ _).mono ?_
  rintro e w1 ⟨rfl, rfl⟩
  go_wp2_with fail
  refine (alike_no k cd B A ra rl rc x _ HR.out (by omega) (by omega) (fun h => HN.out ⟨by omega, by omega, h⟩)).mono ?_
  rintro e w1 ⟨rfl, rfl⟩
  go_wp2_with fail
  go_ret
  exact ⟨rfl, rfl⟩

set_option maxHeartbeats 400000 in
theorem equal_yes (n c c2 B B2 : Nat) (A A2 : Option Addr) (X Y : Nat → Nat) (w : World) (hx : RdB w B A n X) (hy : RdB w B2 A2 n Y) (he : ∀ j, j < n → X j = Y j) :
    Calls Try.prog 24 #[.slice A n c, .slice A2 n c2] w fun e w' => e = .returned (.bool true) ∧ w = w' := by
  have S1 := conv_rd (cap := c) hx
  have S2 := conv_rd (cap := c2) hy
  rw [← strB_congr he] at S2
  clear hx hy
  generalize strB n X = s at *
  go_enter Try.func24, Try.ntmps24
  go_wp2_with fail
  go_ret
  exact ⟨rfl, rfl⟩
set_option maxHeartbeats 400000 in
theorem equal_no (n c c2 B B2 : Nat) (A A2 : Option Addr) (X Y : Nat → Nat) (w : World) (hx : RdB w B A n X) (hy : RdB w B2 A2 n Y) (he : ¬ ∀ j, j < n → X j = Y j) :
    Calls Try.prog 24 #[.slice A n c, .slice A2 n c2] w fun e w' => e = .returned (.bool false) ∧ w = w' := by
  have S1 := conv_rd (cap := c) hx
  have S2 := conv_rd (cap := c2) hy
  have hne : ((strB n X).toList == (strB n Y).toList) = false := beq_eq_false_iff_ne.2 fun h => he (strB_inj (fun j hj => by obtain ⟨_, _, _, _, _, q⟩ := hx j hj; exact q) (fun j hj => by obtain ⟨_, _, _, _, _, q⟩ := hy j hj; exact q) h).2
  clear hx hy he
  generalize strB n X = s at *
  generalize strB n Y = t at *
  go_enter Try.func24, Try.ntmps24
  go_wp2_with fail
  go_ret
  exact ⟨rfl, rfl⟩

theorem least_p {k : Nat} {p : Nat → Prop} (h : ¬ ∀ i, i < k → p i) : ∃ i0, i0 < k ∧ ¬ p i0 ∧ ∀ i, i < i0 → p i := by
  induction k with
  | zero => exact absurd (fun i hi => absurd hi (by omega)) h
  | succ k ih =>
    by_cases h1 : ∀ i, i < k → p i
    · refine ⟨k, by omega, fun e => h fun i hi => ?_, h1⟩
      by_cases e2 : i = k
      · rw [e2]; exact e
      · exact h1 i (by omega)
    · obtain ⟨i0, a, b, c⟩ := ih h1
      exact ⟨i0, by omega, b, c⟩
theorem SumsAt.rdr {w0 w : World} {b n k : Nat} {x : Nat → Nat → Nat} {R : Nat → Nat} (h : SumsAt w0 w b n k 3 x R) :
    RdR w w.heap.size (some ⟨w0.heap.size, 0, none⟩) 3 (fun i => some ⟨R i, 0, none⟩) (fun _ => n) (fun _ => n) (fun i v => M.par k i x v) := by
  intro i hi
  obtain ⟨h1, h2⟩ := h.row i hi
  have hc := h.head.cell i
  rw [hdP_get hi, if_pos hi] at hc
  exact ⟨_, _, rfl, h.head.lt, by rw [Nat.zero_add]; exact hc, h2.rdb (fun v _ => M.par_lt _ _ _ _) h2.lt⟩

/-- Are the last three columns the parities of the others? -/
def Tells (m : Nat) (n : Nat) (x : Nat → Nat → Nat) (j : Nat) : Prop := ∀ v, v < n → M.par m j x v = x (m + j) v

set_option maxHeartbeats 800000 in
theorem check_yes (k m cd B : Nat) (A : Option Addr) (ra : Nat → Option Addr) (rl rc : Nat → Nat) (x : Nat → Nat → Nat) (w : World) (hr : RdR w B A k ra rl rc x) (hB : B ≤ w.heap.size) (hm : k = m + 3) (hm0 : 0 < m) (hk : k ≤ 16) (hcd : k ≤ cd) (hcm : cd ≤ maxLen) (ha : Alike k rl) (ht : ∀ j, j < 3 → Tells m (rl 0) x j) :
    Calls Try.prog 11 #[.slice A k cd] w fun e w' => e = .returned (.tuple #[.bool true, .int .i64 0]) ∧ Below w.heap.size w w' := by
  subst hm
  have HA := Lib.hid ha
  have HR := Lib.hid hr
  have hz := build_field
  have e1 : IntKind.i64.wrap (((m + 3 : Nat) : Int) - 3) = (m : Int) := by rw [IntKind.wrap_i64]; omega
  have HT := Lib.hid ht
  clear ht
  unfold maxLen at hcm
  obtain ⟨bx, ox, rfl, hbx, _⟩ := hr 0 (by omega)
  clear hr ha
  go_enter Try.func11, Try.ntmps11
  go_wp2_with fail
  refine (fault_ok (m + 3) cd B (some ⟨bx, ox, none⟩) ra rl rc x _ HR.out (by omega) HA.out).mono ?_
  rintro e w1 ⟨rfl, rfl⟩
  have hmc : m ≤ cd := by omega
  go_wp2_with fail
  have F1 : Fld (w.alloc (.cells (fcells 0 0 0) 61)) w.heap.size := .inl (Blk.new _ _ _)
  have B1 : Below w.heap.size w (w.alloc (.cells (fcells 0 0 0) 61)) := (Below.refl _ _).alloc (Nat.le_refl _) _
  have s1 : (w.alloc (.cells (fcells 0 0 0) 61)).heap.size = w.heap.size + 1 := by simp
  refine (sums_any w.heap.size (rl 0) m cd B (some ⟨bx, ox, none⟩) ra rl rc x _ F1 ((show RdR w B _ m ra rl rc x from fun i hi => HR.out i (by omega)).below B1 hB) (fun i hi => HA.out.2.2 i (by omega)) hm0 (by omega) hB HA.out.2.1 (Nat.le_trans hB B1.size)).mono ?_
  rintro e w3 ⟨rfl, R, H3⟩
  rw [s1]
  have P3 := H3.rdr
  rw [s1] at P3
  have HP := Lib.hid P3
  have HB := Lib.hid (B1.trans (H3.only.below (Nat.le_refl _) B1.size))
  have HX := Lib.hid (HR.out.below (HB.out.mono hB) (Nat.le_refl _))
  clear H3 F1 B1 P3 s1 HR hz
  generalize w.heap.size + 1 = z at *
  go_wp2_with fail
  go_loop [23] (fun u => ∃ i : Nat, i ≤ 3 ∧ u = .int .i64 i) (fun u => 3 - (intOf u).toNat)
  case atStart => exact ⟨0, by omega, rfl⟩
  case round =>
    obtain ⟨i, hi, rfl⟩ := hrel
    by_cases hlt : i < 3
    · skip
      obtain ⟨b1, o1, q1, hb1, hc1, hx1⟩ := HP.out i (by omega)
      injection q1 with q1
      injection q1 with q1 q2
      subst q1; subst q2
      obtain ⟨b2, o2, q1, hb2, hc2, hx2⟩ := HX.out (m + i) (by omega)
      injection q1 with q1
      injection q1 with q1 q2
      subst q1; subst q2
      rw [HA.out.2.2 (m + i) (by omega)] at hc2 hx2
      rw [Nat.zero_add] at hc1
      have e2 : IntKind.i64.wrap ((m : Int) + (i : Int)) = ((m + i : Nat) : Int) := by rw [IntKind.wrap_i64]; omega
      have i2 : ((m + i : Nat) : Int) < (m : Int) + 3 := by omega
      have HX1 := Lib.hid hx1
      have HX2 := Lib.hid hx2
      clear hx1 hx2 hb1 hb2
      go_wp2_with fail
      refine (equal_yes (rl 0) _ _ _ _ _ _ _ _ _ HX1.out HX2.out (fun v hv => HT.out i hlt v hv)).mono ?_
      rintro e w4 ⟨rfl, rfl⟩
      go_wp2_with fail
      go_round
      case rel => exact ⟨i + 1, by omega, by go_num⟩
      case measure => simp [intOf]; omega
    · go_wp2_with fail
      go_ret2
      exact ⟨rfl, HB.out⟩

set_option maxHeartbeats 800000 in
theorem check_no (k m cd B : Nat) (A : Option Addr) (ra : Nat → Option Addr) (rl rc : Nat → Nat) (x : Nat → Nat → Nat) (w : World) (hr : RdR w B A k ra rl rc x) (hB : B ≤ w.heap.size) (hm : k = m + 3) (hm0 : 0 < m) (hk : k ≤ 16) (hcd : k ≤ cd) (hcm : cd ≤ maxLen) (ha : Alike k rl) (ht : ¬ ∀ j, j < 3 → Tells m (rl 0) x j) :
    Calls Try.prog 11 #[.slice A k cd] w fun e w' => e = .returned (.tuple #[.bool false, .int .i64 0]) ∧ Below w.heap.size w w' := by
  subst hm
  have HA := Lib.hid ha
  have HR := Lib.hid hr
  have hz := build_field
  have e1 : IntKind.i64.wrap (((m + 3 : Nat) : Int) - 3) = (m : Int) := by rw [IntKind.wrap_i64]; omega
  obtain ⟨j0, hj0, hbad, hgood⟩ := least_p (p := fun j => Tells m (rl 0) x j) ht
  have HG := Lib.hid hgood
  have HBAD := Lib.hid hbad
  clear ht hgood hbad
  unfold maxLen at hcm
  obtain ⟨bx, ox, rfl, hbx, _⟩ := hr 0 (by omega)
  clear hr ha
  go_enter Try.func11, Try.ntmps11
  go_wp2_with fail
  refine (fault_ok (m + 3) cd B (some ⟨bx, ox, none⟩) ra rl rc x _ HR.out (by omega) HA.out).mono ?_
  rintro e w1 ⟨rfl, rfl⟩
  have hmc : m ≤ cd := by omega
  go_wp2_with fail
  have F1 : Fld (w.alloc (.cells (fcells 0 0 0) 61)) w.heap.size := .inl (Blk.new _ _ _)
  have B1 : Below w.heap.size w (w.alloc (.cells (fcells 0 0 0) 61)) := (Below.refl _ _).alloc (Nat.le_refl _) _
  have s1 : (w.alloc (.cells (fcells 0 0 0) 61)).heap.size = w.heap.size + 1 := by simp
  refine (sums_any w.heap.size (rl 0) m cd B (some ⟨bx, ox, none⟩) ra rl rc x _ F1 ((show RdR w B _ m ra rl rc x from fun i hi => HR.out i (by omega)).below B1 hB) (fun i hi => HA.out.2.2 i (by omega)) hm0 (by omega) hB HA.out.2.1 (Nat.le_trans hB B1.size)).mono ?_
  rintro e w3 ⟨rfl, R, H3⟩
  rw [s1]
  have P3 := H3.rdr
  rw [s1] at P3
  have HP := Lib.hid P3
  have HB := Lib.hid (B1.trans (H3.only.below (Nat.le_refl _) B1.size))
  have HX := Lib.hid (HR.out.below (HB.out.mono hB) (Nat.le_refl _))
  clear H3 F1 B1 P3 s1 HR hz
  generalize w.heap.size + 1 = z at *
  go_wp2_with fail
  go_loop [23] (fun u => ∃ i : Nat, i ≤ j0 ∧ u = .int .i64 i) (fun u => 3 - (intOf u).toNat)
  case atStart => exact ⟨0, by omega, rfl⟩
  case round =>
    obtain ⟨i, hi, rfl⟩ := hrel
    by_cases hlt : i < j0
    · skip
      obtain ⟨b1, o1, q1, hb1, hc1, hx1⟩ := HP.out i (by omega)
      injection q1 with q1
      injection q1 with q1 q2
      subst q1; subst q2
      obtain ⟨b2, o2, q1, hb2, hc2, hx2⟩ := HX.out (m + i) (by omega)
      injection q1 with q1
      injection q1 with q1 q2
      subst q1; subst q2
      rw [HA.out.2.2 (m + i) (by omega)] at hc2 hx2
      rw [Nat.zero_add] at hc1
      have e2 : IntKind.i64.wrap ((m : Int) + (i : Int)) = ((m + i : Nat) : Int) := by rw [IntKind.wrap_i64]; omega
      have i2 : ((m + i : Nat) : Int) < (m : Int) + 3 := by omega
      have HX1 := Lib.hid hx1
      have HX2 := Lib.hid hx2
      clear hx1 hx2 hb1 hb2
      go_wp2_with fail
      refine (equal_yes (rl 0) _ _ _ _ _ _ _ _ _ HX1.out HX2.out (fun v hv => HG.out i hlt v hv)).mono ?_
      rintro e w4 ⟨rfl, rfl⟩
      go_wp2_with fail
      go_round
      case rel => exact ⟨i + 1, by omega, by go_num⟩
      case measure => simp [intOf]; omega
    · obtain rfl : i = j0 := by omega
      obtain ⟨b1, o1, q1, hb1, hc1, hx1⟩ := HP.out i (by omega)
      injection q1 with q1
      injection q1 with q1 q2
      subst q1; subst q2
      obtain ⟨b2, o2, q1, hb2, hc2, hx2⟩ := HX.out (m + i) (by omega)
      injection q1 with q1
      injection q1 with q1 q2
      subst q1; subst q2
      rw [HA.out.2.2 (m + i) (by omega)] at hc2 hx2
      rw [Nat.zero_add] at hc1
      have e2 : IntKind.i64.wrap ((m : Int) + (i : Int)) = ((m + i : Nat) : Int) := by rw [IntKind.wrap_i64]; omega
      have i2 : ((m + i : Nat) : Int) < (m : Int) + 3 := by omega
      have HX1 := Lib.hid hx1
      have HX2 := Lib.hid hx2
      clear hx1 hx2 hb1 hb2
      go_wp2_with fail
      refine (equal_no (rl 0) _ _ _ _ _ _ _ _ _ HX1.out HX2.out HBAD.out).mono ?_
      rintro e w4 ⟨rfl, rfl⟩
      go_wp2_with fail
      go_ret2
      exact ⟨rfl, HB.out⟩

set_option maxHeartbeats 400000 in
theorem check_bad (k cd B : Nat) (A : Option Addr) (ra : Nat → Option Addr) (rl rc : Nat → Nat) (x : Nat → Nat → Nat) (w : World) (hr : RdR w B A k ra rl rc x) (hn : ¬ (4 ≤ k ∧ k ≤ 16 ∧ Alike k rl)) :
    Calls Try.prog 11 #[.slice A k cd] w fun e w' => e = .returned (.tuple #[.bool false, .int .i64 1]) ∧ w = w' := by
  have HR := Lib.hid hr
  have HN := Lib.hid hn
  clear hr hn
  go_enter Try.func11, Try.ntmps11
  go_wp2_with fail
  refine (fault_bad k cd B A ra rl rc x _ HR.out HN.out).mono ?_
  rintro e w1 ⟨rfl, rfl⟩
  go_wp2_with fail
  go_ret2
  exact ⟨rfl, rfl⟩
end Go.Proofs.Ytoabhbmhjelplaa
