/-
  'parity.length' and 'parity.alike' with no bad column, and 'parity.Make', each by a contract. Conditions: what is handed in reads as rows of bytes.
-/
import Derived.Test.YtoabhbmhjelplaaParSums
namespace Go.Proofs.Ytoabhbmhjelplaa
open Go.RowKit
set_option maxRecDepth 100000
set_option linter.unusedVariables false

set_option maxHeartbeats 400000 in
theorem length_nil (k cd B : Nat) (A : Option Addr) (ra : Nat → Option Addr) (rl rc : Nat → Nat) (x : Nat → Nat → Nat) (w : World) (hr : RdR w B A k ra rl rc x) (hk0 : 0 < k) :
    Calls Try.prog 30 #[.slice A k cd, .slice none 0 0] w fun e w' => e = .returned (.int .i64 (rl 0 : Nat)) ∧ w = w' := by
  obtain ⟨bx, ox, rfl, hbx, hcx, _⟩ := hr 0 hk0
  rw [Nat.add_zero] at hcx
  clear hr
  go_enter Try.func30, Try.ntmps30
  go_wp2
  go_loop [9] (fun x => x = .int .i64 ((0 : Nat) : Int)) (fun x => k - (intOf x).toNat)
  case atStart => rfl
  case round =>
    obtain rfl := hrel
    generalize ra 0 = r1 at *
    generalize rc 0 = c1 at *
    generalize hn : rl 0 = n at *
    have HN := Lib.hid hn
    clear hn
    go_wp2
    go_ret
    exact ⟨by rw [HN.out]; rfl, rfl⟩

/-- Have they one length that a column may have? -/
def Alike (k : Nat) (rl : Nat → Nat) : Prop := 1 ≤ rl 0 ∧ rl 0 ≤ 4096 ∧ ∀ i, i < k → rl i = rl 0

set_option maxHeartbeats 400000 in
theorem alike_yes (k cd B : Nat) (A : Option Addr) (ra : Nat → Option Addr) (rl rc : Nat → Nat) (x : Nat → Nat → Nat) (w : World) (hr : RdR w B A k ra rl rc x) (hk0 : 0 < k) (hk : k ≤ 16) (ha : Alike k rl) :
    Calls Try.prog 22 #[.slice A k cd, .slice none 0 0] w fun e w' => e = .returned (.bool true) ∧ w = w' := by
  obtain ⟨h1, h2, h3⟩ := ha
  have HA := Lib.hid h3
  have HR := Lib.hid hr
  have t1 : ((rl 0 : Int) < 1) = False := by simp; omega
  have t2 : ((4096 : Int) < (rl 0 : Int)) = False := by simp; omega
  clear h3 hr
  go_enter Try.func22, Try.ntmps22
  go_wp2_with fail
  refine (length_nil k cd B A ra rl rc x _ HR.out hk0).mono ?_
  rintro e w1 ⟨rfl, rfl⟩
  generalize hn : rl 0 = n at *
  have HN := Lib.hid hn
  clear hn
  go_wp2_with fail
  go_loop [1, 19] (fun y x => ∃ i : Nat, i ≤ k ∧ y = .slice none 0 0 ∧ x = .int .i64 i) (fun y x => k - (intOf x).toNat)
  case atStart => exact ⟨0, by omega, rfl, rfl⟩
  case round =>
    obtain ⟨i, hi, rfl, rfl⟩ := hrel
    by_cases hlt : i < k
    · obtain ⟨bx, ox, rfl, hbx, hcx, _⟩ := HR.out i hlt
      rw [HA.out i hlt] at hcx
      generalize ra i = r1 at *
      generalize rc i = c1 at *
      clear hbx
      go_wp2_with fail
      go_round
      case rel => exact ⟨i + 1, by omega, rfl, by go_num⟩
      case measure => simp [intOf]; omega
    · obtain rfl : i = k := by omega
      go_wp2_with fail
      go_ret
      exact ⟨rfl, rfl⟩

theorem least_other {k n : Nat} {rl : Nat → Nat} (h : ¬ ∀ i, i < k → rl i = n) : ∃ i0, i0 < k ∧ rl i0 ≠ n ∧ ∀ i, i < i0 → rl i = n := by
  induction k with
  | zero => exact absurd (fun i hi => absurd hi (by omega)) h
  | succ k ih =>
    by_cases h1 : ∀ i, i < k → rl i = n
    · refine ⟨k, by omega, fun e => h fun i hi => ?_, h1⟩
      by_cases e2 : i = k
      · rw [e2, e]
      · exact h1 i (by omega)
    · obtain ⟨i0, a, b, c⟩ := ih h1
      exact ⟨i0, by omega, b, c⟩

set_option maxHeartbeats 400000 in
theorem alike_no (k cd B : Nat) (A : Option Addr) (ra : Nat → Option Addr) (rl rc : Nat → Nat) (x : Nat → Nat → Nat) (w : World) (hr : RdR w B A k ra rl rc x) (hk0 : 0 < k) (hk : k ≤ 16) (ha : ¬ Alike k rl) :
    Calls Try.prog 22 #[.slice A k cd, .slice none 0 0] w fun e w' => e = .returned (.bool false) ∧ w = w' := by
  have HR := Lib.hid hr
  have HN := Lib.hid ha
  clear hr ha
  by_cases h1 : rl 0 < 1
  · have t1 : ((rl 0 : Int) < 1) = True := by simp; omega
    go_enter Try.func22, Try.ntmps22
    go_wp2_with fail
    refine (length_nil k cd B A ra rl rc x _ HR.out hk0).mono ?_
    rintro e w1 ⟨rfl, rfl⟩
    go_wp2_with fail
    go_ret
    exact ⟨rfl, rfl⟩
  have t1 : ((rl 0 : Int) < 1) = False := by simp; omega
  by_cases h2 : 4096 < rl 0
  · have t2 : ((4096 : Int) < (rl 0 : Int)) = True := by simp; omega
    go_enter Try.func22, Try.ntmps22
    go_wp2_with fail
    refine (length_nil k cd B A ra rl rc x _ HR.out hk0).mono ?_
    rintro e w1 ⟨rfl, rfl⟩
    go_wp2_with fail
    go_ret
    exact ⟨rfl, rfl⟩
  have t2 : ((4096 : Int) < (rl 0 : Int)) = False := by simp; omega
  obtain ⟨i0, hi0, hbad, hall⟩ := least_other (k := k) (n := rl 0) (rl := rl) (fun h => HN.out ⟨by omega, by omega, h⟩)
  have HA := Lib.hid hall
  have HB := Lib.hid hbad
  clear hall hbad HN
  go_enter Try.func22, Try.ntmps22
  go_wp2_with fail
  refine (length_nil k cd B A ra rl rc x _ HR.out hk0).mono ?_
  rintro e w1 ⟨rfl, rfl⟩
  generalize hn : rl 0 = n at *
  clear hn
  go_wp2_with fail
  go_loop [1, 19] (fun y x => ∃ i : Nat, i ≤ i0 ∧ y = .slice none 0 0 ∧ x = .int .i64 i) (fun y x => k - (intOf x).toNat)
  case atStart => exact ⟨0, by omega, rfl, rfl⟩
  case round =>
    obtain ⟨i, hi, rfl, rfl⟩ := hrel
    obtain ⟨bx, ox, rfl, hbx, hcx, _⟩ := HR.out i (by omega)
    clear hbx
    by_cases hlt : i < i0
    · rw [HA.out i hlt] at hcx
      generalize ra i = r1 at *
      generalize rc i = c1 at *
      go_wp2_with fail
      go_round
      case rel => exact ⟨i + 1, by omega, rfl, by go_num⟩
      case measure => simp [intOf]; omega
    · obtain rfl : i = i0 := by omega
      have hne : (((rl i : Nat) : Int) != (n : Int)) = true := by rw [bne_iff_ne]; have := HB.out; omega
      generalize ra i = r1 at *
      generalize rc i = c1 at *
      generalize rl i = r3 at *
      go_wp2_with fail
      go_ret
      exact ⟨rfl, rfl⟩

/-- What 'Make' answers with. -/
def IsPar (w : World) (v : Value) (n k : Nat) (x : Nat → Nat → Nat) : Prop := ∃ h, ∃ R : Nat → Nat, v = .slice (some ⟨h, 0, none⟩) 3 3 ∧ RdR w w.heap.size (some ⟨h, 0, none⟩) 3 (fun i => some ⟨R i, 0, none⟩) (fun _ => n) (fun _ => n) (fun i v => M.par k i x v)

set_option maxHeartbeats 800000 in
theorem make_yes (k cd B : Nat) (A : Option Addr) (ra : Nat → Option Addr) (rl rc : Nat → Nat) (x : Nat → Nat → Nat) (w : World) (hr : RdR w B A k ra rl rc x) (hB : B ≤ w.heap.size) (hk0 : 0 < k) (hk : k ≤ 13) (ha : Alike k rl) :
    Calls Try.prog 10 #[.slice A k cd] w fun e w' => ∃ v, e = .returned (.tuple #[v, .int .i64 0]) ∧ IsPar w' v (rl 0) k x ∧ Below w.heap.size w w' := by
  have HA := Lib.hid ha
  have HR := Lib.hid hr
  have hz := build_field
  have t1 : ((k : Int) < 1) = False := by simp; omega
  have t2 : ((13 : Int) < (k : Int)) = False := by simp; omega
  clear hr ha
  go_enter Try.func10, Try.ntmps10
  go_wp2_with fail
  refine (alike_yes k cd B A ra rl rc x _ HR.out hk0 (by omega) HA.out).mono ?_
  rintro e w1 ⟨rfl, rfl⟩
  go_wp2_with fail
  have F1 : Fld (w.alloc (.cells (fcells 0 0 0) 61)) w.heap.size := .inl (Blk.new _ _ _)
  have B1 : Below w.heap.size w (w.alloc (.cells (fcells 0 0 0) 61)) := (Below.refl _ _).alloc (Nat.le_refl _) _
  refine (sums_any w.heap.size (rl 0) k cd B A ra rl rc x _ F1 (HR.out.below B1 hB) HA.out.2.2 hk0 (by omega) hB HA.out.2.1 (Nat.le_trans hB B1.size)).mono ?_
  rintro e w3 ⟨rfl, R, H3⟩
  have HS := Lib.hid H3
  have HB := Lib.hid (B1.trans (H3.only.below (Nat.le_refl _) B1.size))
  clear H3 F1 B1
  go_wp2_with fail
  go_ret2
  refine ⟨_, rfl, ⟨_, R, rfl, ?_⟩, HB.out⟩
  intro i hi
  obtain ⟨h1, h2⟩ := HS.out.row i hi
  have hl := HS.out.head.lt
  have hc := HS.out.head.cell i
  rw [show (w.alloc (.cells (fcells 0 0 0) 61)).heap.size = w.heap.size + 1 by simp] at hl hc
  rw [hdP_get hi, if_pos hi] at hc
  refine ⟨_, _, rfl, hl, ?_, ?_⟩
  · rw [Nat.zero_add]; exact hc
  · exact h2.rdb (fun v _ => M.par_lt _ _ _ _) h2.lt

set_option maxHeartbeats 800000 in
theorem make_no (k cd B : Nat) (A : Option Addr) (ra : Nat → Option Addr) (rl rc : Nat → Nat) (x : Nat → Nat → Nat) (w : World) (hr : RdR w B A k ra rl rc x) (hn : ¬ (0 < k ∧ k ≤ 13 ∧ Alike k rl)) :
    Calls Try.prog 10 #[.slice A k cd] w fun e w' => e = .returned (.tuple #[.slice none 0 0, .int .i64 1]) ∧ w = w' := by
  have HR := Lib.hid hr
  have HN := Lib.hid hn
  clear hr hn
  by_cases h1 : k < 1
  · have t1 : ((k : Int) < 1) = True := by simp; omega
    go_enter Try.func10, Try.ntmps10
    go_wp2_with fail
    go_ret2
    exact ⟨rfl, rfl⟩
  have t1 : ((k : Int) < 1) = False := by simp; omega
  by_cases h2 : 13 < k
  · have t2 : ((13 : Int) < (k : Int)) = True := by simp; omega
    go_enter Try.func10, Try.ntmps10
    go_wp2_with fail
    go_ret2
    exact ⟨rfl, rfl⟩
  have t2 : ((13 : Int) < (k : Int)) = False := by simp; omega
  go_enter Try.func10, Try.ntmps10
  go_wp2_with fail
  refine (alike_no k cd B A ra rl rc x _ HR.out (by omega) (by omega) (fun h => HN.out ⟨by omega, by omega, h⟩)).mono ?_
  rintro e w1 ⟨rfl, rfl⟩
  go_wp2_with fail
  go_ret2
  exact ⟨rfl, rfl⟩
end Go.Proofs.Ytoabhbmhjelplaa
