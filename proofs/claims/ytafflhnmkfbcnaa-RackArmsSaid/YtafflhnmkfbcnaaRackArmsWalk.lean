/-
  The walk of 'RackArms': behind Arm(n) just n writes and flushes are carried out. Conditions: what the reading of the arguments gives.
-/
import Derived.Test.YtafflhnmkfbcnaaLawArgs
import Derived.Test.YtafflhnmkfbcnaaRackSays
import Derived.Test.YtafflhnmkfbcnaaRackLose
namespace Go.Proofs.Ytafflhnmkfbcnaa
open Go Go.RowKit
set_option linter.unusedVariables false
namespace rackArms

structure AInv (s : RS) (n i : Nat) : Prop where
  nd : s.nd = 3
  ns : s.ns = 4
  g0 : s.gone 0 = false
  g1 : s.gone 1 = true
  g2 : s.gone 2 = false
  cost : s.cost ≤ i
  on : i ≤ n → s.off = false ∧ s.armed = true ∧ s.left = n - i
  dead : n < i → s.off = true
theorem AInv.pow {s : RS} {n i : Nat} (h : AInv s n i) : s.pow = decide (i < n) := by
  unfold RS.pow
  by_cases h1 : i ≤ n
  · obtain ⟨e1, e2, e3⟩ := h.on h1
    rw [e1, e2, e3]
    by_cases h2 : i < n
    · have h3 : ¬ (n - i = 0) := by omega
      simp [h2, h3]
    · have h3 : n - i = 0 := by omega
      simp [h2, h3]
  · have h3 : ¬ i < n := by omega
    rw [h.dead (by omega)]
    simp [h3]
theorem AInv.spent {s : RS} {n i : Nat} (h : AInv s n i) : AInv s.spent n (i + 1) := by
  unfold RS.spent
  by_cases h1 : i ≤ n
  · obtain ⟨e1, e2, e3⟩ := h.on h1
    rw [e1, e2]
    by_cases h2 : s.left = 0
    · rw [if_neg (by simp), if_neg (by simp), if_pos h2]
      exact ⟨h.nd, h.ns, h.g0, h.g1, h.g2, by have := h.cost; show s.cost ≤ _; omega, fun h3 => by omega, fun _ => rfl⟩
    · rw [if_neg (by simp), if_neg (by simp), if_neg h2]
      exact ⟨h.nd, h.ns, h.g0, h.g1, h.g2, by have := h.cost; show s.cost ≤ _; omega, fun h3 => ⟨rfl, rfl, by show s.left - 1 = _; omega⟩, fun h3 => by omega⟩
  · have e := h.dead (by omega)
    rw [if_pos e]
    exact ⟨h.nd, h.ns, h.g0, h.g1, h.g2, by have := h.cost; omega, fun h3 => by omega, fun _ => e⟩
theorem AInv.flush {s : RS} {n i : Nat} (h : AInv s n i) : AInv (if s.pow then s.spent.flushed else s.spent) n (i + 1) := by
  have h1 := h.spent
  split
  · exact ⟨h1.nd, h1.ns, h1.g0, h1.g1, h1.g2, h1.cost, h1.on, h1.dead⟩
  · exact h1
theorem spent_cost (s : RS) : s.spent.cost = s.cost := (spent_same s).2.2.2.2.1
theorem AInv.write {s : RS} {n i : Nat} (h : AInv s n i) (d a : Nat) (X : Nat → Nat) : AInv (if s.pow then s.spent.wrote d a X else s.spent) n (i + 1) := by
  have h1 := h.spent
  split
  · exact ⟨h1.nd, h1.ns, h1.g0, h1.g1, h1.g2, by have := h.cost; have := spent_cost s; show s.spent.cost + 1 ≤ _; omega, h1.on, h1.dead⟩
  · exact h1
theorem AInv.start {n : Nat} (hn : n ≤ 30) : AInv (((RS.new 3 4).lost 1).arm (n : Int)) n 0 :=
  ⟨rfl, rfl, rfl, rfl, rfl, Nat.le_refl _, fun _ => ⟨rfl, by show decide (0 ≤ (n : Int)) = true; simp, by show (n : Int).toNat = _; omega⟩, fun h => absurd h (Nat.not_lt_zero _)⟩

theorem umod (a k : Int) (hk : 0 < k) (hk2 : k ≤ 1000000) : ∃ n : Nat, wrap64 ((IntKind.u64.wrap a).tmod k) = (n : Int) ∧ (n : Int) < k := by
  have h0 : 0 ≤ IntKind.u64.wrap a := by rw [IntKind.wrap_u64]; omega
  have h1 := Int.tmod_nonneg k h0
  have h2 := Int.tmod_lt_of_pos (IntKind.u64.wrap a) hk
  refine ⟨((IntKind.u64.wrap a).tmod k).toNat, ?_, by omega⟩
  generalize (IntKind.u64.wrap a).tmod k = y at *
  unfold wrap64
  omega
theorem write_row {B : Nat} (w : World) (r : Nat) (s S' : RS) (E D A : Int) (d a : Nat) (v : Value) (X : Nat → Nat) (h : RackAt B w r s) (hD : D = (d : Int)) (hA : A = (a : Int)) (hd : d < s.nd) (ha : a < s.ns) (hg : s.gone d = false) (hv : Row8 w v 128 X) (hX : ∀ j, j < 128 → X j < 256) (hcost : s.cost + 1 ≤ 1000000)
    (hE : E = if s.pow then 0 else 16) (hS : S' = if s.pow then s.spent.wrote d a X else s.spent) :
    Calls Try.prog 22 #[.pointer (some ⟨r, 0, none⟩), .int .i64 D, .int .i64 A, v] w fun e w' => e = .returned (.int .i64 E) ∧ RackAt B w' r S' ∧ Keep B w w' := by
  obtain ⟨g, c, cs, rfl, hb, hx⟩ := hv
  subst hD hA
  exact write_go w r s S' E d a g 0 c X _ cs h hd ha hg hb rfl (fun j hj => ⟨hx j hj, hX j hj⟩) hcost hE hS
theorem write_gone {B : Nat} (w : World) (r : Nat) (s : RS) (D A : Int) (d a : Nat) (v : Value) (X : Nat → Nat) (h : RackAt B w r s) (hD : D = (d : Int)) (hA : A = (a : Int)) (hd : d < s.nd) (ha : a < s.ns) (hg : s.gone d = true) (hv : Row8 w v 128 X) :
    Calls Try.prog 22 #[.pointer (some ⟨r, 0, none⟩), .int .i64 D, .int .i64 A, v] w fun e w' => e = .returned (.int .i64 3) ∧ RackAt B w' r s ∧ Keep B w w' := by
  obtain ⟨g, c, cs, rfl, hb, hx⟩ := hv
  subst hD hA
  have hw : s.why (d : Int) (a : Int) = 3 := by
    have e : s.isP (d : Int) (a : Int) = true := by simp [RS.isP, RS.isD]; omega
    unfold RS.why
    rw [if_pos e, Int.toNat_natCast, hg]
    rfl
  have h1 := write_why w r s (d : Int) (a : Int) (some ⟨g, 0, none⟩) c h (by rw [hw]; omega)
  rw [hw] at h1
  exact h1

set_option maxRecDepth 100000 in
set_option maxHeartbeats 1600000 in
theorem walk (a0 : Int) (a1 : Option Addr) (len1 cap1 : Nat) (x1 : Nat → Bool) (w : World) (w0 : (Lit.int .i64 a0).wf = true) (h1 : RdO w w.heap.size a1 len1 x1) (l1 : len1 ≤ cap1) (m1 : cap1 ≤ maxLen) :
    Calls Try.prog 5 #[.int .i64 a0, .slice a1 len1 cap1] w fun e w' => e = .returned (.bool true) ∧ Below w.heap.size w w' := by
  unfold maxLen at m1
  have H1 := Lib.hid h1
  obtain ⟨b0, b1⟩ := bounds_i64 w0
  clear h1 w0
  obtain ⟨n, hn, hn30⟩ := umod a0 30 (by omega) (by omega)
  go_enter Try.func5, Try.ntmps5
  go_wp2_with fail
  refine (known_any _).mono ?_
  rintro e w1 ⟨rfl, bb1⟩
  have L1 := Lib.hid bb1
  clear bb1
  go_wp2_with fail
  refine (new_any w1 3 4 (by omega) (by omega) (by omega) (by omega)).mono ?_
  rintro e w2 ⟨⟨r, rfl, h2⟩, k2⟩
  have R2 := Lib.hid h2
  have L2 := Lib.hid (L1.out.trans (k2.below.mono L1.out.size))
  have hB : Hid (w.heap.size ≤ w1.heap.size) := L1.out.size
  clear h2 k2 L1
  generalize w1.heap.size = B at *
  go_wp2_with fail
  refine (lose_ok _ r _ 1 R2.out (by decide)).mono ?_
  rintro e w3 ⟨rfl, h3, k3⟩
  have R3 := Lib.hid h3
  have L3 := Lib.hid (L2.out.trans (k3.below.mono hB.out))
  clear h3 k3 R2 L2
  go_wp2_with fail
  refine (arm_any _ r _ (n : Int) (by omega) R3.out).mono ?_
  rintro e w4 ⟨rfl, h4, k4⟩
  have R4 := Lib.hid h4
  have L4 := Lib.hid (L3.out.trans (k4.below.mono hB.out))
  have N4 : Hid (AInv (((RS.new 3 4).lost 1).arm (n : Int)) n 0) := Lib.hid (AInv.start (by omega))
  clear h4 k4 R3 L3
  generalize ((RS.new 3 4).lost 1).arm (n : Int) = s4 at *
  go_wp2_with fail
  go_loopw [7] (fun x wr => ∃ (i : Nat) (s : RS), i ≤ 60 ∧ i ≤ len1 ∧ x = .int .i64 i ∧ Hid (AInv s n i) ∧ Hid (RackAt B wr r s) ∧ Hid (Below w.heap.size w wr)) (fun x _ => 60 - (intOf x).toNat)
  case atStart => exact ⟨0, s4, by omega, by omega, rfl, N4, R4, L4⟩
  case round =>
    obtain ⟨i, s, hi60, hi, rfl, N5, R5, L5⟩ := hrel
    clear N4 R4 L4
    by_cases hgo : i < len1 ∧ i < 60
    · obtain ⟨hi0, hi4⟩ := hgo
      have t1 : decide (i < len1) = true := by simp; omega
      have t2 : decide ((i : Int) < 60) = true := by simp; omega
      obtain ⟨fb, fo, hfa, hfB, hfc⟩ := H1.out i hi0
      subst hfa
      have i1 : (0 : Int) ≤ (i : Int) := by omega
      have i2 : (i : Int) < (len1 : Int) := by omega
      have HF := Lib.hid hfc
      clear hfc
      go_wp2_with fail
      refine (bytes_calm 1 _ (by omega)).mono ?_
      rintro e w6 ⟨v6, rfl, r6, b6⟩
      have R6 := Lib.hid (R5.out.below b6)
      have V6 := Lib.hid r6
      have L6 := Lib.hid (L5.out.trans (b6.mono L5.out.size))
      clear r6 b6 R5 L5
      go_wp2_with fail
      refine (write_gone _ r s 1 0 1 0 v6 _ R6.out rfl rfl (by rw [N5.out.nd]; omega) (by rw [N5.out.ns]; omega) N5.out.g1 V6.out).mono ?_
      rintro e w7 ⟨rfl, h7, k7⟩
      have R7 := Lib.hid h7
      have L7 := Lib.hid (L6.out.trans (k7.below.mono hB.out))
      have fc := (L7.out.cell (p := ⟨fb, fo + i, none⟩) hfB).trans HF.out
      clear h7 k7 R6 L6 V6
      have hin : (decide (i < n) = true ∧ decide (n ≤ i) = false) ∨ (decide (i < n) = false ∧ decide (n ≤ i) = true) := by
        by_cases h : i < n
        · exact .inl ⟨by simp [h], by simp; omega⟩
        · exact .inr ⟨by simp; omega, by simp; omega⟩
      have PW := Lib.hid N5.out.pow
      cases hx : x1 i with
      | true =>
        rw [hx] at fc
        go_wp2_with fail
        refine (flush_any _ r s (if s.pow then s.spent.flushed else s.spent) (if decide (i < n) then 0 else 16) R7.out (by rw [PW.out]) rfl).mono ?_
        rintro e w8 ⟨rfl, h8, k8⟩
        have R8 := Lib.hid h8
        have N8 := Lib.hid N5.out.flush
        have L8 := Lib.hid (L7.out.trans (k8.below.mono hB.out))
        clear h8 k8 R7 L7 fc N5
        generalize (if s.pow then s.spent.flushed else s.spent) = s8 at *
        rcases hin with ⟨hin, t3⟩ | ⟨hin, t3⟩
        all_goals
          rw [hin]
          clear hin
          go_wp2_with fail
          go_roundw
          case rel => exact ⟨i + 1, s8, by omega, by omega, by go_num, N8, R8, L8⟩
          case measure => simp [intOf]; omega
      | false =>
        rw [hx] at fc
        go_wp2_with fail
        refine (bytes_calm (i : Int) _ (by omega)).mono ?_
        rintro e w8 ⟨v8, rfl, r8, b8⟩
        have R8 := Lib.hid (R7.out.below b8)
        have V8 := Lib.hid r8
        have L8 := Lib.hid (L7.out.trans (b8.mono L7.out.size))
        clear r8 b8 R7 L7 fc
        go_wp2_with fail
        refine (write_row _ r s (if s.pow then s.spent.wrote (i % 2 * 2) (i % 4) (bv 128 (i : Int)) else s.spent) (if decide (i < n) then 0 else 16) _ _ (i % 2 * 2) (i % 4) v8 _ R8.out (by omega) (by omega) (by rw [N5.out.nd]; omega) (by rw [N5.out.ns]; omega) ?_ V8.out (fun j _ => bv_lt 128 _ j) (by have := N5.out.cost; omega) (by rw [PW.out]) rfl).mono ?_
        · rcases (by omega : i % 2 = 0 ∨ i % 2 = 1) with e | e <;> rw [e]
          · exact N5.out.g0
          · exact N5.out.g2
        rintro e w9 ⟨rfl, h9, k9⟩
        have R9 := Lib.hid h9
        have N9 := Lib.hid (N5.out.write (i % 2 * 2) (i % 4) (bv 128 (i : Int)))
        have L9 := Lib.hid (L8.out.trans (k9.below.mono hB.out))
        clear h9 k9 R8 L8 N5 V8
        generalize (if s.pow then s.spent.wrote (i % 2 * 2) (i % 4) (bv 128 (i : Int)) else s.spent) = s9 at *
        rcases hin with ⟨hin, t3⟩ | ⟨hin, t3⟩
        all_goals
          rw [hin]
          clear hin
          go_wp2_with fail
          go_roundw
          case rel => exact ⟨i + 1, s9, by omega, by omega, by go_num, N9, R9, L9⟩
          case measure => simp [intOf]; omega
    · have hst : decide (i < len1) = false ∨ decide (i < len1) = true ∧ decide ((i : Int) < 60) = false := by
        by_cases h : i < len1
        · exact .inr ⟨by simp [h], by simp; omega⟩
        · exact .inl (by simp; omega)
      clear hgo
      rcases hst with t1 | ⟨t1, t2⟩
      all_goals
        go_wp2_with fail
        refine (crash_any _ r s none 0 0 (fun _ => 0) R5.out ⟨fun i hi => absurd hi (Nat.not_lt_zero _), by simp [maxLen], .inl rfl⟩).mono ?_
        rintro e w6 ⟨rfl, h6, k6⟩
        have R6 := Lib.hid h6
        have L6 := Lib.hid (L5.out.trans (k6.below.mono hB.out))
        have Z6 : Hid ((s.crashed (odd 0 fun _ => 0)).nd = 3 ∧ (s.crashed (odd 0 fun _ => 0)).ns = 4 ∧ (s.crashed (odd 0 fun _ => 0)).gone 0 = false ∧ (s.crashed (odd 0 fun _ => 0)).calm ∧ (s.crashed (odd 0 fun _ => 0)).cost ≤ 60) := Lib.hid ⟨N5.out.nd, N5.out.ns, N5.out.g0, RS.crashed_calm _ _, by have := N5.out.cost; show s.cost ≤ _; omega⟩
        clear h6 k6 R5 L5
        generalize s.crashed (odd 0 fun _ => 0) = s6 at *
        go_wp2_with fail
        refine (bytes_calm 5 _ (by omega)).mono ?_
        rintro e w7 ⟨v7, rfl, r7, b7⟩
        have R7 := Lib.hid (R6.out.below b7)
        have V7 := Lib.hid r7
        have L7 := Lib.hid (L6.out.trans (b7.mono L6.out.size))
        clear r7 b7 R6 L6
        go_wp2_with fail
        refine (write_calm _ r s6 0 0 0 0 v7 _ R7.out Z6.out.2.2.2.1 rfl rfl (by rw [Z6.out.1]; omega) (by rw [Z6.out.2.1]; omega) Z6.out.2.2.1 V7.out (fun j _ => bv_lt 128 _ j) (by have := Z6.out.2.2.2.2; omega)).mono ?_
        rintro e w8 ⟨rfl, h8, k8⟩
        have R8 := Lib.hid h8
        have L8 := Lib.hid (L7.out.trans (k8.below.mono hB.out))
        clear h8 k8 R7 L7 V7
        go_wp2_with fail
        refine (flush_calm _ r _ R8.out Z6.out.2.2.2.1).mono ?_
        rintro e w9 ⟨rfl, h9, k9⟩
        have L9 := Lib.hid (L8.out.trans (k9.below.mono hB.out))
        clear h9 k9 R8 L8
        go_wp2_with fail
        go_ret
        exact ⟨rfl, L9.out⟩
end rackArms
end Go.Proofs.Ytafflhnmkfbcnaa
