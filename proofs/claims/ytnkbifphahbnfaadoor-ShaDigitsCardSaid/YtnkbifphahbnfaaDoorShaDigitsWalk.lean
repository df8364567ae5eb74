/-
  The walk of 'ShaDigits': a sum's digits tell each of its bytes; what hasn't 32 bytes is refused.
-/
import Derived.Test.YtnkbifphahbnfaaDoorShaKnown
namespace Go.Proofs.YtnkbifphahbnfaaDoor
open Go Go.RowKit
set_option linter.unusedVariables false
namespace shaDigits

theorem hexB_even (S : Nat → Nat) (k : Nat) : hexB S (2 * k) = hexd (S k / 16) := by
  unfold hexB
  rw [if_pos (by omega), show 2 * k / 2 = k by omega]
theorem hexB_odd (S : Nat → Nat) (k : Nat) : hexB S (2 * k + 1) = hexd (S k % 16) := by
  unfold hexB
  rw [if_neg (by omega), show (2 * k + 1) / 2 = k by omega]

set_option maxRecDepth 100000 in
set_option maxHeartbeats 1600000 in
theorem walk (A : Option Addr) (n c : Nat) (X : Nat → Nat) (a1 : Int) (w : World) (hx0 : RdB w w.heap.size A n X) (hnc : n ≤ c) (hcm : c ≤ maxLen) (h0 : A = none → c = 0) (w1 : (Lit.int .i64 a1).wf = true) (hl : Laid w) :
    Calls Tryd.prog 8 #[.slice A n c, .int .i64 a1] w fun e w' => e = .returned (.bool true) ∧ Below w.heap.size w w' := by
  obtain ⟨Y, hx, hX⟩ := hx0.cut
  have HX := Lib.hid hx
  have HL := Lib.hid hl
  have hpos := hl.pos
  have HC := Lib.hid hcm
  have hb1 := bounds_i64 w1
  obtain ⟨p1, p2⟩ := hb1
  have hcm' := hcm
  unfold maxLen at hcm'
  clear hx0 hx hl hcm w1 h0
  by_cases hbig : 3000 < n
  · have t1 : (3000 : Int) < (n : Int) := by omega
    go_enter Tryd.func8, Tryd.ntmps8
    go_wp2_with fail
    refine (known_any _ HL.out).mono ?_
    rintro e w2 ⟨rfl, hl2⟩
    have L2 := Lib.hid hl2
    clear hl2
    go_wp2_with fail
    refine (known_any _ (HL.out.below L2.out hpos)).mono ?_
    rintro e w3 ⟨rfl, hl3⟩
    have L3 := Lib.hid (L2.out.trans (hl3.mono L2.out.size))
    clear hl3 L2
    go_wp2_with fail
    go_ret
    exact ⟨rfl, L3.out⟩
  have t1 : (n : Int) ≤ 3000 := by omega
  have hn : n ≤ 1099511627776 := by omega
  clear hbig
  go_enter Tryd.func8, Tryd.ntmps8
  go_wp2_with fail
  refine (known_any _ HL.out).mono ?_
  rintro e w2 ⟨rfl, hl2⟩
  have L2 := Lib.hid hl2
  clear hl2
  go_wp2_with fail
  refine (sum_any A n c w.heap.size Y w2 (HX.out.below L2.out (Nat.le_refl _)) hX L2.out.size hnc HC.out hn (HL.out.below L2.out hpos)).mono ?_
  rintro e w3 ⟨rfl, hl3⟩
  have L3 := Lib.hid (L2.out.trans (hl3.mono L2.out.size))
  have hS : ∀ j, M.sum n Y j < 256 := M.sum_lt n Y
  clear hl3 L2 HX
  generalize M.sum n Y = S at *
  have HS := Lib.hid hS
  clear hS
  go_wp2_with fail
  refine (digits_any S w3 HS.out).mono ?_
  rintro e w4 ⟨rfl, hl4⟩
  have L4 := Lib.hid (L3.out.trans (hl4.mono L3.out.size))
  clear hl4 L3
  have s32 : (strB 32 S).size = 32 := strB_size _ _
  have s64 : (strB 64 (hexB S)).size = 64 := strB_size _ _
  go_wp2_with fail
  go_loopw [8, 9, 10] (fun x _ _ wr => ∃ k : Nat, k ≤ 32 ∧ x = .int .i64 k ∧ Hid (Below w.heap.size w wr)) (fun x _ _ _ => 32 - (intOf x).toNat)
  case atStart => exact ⟨0, by omega, rfl, L4⟩
  case round =>
    obtain ⟨k, hk, rfl, L5⟩ := hrel
    clear L4
    by_cases hlt : k < 32
    · have i1 : (0 : Int) ≤ (k : Int) := by omega
      have i2 : (k : Int) < 32 := by omega
      have hsk := HS.out k
      have x1 := index_str 64 (hexB S) (2 * k) (by omega) (hexB_lt HS.out _) .i64
      have x2 := index_str 64 (hexB S) (2 * k + 1) (by omega) (hexB_lt HS.out _) .i64
      have x3 := index_str 32 S k hlt hsk .i64
      rw [hexB_even] at x1
      rw [hexB_odd] at x2
      rw [show ((2 * k : Nat) : Int) = 2 * (k : Int) by omega] at x1
      rw [show ((2 * k + 1 : Nat) : Int) = 2 * (k : Int) + 1 by omega] at x2
      obtain ⟨u, hu⟩ : ∃ u, u = S k / 16 := ⟨_, rfl⟩
      obtain ⟨v, hv⟩ : ∃ v, v = S k % 16 := ⟨_, rfl⟩
      rw [← hu] at x1
      rw [← hv] at x2
      have y1 := index_hex u (by omega)
      have y2 := index_hex v (by omega)
      have e1 : ((S k : Nat) : Int) / 16 = (u : Int) := by omega
      have e2 : ((S k : Nat) : Int) % 16 = (v : Int) := by omega
      have e3 : (0 : Int) ≤ ((S k : Nat) : Int) := by omega
      have e4 : ((S k : Nat) : Int) < 256 := by omega
      clear hu hv
      go_wp2_with fail
      go_quiet (fail)
      have L6 : Hid (Below w.heap.size w (wr.drewN nq)) := Lib.hid (below_drewN L5.out nq)
      clear L5
      go_wp2_with fail
      go_roundw
      case rel => exact ⟨k + 1, by omega, by go_num, L6⟩
      case measure => simp [intOf]; omega
    · have hk32 : k = 32 := by omega
      rw [show ((k : Nat) : Int) = 32 by omega]
      subst hk32
      clear hlt
      obtain ⟨m, hm, hm32⟩ : ∃ m : Nat, (IntKind.u64.wrap a1).tmod 32 = (m : Int) ∧ m < 32 := by
        have hw : 0 ≤ IntKind.u64.wrap a1 := by simp [IntKind.wrap, IntKind.bits, IntKind.signed]; omega
        refine ⟨((IntKind.u64.wrap a1) % 32).toNat, ?_, by omega⟩
        rw [Int.tmod_eq_emod_of_nonneg hw]
        omega
      have m1 : (m : Int) ≤ 32 := by omega
      have z1 : ((strB 32 S).extract 0 m).size ≠ 32 := by rw [ByteArray.size_extract, s32]; omega
      have z2 : ((strB 32 S).extract 0 m).size ≤ maxLen := by rw [ByteArray.size_extract, s32]; unfold maxLen; omega
      have Z1 := Lib.hid z1
      have Z2 := Lib.hid z2
      have z3 : (strB 32 S ++ { data := #[97] }).size = 33 := by rw [ByteArray.size_append, s32]; rfl
      have Z3 := Lib.hid z3
      clear z1 z2 z3
      go_wp2_with fail
      refine (digits_bad _ _ Z1.out Z2.out).mono ?_
      rintro e w' ⟨rfl, rfl⟩
      go_wp2_with fail
      refine (digits_bad _ _ (by rw [Z3.out]; omega) (by rw [Z3.out]; unfold maxLen; omega)).mono ?_
      rintro e w' ⟨rfl, rfl⟩
      go_wp2_with fail
      go_ret
      exact ⟨rfl, L5.out⟩
end shaDigits
end Go.Proofs.YtnkbifphahbnfaaDoor
