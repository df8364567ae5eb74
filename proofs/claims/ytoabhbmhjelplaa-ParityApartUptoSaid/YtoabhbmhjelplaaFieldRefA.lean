/-
  (made of XFieldRef by mkparref.py)
  The document's own answers for the field: 'Mul' bit by bit, 'Inv' and 'Log' by trying, 'Pow' by multiplying: each by a contract. Conditions: elements are bytes.
-/
import Derived.WalkKit
import Derived.Lib.Hide
import Derived.Test.YtoabhbmhjelplaaStrBM
import Derived.Test.YtoabhbmhjelplaaRackMemM
import Derived.Test.YtoabhbmhjelplaaFieldMul
namespace Go.Proofs.Ytoabhbmhjelplaa
open Go.RowKit
set_option maxRecDepth 100000
set_option linter.unusedVariables false

theorem u8_and_one (x : Nat) (hx : x < 256) : bits .and .u8 (x : Int) 1 = ((x % 2 : Nat) : Int) := by
  have h2 : x &&& 1 = x % 2 := Nat.and_one_is_mod x
  show IntKind.u8.wrap ((BitVec.ofInt 8 (x : Int) &&& BitVec.ofInt 8 ((1 : Nat) : Int)).toNat : Int) = _
  rw [BitVec.toNat_and, ofInt_i8 x hx, ofInt_i8 1 (by omega), IntKind.wrap_u8, h2]
  omega
theorem bit_test (b i : Nat) (hb : b < 256) : (bits .and .u8 ((b : Int) / 2 ^ i) 1 == 1) = b.testBit i := by
  have e : (b : Int) / 2 ^ i = ((b / 2 ^ i : Nat) : Int) := by rw [Int.natCast_ediv]; norm_cast
  have hl : b / 2 ^ i < 256 := Nat.lt_of_le_of_lt (Nat.div_le_self _ _) hb
  rw [e, u8_and_one _ hl, Nat.testBit_eq_decide_div_mod_eq, Bool.eq_iff_iff]
  simp
  omega

set_option maxRecDepth 100000 in
set_option maxHeartbeats 800000 in
theorem refmul_any (a b : Nat) (ha : a < 256) (hb : b < 256) (w : World) :
    Calls Try.prog 15 #[.int .u8 a, .int .u8 b] w fun e w' => e = .returned (.int .u8 (M.gmul a b : Nat)) ∧ w = w' := by
  have HG := Lib.hid (M.gmul_eq ha hb)
  go_enter Try.func15, Try.ntmps15
  go_wp2
  go_loop [5, 6] (fun p k => ∃ j : Nat, j ≤ 8 ∧ k = .int .i64 (7 - (j : Int)) ∧ p = .int .i64 (M.smulTo a b j : Nat)) (fun _ k => (intOf k + 1).toNat)
  case atStart => exact ⟨0, by omega, rfl, rfl⟩
  case round =>
    obtain ⟨j, hj, rfl, rfl⟩ := hrel
    have hp := M.smulTo_lt ha b j
    by_cases hlt : j < 8
    · have HS := Lib.hid (show M.smulTo a b (j + 1) = M.hs a (M.smulTo a b j) (b.testBit (7 - j)) from rfl)
      have hbit := bit_test b (7 - j) hb
      generalize M.smulTo a b j = p at *
      generalize b.testBit (7 - j) = t at *
      have h0 : (0 : Int) ≤ 7 - (j : Int) := by omega
      have h1 : 7 - (j : Int) ≤ 7 := by omega
      have hpp : (p : Int) * 2 ≤ 1000 := by omega
      have hxt := M.xt_tab p hp
      by_cases hbig : 127 < p
      · have hx1 : bits .xor .i64 ((p : Int) * 2) 285 = ((M.xt p : Nat) : Int) := by
          rw [M.xt, if_pos (by omega), ← i64_xor_nat _ _ (by omega) (by omega)]; rfl
        have hx2 := i64_xor_nat (M.xt p) a (by omega) (by omega)
        cases t
        · have HT := Lib.hid (show M.hs a p false = M.xt p from rfl)
          go_wp2_with fail
          go_round
          case rel => exact ⟨j + 1, by omega, by go_num, by rw [HS.out, HT.out]⟩
          case measure => simp [intOf]; omega
        · have HT := Lib.hid (show M.hs a p true = M.xt p ^^^ a from rfl)
          go_wp2_with fail
          go_round
          case rel => exact ⟨j + 1, by omega, by go_num, by rw [HS.out, HT.out]⟩
          case measure => simp [intOf]; omega
      · have HX := Lib.hid (show M.xt p = p * 2 from if_neg (by omega))
        have hx2 : bits .xor .i64 ((p : Int) * 2) (a : Int) = ((p * 2 ^^^ a : Nat) : Int) := by rw [← i64_xor_nat (p * 2) a (by omega) (by omega)]; rfl
        cases t
        · have HT := Lib.hid (show M.hs a p false = M.xt p from rfl)
          go_wp2_with fail
          go_round
          case rel => exact ⟨j + 1, by omega, by go_num, by rw [HS.out, HT.out, HX.out]; rfl⟩
          case measure => simp [intOf]; omega
        · have HT := Lib.hid (show M.hs a p true = M.xt p ^^^ a from rfl)
          go_wp2_with fail
          go_round
          case rel => exact ⟨j + 1, by omega, by go_num, by rw [HS.out, HT.out, HX.out]⟩
          case measure => simp [intOf]; omega
    · obtain rfl : j = 8 := by omega
      have HS : Hid (M.smulTo a b 8 = M.smul a b) := rfl
      generalize M.smulTo a b 8 = p at *
      go_wp2_with fail
      go_ret
      exact ⟨by rw [HG.out, ← HS.out]; rfl, rfl⟩

theorem gpow_step (a k : Nat) (ha : a < 256) : M.gmul (M.gpow a k) a = M.gpow a (k + 1) := by
  rw [← M.gpow_add a k 1 ha]
  congr 1
  by_cases h0 : a = 0
  · subst h0; rfl
  · rw [M.gpow_of h0, Nat.mul_one, M.pw_lg ha h0]
theorem gpow_mod (a n : Nat) (h : n ≠ 0) : M.gpow a ((n - 1) % 255 + 1) = M.gpow a n := by
  by_cases h0 : a = 0
  · subst h0
    rw [M.gpow, if_neg (by omega), if_pos rfl, M.gpow, if_neg h, if_pos rfl]
  · have e : ((n - 1) % 255 + 1) % 255 = n % 255 := by omega
    rw [M.gpow_of h0, M.gpow_of h0, ← M.pw_mod, Nat.mul_mod, e, ← Nat.mul_mod, M.pw_mod]

set_option maxRecDepth 100000 in
set_option maxHeartbeats 400000 in
theorem refpow_any (a : Nat) (n : Int) (ha : a < 256) (hn : -9223372036854775808 ≤ n ∧ n ≤ 9223372036854775807) (w : World) :
    Calls Try.prog 25 #[.int .u8 a, .int .i64 n] w fun e w' => e = .returned (.tuple #[.int .u8 (powR a n : Nat), .int .i64 (if n < 0 then 1 else 0)]) ∧ w = w' := by
  obtain ⟨hn1, hn2⟩ := hn
  by_cases hneg : n < 0
  · have HP := Lib.hid (show powR a n = 0 from if_pos hneg)
    rw [HP.out, if_pos hneg]
    go_enter Try.func25, Try.ntmps25
    go_wp2_with fail
    go_ret2
    exact ⟨rfl, rfl⟩
  rw [if_neg hneg]
  by_cases hz : n = 0
  · subst hz
    go_enter Try.func25, Try.ntmps25
    go_wp2_with fail
    go_ret2
    exact ⟨rfl, rfl⟩
  have hnz : (n == 0) = false := by simpa using hz
  have hpos : 1 ≤ n := by omega
  have HF := Lib.hid (show powR a n = M.gpow a ((n.toNat - 1) % 255 + 1) by rw [gpow_mod _ _ (by omega)]; exact if_neg hneg)
  have e1 : (n - 1) % 255 = (((n.toNat - 1) % 255 : Nat) : Int) := by omega
  have hc : (n.toNat - 1) % 255 < 255 := Nat.mod_lt _ (by omega)
  generalize (n.toNat - 1) % 255 = c at *
  clear hneg hz
  go_enter Try.func25, Try.ntmps25
  go_wp2
  go_loop [6, 7] (fun p x => ∃ k : Nat, k ≤ c + 1 ∧ x = .int .i64 k ∧ p = .int .u8 (M.gpow a k : Nat)) (fun _ x => c + 1 - (intOf x).toNat)
  case atStart => exact ⟨0, by omega, rfl, rfl⟩
  case round =>
    obtain ⟨k, hk, rfl, rfl⟩ := hrel
    by_cases hlt : k < c + 1
    · have hcall := Lib.hid (refmul_any (M.gpow a k) a (M.gpow_lt _ _) ha)
      have HP := Lib.hid (gpow_step a k ha)
      generalize M.gpow a k = p at *
      go_wp2_with fail
      refine (hcall.out _).mono ?_
      rintro e w' ⟨rfl, rfl⟩
      rw [HP.out]
      go_wp2_with fail
      go_round
      case rel => exact ⟨k + 1, by omega, by go_num, rfl⟩
      case measure => simp [intOf]; omega
    · obtain rfl : k = c + 1 := by omega
      generalize M.gpow a (c + 1) = p at *
      go_wp2_with fail
      go_ret2
      exact ⟨by rw [HF.out]; rfl, rfl⟩
end Go.Proofs.Ytoabhbmhjelplaa
