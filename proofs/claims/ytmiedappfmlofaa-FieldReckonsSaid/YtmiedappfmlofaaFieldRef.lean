/-
  The document's own answers for the field: 'Mul' bit by bit, 'Inv' and 'Log' by trying, 'Pow' by multiplying: each by a contract. Conditions: elements are bytes.
-/
import Derived.Test.YtmiedappfmlofaaRows
import Derived.WalkKit
import Derived.Lib.Hide
import Derived.Test.YtmiedappfmlofaaFieldU8
import Derived.Test.YtmiedappfmlofaaFieldPows
import Derived.Test.YtmiedappfmlofaaFieldMul
namespace Go.Proofs.Ytmiedappfmlofaa
open Go.RowKit

theorem u8_and_one (x : Nat) (hx : x < 256) : bits .and .u8 (x : Int) 1 = ((x % 2 : Nat) : Int) := by
  have h2 : x &&& 1 = x % 2 := Nat.and_one_is_mod x
  show IntKind.u8.wrap ((BitVec.ofInt 8 (x : Int) &&& BitVec.ofInt 8 ((1 : Nat) : Int)).toNat : Int) = _
  rw [BitVec.toNat_and, ofInt_i8 x hx, ofInt_i8 1 (by omega), IntKind.wrap_u8, h2]
  omega
theorem bit_test (b i : Nat) (hb : b < 256) : (bits .and .u8 ((b : Int) / 2 ^ i) 1 == 1) = b.testBit i := by
  have e : (b : Int) / 2 ^ i = ((b / 2 ^ i : Nat) : Int) := by rw [Int.natCast_ediv]; norm_cast
  have hl : b / 2 ^ i < 256 := Nat.lt_of_le_of_lt (Nat.div_le_self _ _) hb
  rw [e, u8_and_one _ hl, Nat.testBit_eq_decide_div_mod_eq, Bool.eq_iff_iff]
  simp
  omega

set_option maxRecDepth 100000 in
set_option maxHeartbeats 800000 in
theorem refmul_any (a b : Nat) (ha : a < 256) (hb : b < 256) (w : World) :
    Calls Try.prog 20 #[.int .u8 a, .int .u8 b] w fun e w' => e = .returned (.int .u8 (M.gmul a b : Nat)) ∧ w = w' := by
  have HG := Lib.hid (M.gmul_eq ha hb)
  go_enter Try.func20, Try.ntmps20
  go_wp2
  go_loop [5, 6] (fun p k => ∃ j : Nat, j ≤ 8 ∧ k = .int .i64 (7 - (j : Int)) ∧ p = .int .i64 (M.smulTo a b j : Nat)) (fun _ k => (intOf k + 1).toNat)
  case atStart => exact ⟨0, by omega, rfl, rfl⟩
  case round =>
    obtain ⟨j, hj, rfl, rfl⟩ := hrel
    have hp := M.smulTo_lt ha b j
    by_cases hlt : j < 8
    · have HS := Lib.hid (show M.smulTo a b (j + 1) = M.hs a (M.smulTo a b j) (b.testBit (7 - j)) from rfl)
      have hbit := bit_test b (7 - j) hb
      generalize M.smulTo a b j = p at *
      generalize b.testBit (7 - j) = t at *
      have h0 : (0 : Int) ≤ 7 - (j : Int) := by omega
      have h1 : 7 - (j : Int) ≤ 7 := by omega
      have hpp : (p : Int) * 2 ≤ 1000 := by omega
      have hxt := M.xt_tab p hp
      by_cases hbig : 127 < p
      · have hx1 : bits .xor .i64 ((p : Int) * 2) 285 = ((M.xt p : Nat) : Int) := by
          rw [M.xt, if_pos (by omega), ← i64_xor_nat _ _ (by omega) (by omega)]; rfl
        have hx2 := i64_xor_nat (M.xt p) a (by omega) (by omega)
        cases t
        · have HT := Lib.hid (show M.hs a p false = M.xt p from rfl)
          go_wp2_with fail
          go_round
          case rel => exact ⟨j + 1, by omega, by go_num, by rw [HS.out, HT.out]⟩
          case measure => simp [intOf]; omega
        · have HT := Lib.hid (show M.hs a p true = M.xt p ^^^ a from rfl)
          go_wp2_with fail
          go_round
          case rel => exact ⟨j + 1, by omega, by go_num, by rw [HS.out, HT.out]⟩
          case measure => simp [intOf]; omega
      · have HX := Lib.hid (show M.xt p = p * 2 from if_neg (by omega))
        have hx2 : bits .xor .i64 ((p : Int) * 2) (a : Int) = ((p * 2 ^^^ a : Nat) : Int) := by rw [← i64_xor_nat (p * 2) a (by omega) (by omega)]; rfl
        cases t
        · have HT := Lib.hid (show M.hs a p false = M.xt p from rfl)
          go_wp2_with fail
          go_round
          case rel => exact ⟨j + 1, by omega, by go_num, by rw [HS.out, HT.out, HX.out]; rfl⟩
          case measure => simp [intOf]; omega
        · have HT := Lib.hid (show M.hs a p true = M.xt p ^^^ a from rfl)
          go_wp2_with fail
          go_round
          case rel => exact ⟨j + 1, by omega, by go_num, by rw [HS.out, HT.out, HX.out]⟩
          case measure => simp [intOf]; omega
    · obtain rfl : j = 8 := by omega
      have HS : Hid (M.smulTo a b 8 = M.smul a b) := rfl
      generalize M.smulTo a b 8 = p at *
      go_wp2_with fail
      go_ret
      exact ⟨by rw [HG.out, ← HS.out]; rfl, rfl⟩

def invV (a : Nat) : Nat := if a = 0 then 0 else M.ginv a
def logV (a : Nat) : Nat := if a = 0 then 0 else M.lg a
def errV (a : Nat) : Int := if a = 0 then 1 else 0
theorem invV_z {a : Nat} (h : a = 0) : invV a = 0 := if_pos h
theorem invV_n {a : Nat} (h : a ≠ 0) : invV a = M.ginv a := if_neg h
theorem logV_z {a : Nat} (h : a = 0) : logV a = 0 := if_pos h
theorem logV_n {a : Nat} (h : a ≠ 0) : logV a = M.lg a := if_neg h
theorem errV_z {a : Nat} (h : a = 0) : errV a = 1 := if_pos h
theorem errV_n {a : Nat} (h : a ≠ 0) : errV a = 0 := if_neg h

theorem inv_iff {a x : Nat} (ha : a < 256) (hx : x < 256) : M.gmul a x = 1 ↔ a ≠ 0 ∧ x = M.ginv a := by
  constructor
  · intro h
    have h0 : a ≠ 0 := by
      rintro rfl
      rw [M.gmul_zero_left] at h
      omega
    refine ⟨h0, ?_⟩
    have h1 := M.gmul_ginv ha h0
    have h2 : M.gmul (M.ginv a) (M.gmul a x) = M.gmul (M.ginv a) 1 := by rw [h]
    rw [M.gmul_assoc, M.gmul_comm (M.ginv a) a, h1, M.gmul_comm 1 x, M.gmul_one hx, M.gmul_one (M.ginv_lt a)] at h2
    exact h2
  · rintro ⟨h0, rfl⟩
    exact M.gmul_ginv ha h0

set_option maxRecDepth 100000 in
set_option maxHeartbeats 400000 in
theorem refinv_any (a : Nat) (ha : a < 256) (w : World) :
    Calls Try.prog 14 #[.int .u8 a] w fun e w' => e = .returned (.tuple #[.int .u8 (invV a : Nat), .int .i64 (errV a)]) ∧ w = w' := by
  go_enter Try.func14, Try.ntmps14
  go_wp2
  go_loop [4] (fun x => ∃ k : Nat, 1 ≤ k ∧ k ≤ 256 ∧ x = .int .i64 k ∧ Hid (a ≠ 0 → k ≤ M.ginv a)) (fun x => 256 - (intOf x).toNat)
  case atStart => exact ⟨1, by omega, by omega, rfl, fun _ => by have := M.ginv_pos a; omega⟩
  case round =>
    obtain ⟨k, hk1, hk, rfl, HK⟩ := hrel
    by_cases hlt : k < 256
    · have hs := inv_iff ha hlt
      have hcall := Lib.hid (refmul_any a k ha hlt)
      by_cases hq : M.gmul a k = 1
      · obtain ⟨h0, h1⟩ := hs.1 hq
        have e1 : (((M.gmul a k : Nat) : Int) == 1) = true := by rw [hq]; rfl
        have HF := Lib.hid h1
        have HV := Lib.hid (invV_n h0)
        have HE := Lib.hid (errV_n h0)
        clear hs hq h0 h1
        go_wp2_with fail
        refine (hcall.out _).mono ?_
        rintro e w' ⟨rfl, rfl⟩
        go_wp2_with fail
        go_ret2
        exact ⟨by rw [HV.out, HE.out, ← HF.out]; rfl, rfl⟩
      · have e1 : (((M.gmul a k : Nat) : Int) == 1) = false := by simpa using fun h : (M.gmul a k : Int) = 1 => hq (by omega)
        have HN : Hid (a ≠ 0 → k + 1 ≤ M.ginv a) := fun h0 => by
          have h1 := HK.out h0
          have h2 : k ≠ M.ginv a := fun h => hq (hs.2 ⟨h0, h⟩)
          omega
        clear hs hq HK
        go_wp2_with fail
        refine (hcall.out _).mono ?_
        rintro e w' ⟨rfl, rfl⟩
        go_wp2_with fail
        go_round
        case rel => exact ⟨k + 1, by omega, by omega, by go_num, HN⟩
        case measure => simp [intOf]; omega
    · obtain rfl : k = 256 := by omega
      have h00 : a = 0 := by
        by_cases h0 : a = 0
        · exact h0
        · have h1 := HK.out h0
          have h2 := M.ginv_lt a
          omega
      have HV := Lib.hid (invV_z h00)
      have HE := Lib.hid (errV_z h00)
      clear HK h00
      go_wp2_with fail
      go_ret2
      exact ⟨by rw [HV.out, HE.out]; rfl, rfl⟩

theorem lg_iff {a k : Nat} (ha : a < 256) (hk : k < 255) : M.pw k = a ↔ a ≠ 0 ∧ k = M.lg a := by
  constructor
  · rintro rfl
    have := M.pw_pos hk
    exact ⟨by omega, (M.lg_pw hk).symm⟩
  · rintro ⟨h0, rfl⟩
    exact M.pw_lg ha h0
theorem gmul_pw_two (k : Nat) : M.gmul (M.pw k) 2 = M.pw (k + 1) := by
  have h := M.gmul_pw k 1
  exact h

set_option maxRecDepth 100000 in
set_option maxHeartbeats 400000 in
theorem reflog_any (a : Nat) (ha : a < 256) (w : World) :
    Calls Try.prog 18 #[.int .u8 a] w fun e w' => e = .returned (.tuple #[.int .i64 (logV a : Nat), .int .i64 (errV a)]) ∧ w = w' := by
  go_enter Try.func18, Try.ntmps18
  go_wp2
  go_loop [4, 5] (fun p x => ∃ k : Nat, k ≤ 255 ∧ x = .int .i64 k ∧ p = .int .u8 (M.pw k : Nat) ∧ Hid (a ≠ 0 → k ≤ M.lg a)) (fun _ x => 255 - (intOf x).toNat)
  case atStart => exact ⟨0, by omega, rfl, rfl, fun _ => by omega⟩
  case round =>
    obtain ⟨k, hk, rfl, rfl, HK⟩ := hrel
    by_cases hlt : k < 255
    · have hs := lg_iff ha hlt
      have hpk := M.pw_lt hlt
      have hcall := Lib.hid (refmul_any (M.pw k) 2 hpk (by omega))
      have HP := Lib.hid (gmul_pw_two k)
      generalize M.pw k = p at *
      by_cases hq : p = a
      · obtain ⟨h0, h1⟩ := hs.1 hq
        have e1 : ((p : Int) == (a : Int)) = true := beq_iff_eq.2 (by omega)
        have HF := Lib.hid h1
        have HV := Lib.hid (logV_n h0)
        have HE := Lib.hid (errV_n h0)
        clear hs hq h0 h1
        go_wp2_with fail
        go_ret2
        exact ⟨by rw [HV.out, HE.out, ← HF.out]; rfl, rfl⟩
      · have e1 : ((p : Int) == (a : Int)) = false := beq_eq_false_iff_ne.2 (by omega)
        have HN : Hid (a ≠ 0 → k + 1 ≤ M.lg a) := fun h0 => by
          have h1 := HK.out h0
          have h2 : k ≠ M.lg a := fun h => hq (hs.2 ⟨h0, h⟩)
          omega
        clear hs hq HK
        go_wp2_with fail
        refine (hcall.out _).mono ?_
        rintro e w' ⟨rfl, rfl⟩
        rw [HP.out]
        go_wp2_with fail
        go_round
        case rel => exact ⟨k + 1, by omega, by go_num, rfl, HN⟩
        case measure => simp [intOf]; omega
    · obtain rfl : k = 255 := by omega
      have h00 : a = 0 := by
        by_cases h0 : a = 0
        · exact h0
        · have h1 := HK.out h0
          have h2 := M.lg_lt ha h0
          omega
      have HV := Lib.hid (logV_z h00)
      have HE := Lib.hid (errV_z h00)
      clear HK h00
      go_wp2_with fail
      go_ret2
      exact ⟨by rw [HV.out, HE.out]; rfl, rfl⟩

theorem gpow_step (a k : Nat) (ha : a < 256) : M.gmul (M.gpow a k) a = M.gpow a (k + 1) := by
  rw [← M.gpow_add a k 1 ha]
  congr 1
  by_cases h0 : a = 0
  · subst h0; rfl
  · rw [M.gpow_of h0, Nat.mul_one, M.pw_lg ha h0]
theorem gpow_mod (a n : Nat) (h : n ≠ 0) : M.gpow a ((n - 1) % 255 + 1) = M.gpow a n := by
  by_cases h0 : a = 0
  · subst h0
    rw [M.gpow, if_neg (by omega), if_pos rfl, M.gpow, if_neg h, if_pos rfl]
  · have e : ((n - 1) % 255 + 1) % 255 = n % 255 := by omega
    rw [M.gpow_of h0, M.gpow_of h0, ← M.pw_mod, Nat.mul_mod, e, ← Nat.mul_mod, M.pw_mod]

set_option maxRecDepth 100000 in
set_option maxHeartbeats 400000 in
theorem refpow_any (a : Nat) (n : Int) (ha : a < 256) (hn : -9223372036854775808 ≤ n ∧ n ≤ 9223372036854775807) (w : World) :
    Calls Try.prog 16 #[.int .u8 a, .int .i64 n] w fun e w' => e = .returned (.tuple #[.int .u8 (powR a n : Nat), .int .i64 (if n < 0 then 1 else 0)]) ∧ w = w' := by
  obtain ⟨hn1, hn2⟩ := hn
  by_cases hneg : n < 0
  · have HP := Lib.hid (show powR a n = 0 from if_pos hneg)
    rw [HP.out, if_pos hneg]
    go_enter Try.func16, Try.ntmps16
    go_wp2_with fail
    go_ret2
    exact ⟨rfl, rfl⟩
  rw [if_neg hneg]
  by_cases hz : n = 0
  · subst hz
    go_enter Try.func16, Try.ntmps16
    go_wp2_with fail
    go_ret2
    exact ⟨rfl, rfl⟩
  have hnz : (n == 0) = false := by simpa using hz
  have hpos : 1 ≤ n := by omega
  have HF := Lib.hid (show powR a n = M.gpow a ((n.toNat - 1) % 255 + 1) by rw [gpow_mod _ _ (by omega)]; exact if_neg hneg)
  have e1 : (n - 1) % 255 = (((n.toNat - 1) % 255 : Nat) : Int) := by omega
  have hc : (n.toNat - 1) % 255 < 255 := Nat.mod_lt _ (by omega)
  generalize (n.toNat - 1) % 255 = c at *
  clear hneg hz
  go_enter Try.func16, Try.ntmps16
  go_wp2
  go_loop [6, 7] (fun p x => ∃ k : Nat, k ≤ c + 1 ∧ x = .int .i64 k ∧ p = .int .u8 (M.gpow a k : Nat)) (fun _ x => c + 1 - (intOf x).toNat)
  case atStart => exact ⟨0, by omega, rfl, rfl⟩
  case round =>
    obtain ⟨k, hk, rfl, rfl⟩ := hrel
    by_cases hlt : k < c + 1
    · have hcall := Lib.hid (refmul_any (M.gpow a k) a (M.gpow_lt _ _) ha)
      have HP := Lib.hid (gpow_step a k ha)
      generalize M.gpow a k = p at *
      go_wp2_with fail
      refine (hcall.out _).mono ?_
      rintro e w' ⟨rfl, rfl⟩
      rw [HP.out]
      go_wp2_with fail
      go_round
      case rel => exact ⟨k + 1, by omega, by go_num, rfl⟩
      case measure => simp [intOf]; omega
    · obtain rfl : k = c + 1 := by omega
      generalize M.gpow a (c + 1) = p at *
      go_wp2_with fail
      go_ret2
      exact ⟨by rw [HF.out]; rfl, rfl⟩
end Go.Proofs.Ytmiedappfmlofaa
