/-
  Numbers of 32 bits as the machine reckons with them; 'right' and 'number' by contracts. Conditions: numbers below 2^32; turns by 1 to 31 bits.
-/
import Derived.Test.YtllglgkphlkopaaDoorShaMath
import Derived.Test.YtllglgkphlkopaaDoorRackMem
import Derived.BigQuiet
import Derived.Lib.Hide
namespace Go.Proofs.YtllglgkphlkopaaDoor
open Go.RowKit
set_option linter.unusedVariables false

theorem ofInt_i32 (a : Nat) (ha : a < 4294967296) : (BitVec.ofInt 32 (a : Int)).toNat = a := by
  rw [BitVec.ofInt_natCast, BitVec.toNat_ofNat]; exact Nat.mod_eq_of_lt (by omega)
theorem u32_xor (a b : Nat) (ha : a < 4294967296) (hb : b < 4294967296) : bits .xor .u32 (a : Int) (b : Int) = ((a ^^^ b : Nat) : Int) := by
  have hx := M.x32 ha hb
  show IntKind.u32.wrap ((BitVec.ofInt 32 (a : Int) ^^^ BitVec.ofInt 32 (b : Int)).toNat : Int) = _
  rw [BitVec.toNat_xor, ofInt_i32 a ha, ofInt_i32 b hb, IntKind.wrap_u32]
  omega
theorem u32_and (a b : Nat) (ha : a < 4294967296) (hb : b < 4294967296) : bits .and .u32 (a : Int) (b : Int) = ((a &&& b : Nat) : Int) := by
  have hx := M.a32 b ha
  show IntKind.u32.wrap ((BitVec.ofInt 32 (a : Int) &&& BitVec.ofInt 32 (b : Int)).toNat : Int) = _
  rw [BitVec.toNat_and, ofInt_i32 a ha, ofInt_i32 b hb, IntKind.wrap_u32]
  omega
theorem u32_or (a b : Nat) (ha : a < 4294967296) (hb : b < 4294967296) : bits .or .u32 (a : Int) (b : Int) = ((a ||| b : Nat) : Int) := by
  have hx := M.o32 ha hb
  show IntKind.u32.wrap ((BitVec.ofInt 32 (a : Int) ||| BitVec.ofInt 32 (b : Int)).toNat : Int) = _
  rw [BitVec.toNat_or, ofInt_i32 a ha, ofInt_i32 b hb, IntKind.wrap_u32]
  omega
theorem u32_add (a b : Nat) : IntKind.u32.wrap ((a : Int) + (b : Int)) = (((a + b) % 4294967296 : Nat) : Int) := by
  rw [IntKind.wrap_u32]; omega
theorem u32_shl (a k : Nat) : IntKind.u32.wrap ((a : Int) * 2 ^ k) = (((a <<< k) % 4294967296 : Nat) : Int) := by
  rw [IntKind.wrap_u32, Nat.shiftLeft_eq, Int.natCast_emod, Int.natCast_mul, Int.natCast_pow]
  rfl
theorem u32_shr (a k : Nat) : (a : Int).fdiv (2 ^ k) = ((a >>> k : Nat) : Int) := by
  rw [Nat.shiftRight_eq_div_pow, Int.fdiv_eq_ediv_of_nonneg _ (by exact Int.pow_nonneg (by omega)), Int.natCast_ediv, Int.natCast_pow]
  rfl

theorem neg_wrap (n : Nat) (h0 : 0 < n) (h1 : n < 32) : IntKind.u64.wrap (-(n : Int)) = 18446744073709551616 - (n : Int) := by
  simp [IntKind.wrap, IntKind.bits, IntKind.signed]
  omega
theorem ret_u32 {a b : Int} (h : a = b) : Ending.returned (.int .u32 a) = .returned (.int .u32 b) := by rw [h]
theorem and31 (n : Nat) (h0 : 0 < n) (h1 : n < 32) : bits .and .u64 (IntKind.u64.wrap (-(n : Int))) 31 = ((32 - n : Nat) : Int) := by
  have key : (List.range 32).all (fun n => n == 0 || bits .and .u64 (IntKind.u64.wrap (-(n : Int))) 31 == ((32 - n : Nat) : Int)) = true := by decide +kernel
  have := List.all_eq_true.1 key n (by simpa using h1)
  simp only [Bool.or_eq_true, beq_iff_eq] at this
  exact this.resolve_left (by omega)
set_option maxHeartbeats 400000 in
theorem rotate_any (x n : Nat) (hx : x < 4294967296) (h0 : 0 < n) (h1 : n < 32) (w : World) :
    Calls Tryd.prog 30 #[.int .u32 x, .int .i64 (-(n : Int))] w fun e w' => e = .returned (.int .u32 (M.ror x n : Nat)) ∧ w = w' := by
  have e1 := and31 n h0 h1
  obtain ⟨m, hm⟩ : ∃ m, m = 32 - n := ⟨_, rfl⟩
  rw [← hm] at e1
  have e2 : min m 32 = m := by omega
  have e3 : IntKind.u64.wrap (32 - (m : Int)) = (n : Int) := by simp [IntKind.wrap, IntKind.bits, IntKind.signed]; omega
  have e4 : min n 32 = n := by omega
  have e5 : (0 : Int) ≤ bits .and .u64 (IntKind.u64.wrap (-(n : Int))) 31 := by rw [e1]; omega
  have HE := Lib.hid hm
  clear hm
  go_enter Tryd.func30, Tryd.ntmps30
  go_wp2
  go_ret
  refine ⟨ret_u32 ?_, rfl⟩
  rw [show (x : Int) * 2 ^ m % 4294967296 = (((x <<< m) % 4294967296 : Nat) : Int) by rw [Nat.shiftLeft_eq, Int.natCast_emod, Int.natCast_mul, Int.natCast_pow]; rfl,
    show (x : Int) / 2 ^ n = ((x >>> n : Nat) : Int) by rw [Nat.shiftRight_eq_div_pow, Int.natCast_ediv, Int.natCast_pow]; rfl,
    u32_or _ _ (Nat.mod_lt _ (by omega)) (Nat.lt_of_le_of_lt (M.shr_le x n) hx), HE.out]
  rfl
theorem right_any (x n : Nat) (hx : x < 4294967296) (h0 : 0 < n) (h1 : n < 32) (w : World) :
    Calls Tryd.prog 28 #[.int .u32 x, .int .i64 n] w fun e w' => e = .returned (.int .u32 (M.ror x n : Nat)) ∧ w = w' := by
  go_enter Tryd.func28, Tryd.ntmps28
  go_wp2_with fail
  refine (rotate_any x n hx h0 h1 _).mono ?_
  rintro e w' ⟨rfl, rfl⟩
  go_wp2_with fail
  go_ret
  exact ⟨rfl, rfl⟩
/-- ready for a walk: any bits that are told by their number -/
theorem right_at (x n : Nat) (N : Int) (hx : x < 4294967296) (hN : N = (n : Int)) (h0 : 0 < n) (h1 : n < 32) (w : World) :
    Calls Tryd.prog 28 #[.int .u32 x, .int .i64 N] w fun e w' => e = .returned (.int .u32 (M.ror x n : Nat)) ∧ w' = w := by
  subst hN
  exact (right_any x n hx h0 h1 w).mono fun _ _ ⟨h, h'⟩ => ⟨h, h'.symm⟩

/-! ### four bytes -/
theorem shl24 (x : Nat) : (x : Int) * (16777216 : Int) = ((x <<< 24 : Nat) : Int) := by rw [Nat.shiftLeft_eq]; omega
theorem shl16 (x : Nat) : (x : Int) * (65536 : Int) = ((x <<< 16 : Nat) : Int) := by rw [Nat.shiftLeft_eq]; omega
theorem shl8 (x : Nat) : (x : Int) * (256 : Int) = ((x <<< 8 : Nat) : Int) := by rw [Nat.shiftLeft_eq]; omega
theorem shl_lt {x : Nat} (k : Nat) (h : x < 256) (hk : k ≤ 24) : x <<< k < 4294967296 := by
  rw [Nat.shiftLeft_eq]
  have h1 : 2 ^ k ≤ 2 ^ 24 := Nat.pow_le_pow_right (by omega) hk
  have h2 : x * 2 ^ k ≤ 255 * 2 ^ 24 := Nat.mul_le_mul (by omega) h1
  omega
set_option maxHeartbeats 400000 in
theorem number_any (g o c x0 x1 x2 x3 : Nat) (w : World) (l0 : x0 < 256) (l1 : x1 < 256) (l2 : x2 < 256) (l3 : x3 < 256)
    (c0 : w.cell? ⟨g, o, none⟩ = some (.int .u8 (x0 : Nat))) (c1 : w.cell? ⟨g, o + 1, none⟩ = some (.int .u8 (x1 : Nat))) (c2 : w.cell? ⟨g, o + 2, none⟩ = some (.int .u8 (x2 : Nat))) (c3 : w.cell? ⟨g, o + 3, none⟩ = some (.int .u8 (x3 : Nat))) :
    Calls Tryd.prog 29 #[.slice (some ⟨g, o, none⟩) 4 c] w fun e w' => e = .returned (.int .u32 (((x0 <<< 24 ||| x1 <<< 16) ||| x2 <<< 8) ||| x3 : Nat)) ∧ ∃ n, w' = w.drewN n := by
  go_enter Tryd.func29, Tryd.ntmps29
  go_wp2_with fail
  go_quiet (fail)
  go_wp2_with fail
  go_ret
  refine ⟨ret_u32 ?_, _, rfl⟩
  have s0 := shl_lt 24 l0 (by omega)
  have s1 := shl_lt 16 l1 (by omega)
  have s2 := shl_lt 8 l2 (by omega)
  rw [shl24, shl16, shl8, u32_or _ _ s0 s1, u32_or _ _ (M.o32 s0 s1) s2, u32_or _ _ (M.o32 (M.o32 s0 s1) s2) (by omega)]
end Go.Proofs.YtllglgkphlkopaaDoor
