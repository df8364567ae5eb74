/-
  The walk of 'FieldPowers': powers add up as their exponents do.
-/
import Derived.Test.YtmiedappfmlofaaFieldMul
import Derived.Test.YtmiedappfmlofaaFieldU8
import Derived.Test.YtmiedappfmlofaaFieldPows
namespace Go.Proofs.Ytmiedappfmlofaa
open Go.RowKit

set_option linter.unusedVariables false
namespace fieldPowers
set_option maxRecDepth 100000 in
set_option maxHeartbeats 1600000 in
theorem core (a x y z p l : Nat) (m0 n0 : Int) (m n : Nat) (ha : a < 256) (hm : m < 100000) (hn : n < 100000) (hx : x < 256) (hy : y < 256) (hp : p < 256) (hl : l < 255) (w : World)
    (c1 : (IntKind.u64.wrap m0).tmod 100000 = (m : Int)) (c2 : (IntKind.u64.wrap n0).tmod 100000 = (n : Int))
    (e1 : Hid (M.gpow a (m : Int).toNat = x)) (e2 : Hid (M.gpow a (n : Int).toNat = y)) (e3 : Hid (M.gpow a ((m : Int) + (n : Int)).toNat = z)) (e4 : Hid (M.gmul x y = z)) (e5 : Hid (M.gpow 2 (m : Int).toNat = p)) (e6 : Hid (M.lg p = l)) (e7 : Hid (M.gpow 2 (l : Int).toNat = p)) (hp0 : Hid (p ≠ 0)) (e8 : ((m : Int)).tmod 255 = (l : Int)) (e9 : ((m : Int)) % 255 = (l : Int)) :
    Calls Try.prog 5 #[.int .u8 a, .int .i64 m0, .int .i64 n0] w fun e w' => e = .returned (.bool true) ∧ Below w.heap.size w w' := by
  go_enter Try.func5, Try.ntmps5
  go_wp2_with fail
  refine (known_any _).mono ?_
  rintro e w1 ⟨rfl, hb1⟩
  have B1 := Lib.hid hb1
  clear hb1
  go_wp2_with fail
  refine (fresh_any _).mono ?_
  rintro e w2 ⟨rfl, hf2, hb2, hs2⟩
  have B2 := Lib.hid (B1.out.trans (hb2.mono B1.out.size))
  have F2 := Lib.hid hf2
  have hle := B1.out.size
  clear hb2 hf2 hs2 B1
  generalize w1.heap.size = g at *
  go_wp2_with fail
  refine (pow_at (n := (m : Int)) (by omega) e1.out ha (by omega) F2.out).mono ?_
  rintro e w3 ⟨rfl, hf3, ho3⟩
  have B3 := Lib.hid (B2.out.trans (ho3.below hle B2.out.size))
  have F3 := Lib.hid hf3
  clear hf3 ho3 B2 F2
  go_wp2_with fail
  refine (pow_at (n := (n : Int)) (by omega) e2.out ha (by omega) F3.out).mono ?_
  rintro e w4 ⟨rfl, hf4, ho4⟩
  have B4 := Lib.hid (B3.out.trans (ho4.below hle B3.out.size))
  have F4 := Lib.hid hf4
  clear hf4 ho4 B3 F3
  go_wp2_with fail
  refine (pow_at (n := (m : Int) + (n : Int)) (by omega) e3.out ha (by omega) F4.out).mono ?_
  rintro e w5 ⟨rfl, hf5, ho5⟩
  have B5 := Lib.hid (B4.out.trans (ho5.below hle B4.out.size))
  have F5 := Lib.hid hf5
  clear hf5 ho5 B4 F4
  go_wp2_with fail
  refine (mul_at e4.out hx hy F5.out).mono ?_
  rintro e w6 ⟨rfl, hf6, ho6⟩
  have B6 := Lib.hid (B5.out.trans (ho6.below hle B5.out.size))
  have F6 := Lib.hid hf6
  clear hf6 ho6 B5 F5
  go_wp2_with fail
  refine (pow_at (x := 2) (n := (m : Int)) (by omega) e5.out (by omega) (by omega) F6.out).mono ?_
  rintro e w7 ⟨rfl, hf7, ho7⟩
  have B7 := Lib.hid (B6.out.trans (ho7.below hle B6.out.size))
  have F7 := Lib.hid hf7
  clear hf7 ho7 B6 F6
  go_wp2_with fail
  refine (log_at hp0.out e6.out hp F7.out).mono ?_
  rintro e w8 ⟨rfl, hf8, ho8⟩
  have B8 := Lib.hid (B7.out.trans (ho8.below hle B7.out.size))
  have F8 := Lib.hid hf8
  clear hf8 ho8 B7 F7
  go_wp2_with fail
  refine (pow_at (x := 2) (n := (l : Int)) (by omega) e7.out (by omega) (by omega) F8.out).mono ?_
  rintro e w9 ⟨rfl, hf9, ho9⟩
  have B9 := Lib.hid (B8.out.trans (ho9.below hle B8.out.size))
  have F9 := Lib.hid hf9
  clear hf9 ho9 B8 F8
  go_wp2_with fail
  refine (pow_neg (n := -1 - (m : Int)) (by omega) ha (by omega) F9.out).mono ?_
  rintro e w10 ⟨rfl, hf10, ho10⟩
  have B10 := Lib.hid (B9.out.trans (ho10.below hle B9.out.size))
  have F10 := Lib.hid hf10
  clear hf10 ho10 B9 F9
  go_wp2_with fail
  go_ret
  exact ⟨rfl, B10.out⟩

theorem conv (x : Int) : ∃ m : Nat, (IntKind.u64.wrap x).tmod 100000 = (m : Int) ∧ m < 100000 := by
  refine ⟨(x % 18446744073709551616 % 100000).toNat, ?_, ?_⟩
  · rw [IntKind.wrap_u64, Int.tmod_eq_emod_of_nonneg (by omega)]; omega
  · omega

theorem walk (a0 : Int) (a1 : Int) (a2 : Int) (w : World) (w0 : (Lit.int .u8 a0).wf = true) (w1 : (Lit.int .i64 a1).wf = true) (w2 : (Lit.int .i64 a2).wf = true) :
    Calls Try.prog 5 #[.int .u8 a0, .int .i64 a1, .int .i64 a2] w fun e w' => e = .returned (.bool true) ∧ Below w.heap.size w w' := by
  obtain ⟨a, rfl, ha⟩ := u8_of_wf w0
  obtain ⟨m, c1, hm⟩ := conv a1
  obtain ⟨n, c2, hn⟩ := conv a2
  have hl : m % 255 < 255 := Nat.mod_lt _ (by omega)
  refine core a (M.gpow a m) (M.gpow a n) (M.gpow a (m + n)) (M.gpow 2 m) (m % 255) a1 a2 m n ha hm hn (M.gpow_lt _ _) (M.gpow_lt _ _) (M.gpow_lt _ _) hl w c1 c2 ?_ ?_ ?_ (M.gpow_add a m n ha) ?_ (M.lg_gpow_two m) ?_ (M.gpow_two_pos m) ?_ (by omega)
  · show M.gpow a (m : Int).toNat = _
    rw [Int.toNat_natCast]
  · show M.gpow a (n : Int).toNat = _
    rw [Int.toNat_natCast]
  · show M.gpow a ((m : Int) + (n : Int)).toNat = _
    rw [← Int.natCast_add, Int.toNat_natCast]
  · show M.gpow 2 (m : Int).toNat = _
    rw [Int.toNat_natCast]
  · show M.gpow 2 ((m % 255 : Nat) : Int).toNat = _
    rw [Int.toNat_natCast, M.gpow_two_mod]
  · rw [Int.tmod_eq_emod_of_nonneg (by omega)]; omega
end fieldPowers
end Go.Proofs.Ytmiedappfmlofaa
