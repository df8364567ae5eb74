/-
  The walk of 'FieldSquares': the square of a sum is the sum of the squares; each element has one root.
-/
import Derived.Test.YtmiedappfmlofaaFieldMul
import Derived.Test.YtmiedappfmlofaaFieldSums
import Derived.Laws.BitsLemmas
import Derived.OpenShut
namespace Go.Proofs.Ytmiedappfmlofaa
open Go.RowKit

theorem u8_of_wf {a : Int} (h : (Lit.int .u8 a).wf = true) : ∃ n : Nat, a = n ∧ n < 256 := by
  have hb := bounds_u8 h
  exact ⟨a.toNat, by omega, by omega⟩
theorem ofInt_i8 (a : Nat) (ha : a < 256) : (BitVec.ofInt 8 (a : Int)).toNat = a := by
  rw [BitVec.ofInt_natCast, BitVec.toNat_ofNat]; exact Nat.mod_eq_of_lt (by omega)
theorem u8_xor_nat (a b : Nat) (ha : a < 256) (hb : b < 256) : bits .xor .u8 (a : Int) (b : Int) = ((a ^^^ b : Nat) : Int) := by
  have hx := M.xor_lt ha hb
  show IntKind.u8.wrap ((BitVec.ofInt 8 (a : Int) ^^^ BitVec.ofInt 8 (b : Int)).toNat : Int) = _
  rw [BitVec.toNat_xor, ofInt_i8 a ha, ofInt_i8 b hb, IntKind.wrap_u8]
  omega

namespace fieldSquares
set_option maxRecDepth 100000 in
set_option maxHeartbeats 800000 in
theorem walk (a0 : Int) (a1 : Int) (w : World) (w0 : (Lit.int .u8 a0).wf = true) (w1 : (Lit.int .u8 a1).wf = true) :
    Calls Try.prog 9 #[.int .u8 a0, .int .u8 a1] w fun e w' => e = .returned (.bool true) ∧ Below w.heap.size w w' := by
  obtain ⟨a, rfl, ha⟩ := u8_of_wf w0
  obtain ⟨b, rfl, hb⟩ := u8_of_wf w1
  clear w0 w1
  have hab := M.xor_lt ha hb
  have x1 := u8_xor_nat a b ha hb
  have x2 := u8_xor_nat (M.gmul a a) (M.gmul b b) (M.gmul_lt _ _) (M.gmul_lt _ _)
  rw [← M.gmul_square ha hb] at x2
  generalize hc : a ^^^ b = c at *
  clear hc
  go_enter Try.func9, Try.ntmps9
  go_wp2_with fail
  refine (known_any _).mono ?_
  rintro e w1 ⟨rfl, hb1⟩
  have B1 := Lib.hid hb1
  clear hb1
  go_wp2_with fail
  refine (fresh_any _).mono ?_
  rintro e w2 ⟨rfl, hf2, hb2, hs2⟩
  have B2 := Lib.hid (B1.out.trans (hb2.mono B1.out.size))
  have F2 := Lib.hid hf2
  have hle := B1.out.size
  clear hb2 hf2 hs2 B1
  generalize w1.heap.size = g at *
  go_wp2_with fail
  refine (mul_some hab hab F2.out).mono ?_
  rintro e w3 ⟨rfl, hf3, ho3⟩
  have B3 := Lib.hid (B2.out.trans (ho3.below hle B2.out.size))
  have F3 := Lib.hid hf3
  clear hf3 ho3 B2 F2
  go_wp2_with fail
  refine (mul_some ha ha F3.out).mono ?_
  rintro e w4 ⟨rfl, hf4, ho4⟩
  have B4 := Lib.hid (B3.out.trans (ho4.below hle B3.out.size))
  have F4 := Lib.hid hf4
  clear hf4 ho4 B3 F3
  go_wp2_with fail
  refine (mul_some hb hb F4.out).mono ?_
  rintro e w5 ⟨rfl, hf5, ho5⟩
  have B5 := Lib.hid (B4.out.trans (ho5.below hle B4.out.size))
  have F5 := Lib.hid hf5
  clear hf5 ho5 B4 F4
  go_wp2_with fail
  clear x1 x2
  have hg := M.groot_lt a
  go_loopw [6, 7] (fun r x wr => ∃ k : Nat, k ≤ 256 ∧ x = .int .i64 k ∧ r = .int .i64 ((if M.groot a < k then 1 else 0 : Nat) : Int) ∧ Hid (Fld wr g) ∧ Hid (Below w.heap.size w wr)) (fun _ x _ => 256 - (intOf x).toNat)
  case atStart => exact ⟨0, by omega, rfl, rfl, F5, B5⟩
  case round =>
    obtain ⟨k, hk, rfl, rfl, F6, B6⟩ := hrel
    clear F5 B5
    by_cases hlt : k < 256
    · have hs := M.square_iff ha hlt
      by_cases hroot : k = M.groot a
      · have hq : ((M.gmul k k : Nat) : Int) = (a : Int) := by rw [hs.2 hroot]
        have e1 : (if M.groot a < k then 1 else 0) = 0 := if_neg (by omega)
        have e2 := Lib.hid (show (if M.groot a < k + 1 then 1 else 0) = 1 from if_pos (by omega))
        have e3 : (((M.gmul k k : Nat) : Int) == (a : Int)) = true := by rw [hq]; simp
        rw [e1]
        clear hs hroot hq e1
        go_wp2_with fail
        refine (mul_some hlt hlt F6.out).mono ?_
        rintro e w7 ⟨rfl, hf7, ho7⟩
        have B7 : Hid (Below w.heap.size w w7) := B6.out.trans (ho7.below hle B6.out.size)
        have F7 : Hid (Fld w7 g) := hf7
        clear hf7 ho7 B6 F6
        go_wp2_with fail
        go_roundw
        case rel => exact ⟨k + 1, by omega, by go_num, by rw [e2.out]; rfl, F7, B7⟩
        case measure => simp [intOf]; omega
      · have hq : ¬ M.gmul k k = a := fun h => hroot (hs.1 h)
        have e2 := Lib.hid (show (if M.groot a < k + 1 then 1 else 0) = (if M.groot a < k then 1 else 0) by
          by_cases h : M.groot a < k
          · rw [if_pos h, if_pos (by omega)]
          · rw [if_neg h, if_neg (by omega)])
        have e3 : (((M.gmul k k : Nat) : Int) == (a : Int)) = false := by simpa using fun h : (M.gmul k k : Int) = a => hq (by omega)
        clear hs hroot hq
        generalize (if M.groot a < k then 1 else 0) = c1 at *
        go_wp2_with fail
        refine (mul_some hlt hlt F6.out).mono ?_
        rintro e w7 ⟨rfl, hf7, ho7⟩
        have B7 : Hid (Below w.heap.size w w7) := B6.out.trans (ho7.below hle B6.out.size)
        have F7 : Hid (Fld w7 g) := hf7
        clear hf7 ho7 B6 F6
        go_wp2_with fail
        go_roundw
        case rel => exact ⟨k + 1, by omega, by go_num, by rw [e2.out], F7, B7⟩
        case measure => simp [intOf]; omega
    · obtain rfl : k = 256 := by omega
      rw [if_pos hg]
      go_wp2_with fail
      go_ret
      exact ⟨rfl, B6.out⟩
end fieldSquares
end Go.Proofs.Ytmiedappfmlofaa
