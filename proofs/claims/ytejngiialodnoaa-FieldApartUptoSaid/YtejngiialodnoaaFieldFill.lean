/-
  '(*field.Field).fill': of a field whose tables are blank it makes one whose tables are full; nothing else is touched.
-/
import Derived.Test.YtejngiialodnoaaRows
import Derived.WalkKit
import Derived.Laws.BitsLemmas
import Derived.Lib.Hide
import Derived.Test.YtejngiialodnoaaFieldMem
namespace Go.Proofs.Ytejngiialodnoaa
open Go.RowKit
set_option maxRecDepth 100000

theorem ofInt_i64 (a : Nat) (ha : a < 9223372036854775808) : (BitVec.ofInt 64 (a : Int)).toNat = a := by
  rw [BitVec.ofInt_natCast, BitVec.toNat_ofNat]; exact Nat.mod_eq_of_lt (by omega)
theorem i64_xor_nat (a b : Nat) (ha : a < 9223372036854775808) (hb : b < 9223372036854775808) : bits .xor .i64 (a : Int) (b : Int) = ((a ^^^ b : Nat) : Int) := by
  have hx : a ^^^ b < 2 ^ 63 := Nat.xor_lt_two_pow (by omega) (by omega)
  show IntKind.i64.wrap ((BitVec.ofInt 64 (a : Int) ^^^ BitVec.ofInt 64 (b : Int)).toNat : Int) = _
  rw [BitVec.toNat_xor, ofInt_i64 a ha, ofInt_i64 b hb, IntKind.wrap_i64]
  omega

set_option maxRecDepth 100000 in
set_option maxHeartbeats 400000 in
theorem fill_any (b : Nat) (d s : Int) (w : World) (hb : Blk w b 58 (fcells d s 0)) :
    Calls Try.prog 32 #[.pointer (some ⟨b, 0, none⟩)] w fun e w' => e = .returned (.tuple #[]) ∧ Blk w' b 58 (fcells d s 255) ∧ Only b w w' := by
  go_enter Try.func32, Try.ntmps32
  go_wp2
  go_loopw [2, 4] (fun x i wr => ∃ k : Nat, k ≤ 255 ∧ i = .int .i64 k ∧ x = .int .i64 (M.pw k : Nat) ∧ Blk wr b 58 (fcells d s k) ∧ Only b w wr) (fun _ i _ => 255 - (intOf i).toNat)
  case atStart => exact ⟨0, by omega, rfl, rfl, hb, Only.refl _ _⟩
  case round =>
    obtain ⟨k, hk, rfl, rfl, hbk, hok⟩ := hrel
    by_cases hlt : k < 255
    · have hx := M.pw_lt hlt
      have hx1 := M.pw_pos hlt
      have c1 : wr.cell? ⟨b, 3 + k, none⟩ = some (.int .u8 0) := by rw [hbk.cell, fcells_pw _ _ _ _ hlt, if_neg (by omega)]; rfl
      have c2 : wr.cell? ⟨b, 258 + M.pw k, none⟩ = some (.int .u8 ((M.lgTo k (M.pw k) : Nat) : Int)) := by rw [hbk.cell, fcells_lg _ _ _ _ hx]
      have z1 : wr.frozen? ⟨b, 3 + k, none⟩ = false := hbk.frozen _
      have z2 : wr.frozen? ⟨b, 258 + M.pw k, none⟩ = false := hbk.frozen _
      have hb2 := (hbk.set_ (3 + k) (.int .u8 ((M.pw k : Nat) : Int))).set_ (258 + M.pw k) (.int .u8 ((k : Nat) : Int))
      rw [fcells_round d s k hlt] at hb2
      have HB := Lib.hid hb2
      have HO := Lib.hid ((hok.setCell (3 + k) (.int .u8 ((M.pw k : Nat) : Int))).setCell (258 + M.pw k) (.int .u8 ((k : Nat) : Int)))
      have HS := Lib.hid (M.pw_succ k)
      clear hbk hb hok hb2
      generalize M.lgTo k (M.pw k) = old at *
      generalize M.pw k = x at *
      have h0 : (0 : Int) ≤ (k : Int) := by omega
      have hxx : (x : Int) * 2 ≤ 1000 := by omega
      by_cases hbig : 127 < x
      · go_wp2
        go_roundw
        case rel =>
          refine ⟨k + 1, by omega, by go_num, ?_, HB.out, HO.out⟩
          rw [HS.out, M.xt, if_pos (by omega), ← i64_xor_nat _ _ (by omega) (by omega)]
          rfl
        case measure => simp [intOf]; omega
      · go_wp2
        go_roundw
        case rel =>
          refine ⟨k + 1, by omega, by go_num, ?_, HB.out, HO.out⟩
          rw [HS.out, M.xt, if_neg (by omega)]
          rfl
        case measure => simp [intOf]; omega
    · obtain rfl : k = 255 := by omega
      clear hb
      go_wp2
      go_end0
      exact ⟨rfl, hbk, hok⟩
end Go.Proofs.Ytejngiialodnoaa
