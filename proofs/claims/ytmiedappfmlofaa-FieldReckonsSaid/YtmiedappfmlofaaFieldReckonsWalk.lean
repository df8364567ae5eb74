/-
  The walk of 'FieldReckons': the field's calls answer as the document's do, the first time and later.
-/
import Derived.Test.YtmiedappfmlofaaFieldMul
import Derived.Test.YtmiedappfmlofaaFieldRef
namespace Go.Proofs.Ytmiedappfmlofaa
open Go.RowKit

theorem Fld.only {w w' : World} {b g : Nat} (h : Fld w b) (ho : Only g w w') (hne : b ≠ g) : Fld w' b := by
  rcases h with h | h
  · exact .inl (ho.blk h hne)
  · exact .inr (ho.blk h hne)

set_option linter.unusedVariables false
namespace fieldReckons
def errP (n : Int) : Int := if n < 0 then 1 else 0
theorem inv_v {b x : Nat} (hx : x < 256) {w : World} (hb : Fld w b) :
    Calls Try.prog 13 #[.pointer (some ⟨b, 0, none⟩), .int .u8 x] w fun e w' => e = .returned (.tuple #[.int .u8 (invV x : Nat), .int .i64 (errV x)]) ∧ Fld w' b ∧ Only b w w' := inv_some hx hb
theorem pow_v {b x : Nat} {n : Int} (hx : x < 256) (hn : -9223372036854775808 ≤ n ∧ n ≤ 9223372036854775807) {w : World} (hb : Fld w b) :
    Calls Try.prog 15 #[.pointer (some ⟨b, 0, none⟩), .int .u8 x, .int .i64 n] w fun e w' => e = .returned (.tuple #[.int .u8 (powR x n : Nat), .int .i64 (errP n)]) ∧ Fld w' b ∧ Only b w w' := pow_some hx hn hb
theorem log_v {b x : Nat} (hx : x < 256) {w : World} (hb : Fld w b) :
    Calls Try.prog 17 #[.pointer (some ⟨b, 0, none⟩), .int .u8 x] w fun e w' => e = .returned (.tuple #[.int .i64 (logV x : Nat), .int .i64 (errV x)]) ∧ Fld w' b ∧ Only b w w' := log_some hx hb
theorem refpow_v {a : Nat} {n : Int} (ha : a < 256) (hn : -9223372036854775808 ≤ n ∧ n ≤ 9223372036854775807) (w : World) :
    Calls Try.prog 16 #[.int .u8 a, .int .i64 n] w fun e w' => e = .returned (.tuple #[.int .u8 (powR a n : Nat), .int .i64 (errP n)]) ∧ w = w' := refpow_any a n ha hn w

set_option maxRecDepth 100000 in
set_option maxHeartbeats 1600000 in
theorem core (a b p iv lv pv : Nat) (er ep n : Int) (ha : a < 256) (hb : b < 256) (hn : Hid (-9223372036854775808 ≤ n ∧ n ≤ 9223372036854775807)) (w : World)
    (e1 : Hid (M.gmul a b = p)) (e2 : Hid (M.gmul b a = p)) (e3 : Hid (invV a = iv)) (e4 : Hid (errV a = er)) (e5 : Hid (powR a n = pv)) (e6 : Hid (errP n = ep)) (e7 : Hid (logV a = lv)) :
    Calls Try.prog 3 #[.int .u8 a, .int .u8 b, .int .i64 n] w fun e w' => e = .returned (.bool true) ∧ Below w.heap.size w w' := by
  go_enter Try.func3, Try.ntmps3
  go_wp2_with fail
  refine (known_any _).mono ?_
  rintro e w1 ⟨rfl, hb1⟩
  have B1 := Lib.hid hb1
  clear hb1
  go_wp2_with fail
  refine (fresh_any _).mono ?_
  rintro e w2 ⟨rfl, hf2, hb2, hs2⟩
  have B2 := Lib.hid (B1.out.trans (hb2.mono B1.out.size))
  have F2 := Lib.hid hf2
  have hle := B1.out.size
  have hlt := Lib.hid hf2.lt
  clear hb2 hf2 hs2 B1
  generalize w1.heap.size = g at *
  go_wp2_with fail
  refine (inv_v ha F2.out).mono ?_
  rintro e w3 ⟨rfl, hf3, ho3⟩
  have B3 := Lib.hid (B2.out.trans (ho3.below hle B2.out.size))
  have F3 := Lib.hid hf3
  clear hf3 ho3 B2 F2
  rw [e3.out, e4.out]
  go_wp2_with fail
  refine (refinv_any a ha _).mono ?_
  rintro e w' ⟨rfl, rfl⟩
  rw [e3.out, e4.out]
  go_wp2_with fail
  refine (pow_v ha hn.out F3.out).mono ?_
  rintro e w4 ⟨rfl, hf4, ho4⟩
  have B4 := Lib.hid (B3.out.trans (ho4.below hle B3.out.size))
  have F4 := Lib.hid hf4
  clear hf4 ho4 B3 F3
  rw [e5.out, e6.out]
  go_wp2_with fail
  refine (refpow_v ha hn.out _).mono ?_
  rintro e w' ⟨rfl, rfl⟩
  rw [e5.out, e6.out]
  go_wp2_with fail
  refine (fresh_any _).mono ?_
  rintro e w5 ⟨rfl, hf5, hb5, hs5⟩
  have hgs5 : g < w4.heap.size := F4.out.lt
  have B5 := Lib.hid (B4.out.trans (hb5.mono B4.out.size))
  have F5 := Lib.hid (F4.out.below hb5 hgs5)
  have G5 := Lib.hid hf5
  have hge5 := B4.out.size
  clear hb5 hf5 hs5 B4 F4
  generalize w4.heap.size = g5 at *
  go_wp2_with fail
  refine (log_v ha G5.out).mono ?_
  rintro e w6 ⟨rfl, hf6, ho6⟩
  have B6 := Lib.hid (B5.out.trans (ho6.below hge5 B5.out.size))
  have F6 := Lib.hid (F5.out.only ho6 (by omega))
  clear hf6 ho6 B5 F5 G5
  rw [e7.out, e4.out]
  go_wp2_with fail
  refine (reflog_any a ha _).mono ?_
  rintro e w' ⟨rfl, rfl⟩
  rw [e7.out, e4.out]
  go_wp2_with fail
  refine (fresh_any _).mono ?_
  rintro e w7 ⟨rfl, hf7, hb7, hs7⟩
  have hgs7 : g < w6.heap.size := F6.out.lt
  have B7 := Lib.hid (B6.out.trans (hb7.mono B6.out.size))
  have F7 := Lib.hid (F6.out.below hb7 hgs7)
  have G7 := Lib.hid hf7
  have hge7 := B6.out.size
  clear hb7 hf7 hs7 B6 F6
  generalize w6.heap.size = g7 at *
  go_wp2_with fail
  refine (mul_some ha hb G7.out).mono ?_
  rintro e w8 ⟨rfl, hf8, ho8⟩
  have B8 := Lib.hid (B7.out.trans (ho8.below hge7 B7.out.size))
  have F8 := Lib.hid (F7.out.only ho8 (by omega))
  clear hf8 ho8 B7 F7 G7
  rw [e1.out]
  go_wp2_with fail
  refine (refmul_any a b ha hb _).mono ?_
  rintro e w' ⟨rfl, rfl⟩
  rw [e1.out]
  go_wp2_with fail
  refine (mul_some hb ha F8.out).mono ?_
  rintro e w9 ⟨rfl, hf9, ho9⟩
  have B9 := Lib.hid (B8.out.trans (ho9.below hle B8.out.size))
  have F9 := Lib.hid hf9
  clear hf9 ho9 B8 F8
  rw [e2.out]
  go_wp2_with fail
  refine (refmul_any a b ha hb _).mono ?_
  rintro e w' ⟨rfl, rfl⟩
  rw [e1.out]
  go_wp2_with fail
  go_ret
  exact ⟨rfl, B9.out⟩

theorem walk (a0 : Int) (a1 : Int) (a2 : Int) (w : World) (w0 : (Lit.int .u8 a0).wf = true) (w1 : (Lit.int .u8 a1).wf = true) (w2 : (Lit.int .i64 a2).wf = true) :
    Calls Try.prog 3 #[.int .u8 a0, .int .u8 a1, .int .i64 a2] w fun e w' => e = .returned (.bool true) ∧ Below w.heap.size w w' := by
  obtain ⟨a, rfl, ha⟩ := u8_of_wf w0
  obtain ⟨b, rfl, hb⟩ := u8_of_wf w1
  exact core a b _ _ _ _ _ _ a2 ha hb (bounds_i64 w2) w rfl (M.gmul_comm b a) rfl rfl rfl rfl rfl
end fieldReckons
end Go.Proofs.Ytmiedappfmlofaa
