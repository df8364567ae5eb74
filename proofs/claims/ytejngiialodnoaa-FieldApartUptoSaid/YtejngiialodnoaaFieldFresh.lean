/-
  The law's own small calls: 'fresh' and 'known' by contracts. No conditions beyond those that each theorem types.
-/
import Derived.Test.YtejngiialodnoaaFieldMul
import Derived.Deep.QuietTactic
import Derived.BigQuiet
namespace Go.Proofs.Ytejngiialodnoaa
open Go.RowKit
set_option maxRecDepth 100000

set_option maxHeartbeats 400000 in
theorem log_via (rcv : Value) (b : Nat) (x : Nat) (hx : x < 256) (w : World) (Post : World → Prop) (hready : Ready rcv b w Post) :
    Calls Try.prog 17 #[rcv, .int .u8 x] w fun e w' => e = .returned (.tuple #[.int .i64 (if x = 0 then 0 else M.lg x : Nat), .int .i64 (if x = 0 then 1 else 0)]) ∧ (w = w' ∨ ∃ w2 n, w' = w2.drewN n ∧ Blk w2 b 58 (fcells 1 0 255) ∧ Post w2) := by
  have HREADY := Lib.hid hready
  clear hready
  by_cases h0 : x = 0
  · subst h0
    go_enter Try.func17, Try.ntmps17
    go_wp2_with fail
    go_ret2
    exact ⟨rfl, .inl rfl⟩
  have hxx : ((x : Int) == 0) = false := by simpa using h0
  rw [if_neg h0, if_neg h0]
  go_enter Try.func17, Try.ntmps17
  go_wp2_with fail
  refine HREADY.out.mono ?_
  rintro e w2 ⟨rfl, hb2, ho2⟩
  have HF := Lib.hid hb2
  have HO := Lib.hid ho2
  have c1 := full_lg hb2 x hx
  have p1 := M.lg_lt hx h0
  clear hb2 ho2 HREADY
  generalize hg : M.lg x = p at *
  have HG := Lib.hid hg
  clear hg
  go_wp2_with fail
  go_ret2
  exact ⟨by rw [HG.out]; rfl, .inr ⟨w2, 0, rfl, HF.out, HO.out⟩⟩


theorem log_some {b x : Nat} (hx : x < 256) {w : World} (hb : Fld w b) :
    Calls Try.prog 17 #[.pointer (some ⟨b, 0, none⟩), .int .u8 x] w fun e w' => e = .returned (.tuple #[.int .i64 (if x = 0 then 0 else M.lg x : Nat), .int .i64 (if x = 0 then 1 else 0)]) ∧ Fld w' b ∧ Only b w w' :=
  (log_via _ b x hx w _ (some_ready hb)).mono fun _ _ ⟨he, h⟩ => ⟨he, via_some hb h⟩

theorem log_at {b x r : Nat} (h0 : x ≠ 0) (hr : M.lg x = r) (hx : x < 256) {w : World} (hb : Fld w b) :
    Calls Try.prog 17 #[.pointer (some ⟨b, 0, none⟩), .int .u8 x] w fun e w' => e = .returned (.tuple #[.int .i64 (r : Nat), .int .i64 0]) ∧ Fld w' b ∧ Only b w w' := by
  have h := log_some hx hb
  rw [if_neg h0, if_neg h0, hr] at h
  exact h
theorem log_zero {b : Nat} {w : World} (hb : Fld w b) :
    Calls Try.prog 17 #[.pointer (some ⟨b, 0, none⟩), .int .u8 0] w fun e w' => e = .returned (.tuple #[.int .i64 0, .int .i64 1]) ∧ Fld w' b ∧ Only b w w' := log_some (x := 0) (by omega) hb

/-! ### the law's own small calls -/
set_option maxHeartbeats 400000 in
theorem fresh_any (w : World) : Calls Try.prog 12 #[] w fun e w' => e = .returned (.pointer (some ⟨w.heap.size, 0, none⟩)) ∧ Fld w' w.heap.size ∧ Below w.heap.size w w' ∧ w'.heap.size = w.heap.size + 1 := by
  have hz := build_field
  go_enter Try.func12, Try.ntmps12
  go_wp2_with fail
  go_ret
  exact ⟨rfl, .inl (Blk.new _ _ _), (Below.refl _ _).alloc (Nat.le_refl _) _, by simp⟩

theorem known_one : M.gmul 2 128 = 29 := by decide +kernel
theorem known_two : M.gmul 3 7 = 9 := by decide +kernel

set_option maxHeartbeats 400000 in
theorem known_any (w : World) : Calls Try.prog 11 #[] w fun e w' => e = .returned (.bool true) ∧ Below w.heap.size w w' := by
  have HW : Hid (Below w.heap.size w w) := Below.refl _ _
  go_enter Try.func11, Try.ntmps11
  go_wp2_with fail
  refine (fresh_any _).mono ?_
  rintro e w1 ⟨rfl, hf1, hb1, hs1⟩
  have HB1 := Lib.hid hb1
  have HF1 := Lib.hid hf1
  clear hb1 hf1 hs1
  go_wp2_with fail
  refine (mul_some (x := 2) (y := 128) (by omega) (by omega) HF1.out).mono ?_
  rintro e w2 ⟨rfl, hf2, ho2⟩
  have HB2 := Lib.hid (HB1.out.trans (ho2.below (Nat.le_refl _) HB1.out.size))
  clear hf2 ho2 HB1 HF1
  rw [known_one]
  go_wp2_with (go_at_call 23; go_in)
  refine (mul_none (x := 3) (y := 7) (by omega) (by omega) _).mono ?_
  rintro e w3 ⟨rfl, hb3⟩
  have HB3 := Lib.hid (HB2.out.trans (hb3.mono HB2.out.size))
  clear hb3 HB2
  rw [known_two]
  go_wp2_with fail
  go_ret
  exact ⟨rfl, HB3.out⟩
end Go.Proofs.Ytejngiialodnoaa
