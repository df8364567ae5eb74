/-
  The document's own answers for the field: 'Mul' bit by bit, 'Inv' and 'Log' by trying, 'Pow' by multiplying: each by a contract. Conditions: elements are bytes.
-/
import Derived.Test.YtoabhbmhjelplaaRows
import Derived.WalkKit
import Derived.Lib.Hide
import Derived.Test.YtoabhbmhjelplaaStrBM
import Derived.Test.YtoabhbmhjelplaaRackMemM
import Derived.Test.YtoabhbmhjelplaaFieldRefA
namespace Go.Proofs.Ytoabhbmhjelplaa
open Go.RowKit

def invV (a : Nat) : Nat := if a = 0 then 0 else M.ginv a
def logV (a : Nat) : Nat := if a = 0 then 0 else M.lg a
def errV (a : Nat) : Int := if a = 0 then 1 else 0
theorem invV_z {a : Nat} (h : a = 0) : invV a = 0 := if_pos h
theorem invV_n {a : Nat} (h : a ≠ 0) : invV a = M.ginv a := if_neg h
theorem logV_z {a : Nat} (h : a = 0) : logV a = 0 := if_pos h
theorem logV_n {a : Nat} (h : a ≠ 0) : logV a = M.lg a := if_neg h
theorem errV_z {a : Nat} (h : a = 0) : errV a = 1 := if_pos h
theorem errV_n {a : Nat} (h : a ≠ 0) : errV a = 0 := if_neg h

theorem inv_iff {a x : Nat} (ha : a < 256) (hx : x < 256) : M.gmul a x = 1 ↔ a ≠ 0 ∧ x = M.ginv a := by
  constructor
  · intro h
    have h0 : a ≠ 0 := by
      rintro rfl
      rw [M.gmul_zero_left] at h
      omega
    refine ⟨h0, ?_⟩
    have h1 := M.gmul_ginv ha h0
    have h2 : M.gmul (M.ginv a) (M.gmul a x) = M.gmul (M.ginv a) 1 := by rw [h]
    rw [M.gmul_assoc, M.gmul_comm (M.ginv a) a, h1, M.gmul_comm 1 x, M.gmul_one hx, M.gmul_one (M.ginv_lt a)] at h2
    exact h2
  · rintro ⟨h0, rfl⟩
    exact M.gmul_ginv ha h0

set_option maxRecDepth 100000 in
set_option maxHeartbeats 400000 in
theorem refinv_any (a : Nat) (ha : a < 256) (w : World) :
    Calls Try.prog 28 #[.int .u8 a] w fun e w' => e = .returned (.tuple #[.int .u8 (invV a : Nat), .int .i64 (errV a)]) ∧ w = w' := by
  go_enter Try.func28, Try.ntmps28
  go_wp2
  go_loop [4] (fun x => ∃ k : Nat, 1 ≤ k ∧ k ≤ 256 ∧ x = .int .i64 k ∧ Hid (a ≠ 0 → k ≤ M.ginv a)) (fun x => 256 - (intOf x).toNat)
  case atStart => exact ⟨1, by omega, by omega, rfl, fun _ => by have := M.ginv_pos a; omega⟩
  case round =>
    obtain ⟨k, hk1, hk, rfl, HK⟩ := hrel
    by_cases hlt : k < 256
    · have hs := inv_iff ha hlt
      have hcall := Lib.hid (refmul_any a k ha hlt)
      by_cases hq : M.gmul a k = 1
      · obtain ⟨h0, h1⟩ := hs.1 hq
        have e1 : (((M.gmul a k : Nat) : Int) == 1) = true := by rw [hq]; rfl
        have HF := Lib.hid h1
        have HV := Lib.hid (invV_n h0)
        have HE := Lib.hid (errV_n h0)
        clear hs hq h0 h1
        go_wp2_with fail
        refine (hcall.out _).mono ?_
        rintro e w' ⟨rfl, rfl⟩
        go_wp2_with fail
        go_ret2
        exact ⟨by rw [HV.out, HE.out, ← HF.out]; rfl, rfl⟩
      · have e1 : (((M.gmul a k : Nat) : Int) == 1) = false := by simpa using fun h : (M.gmul a k : Int) = 1 => hq (by omega)
        have HN : Hid (a ≠ 0 → k + 1 ≤ M.ginv a) := fun h0 => by
          have h1 := HK.out h0
          have h2 : k ≠ M.ginv a := fun h => hq (hs.2 ⟨h0, h⟩)
          omega
        clear hs hq HK
        go_wp2_with fail
        refine (hcall.out _).mono ?_
        rintro e w' ⟨rfl, rfl⟩
        go_wp2_with fail
        go_round
        case rel => exact ⟨k + 1, by omega, by omega, by go_num, HN⟩
        case measure => simp [intOf]; omega
    · obtain rfl : k = 256 := by omega
      have h00 : a = 0 := by
        by_cases h0 : a = 0
        · exact h0
        · have h1 := HK.out h0
          have h2 := M.ginv_lt a
          omega
      have HV := Lib.hid (invV_z h00)
      have HE := Lib.hid (errV_z h00)
      clear HK h00
      go_wp2_with fail
      go_ret2
      exact ⟨by rw [HV.out, HE.out]; rfl, rfl⟩
end Go.Proofs.Ytoabhbmhjelplaa
