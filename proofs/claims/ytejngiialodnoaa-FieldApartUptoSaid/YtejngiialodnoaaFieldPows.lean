/-
  Plain arithmetic of the field of 256 elements: powers add up as their exponents do; the logarithm of a power of 2. No conditions beyond those that each theorem types.
-/
import Derived.Test.YtejngiialodnoaaFieldSums
namespace Go.Proofs.Ytejngiialodnoaa.M

theorem lg_two : lg 2 = 1 := by decide +kernel
theorem gpow_zero (a : Nat) : gpow a 0 = 1 := rfl
theorem gpow_of {a m : Nat} (ha : a ≠ 0) : gpow a m = pw (lg a * m) := by
  unfold gpow
  by_cases hm : m = 0
  · subst hm; rw [if_pos rfl, Nat.mul_zero, pw_zero]
  · rw [if_neg hm, if_neg ha, Nat.mul_mod_mod, pw_mod]
theorem gmul_pw (m n : Nat) : gmul (pw m) (pw n) = pw (m + n) := by
  have hm : m % 255 < 255 := Nat.mod_lt _ (by omega)
  have hn : n % 255 < 255 := Nat.mod_lt _ (by omega)
  rw [← pw_mod m, ← pw_mod n]
  have h1 := pw_pos hm
  have h2 := pw_pos hn
  rw [gmul, if_neg (by omega), lg_pw hm, lg_pw hn, ← Nat.add_mod, pw_mod]
theorem gpow_add (a m n : Nat) (ha : a < 256) : gmul (gpow a m) (gpow a n) = gpow a (m + n) := by
  by_cases h0 : a = 0
  · subst h0
    by_cases hm : m = 0
    · subst hm
      rw [gpow_zero, gmul_comm, gmul_one (gpow_lt _ _), Nat.zero_add]
    · have e1 : gpow 0 m = 0 := by rw [gpow, if_neg hm, if_pos rfl]
      have e2 : gpow 0 (m + n) = 0 := by rw [gpow, if_neg (by omega), if_pos rfl]
      rw [e1, e2, gmul_zero_left]
  · rw [gpow_of h0, gpow_of h0, gpow_of h0, gmul_pw, Nat.mul_add]
theorem gpow_two (m : Nat) : gpow 2 m = pw m := by rw [gpow_of (by omega), lg_two, Nat.one_mul]
theorem lg_gpow_two (m : Nat) : lg (gpow 2 m) = m % 255 := by
  rw [gpow_two, ← pw_mod]
  exact lg_pw (Nat.mod_lt _ (by omega))
theorem gpow_two_mod (m : Nat) : gpow 2 (m % 255) = gpow 2 m := by rw [gpow_two, gpow_two, pw_mod]
theorem gpow_two_pos (m : Nat) : gpow 2 m ≠ 0 := by
  have := pw_pos (Nat.mod_lt m (show 0 < 255 by omega))
  rw [gpow_two, ← pw_mod]
  omega
end Go.Proofs.Ytejngiialodnoaa.M
