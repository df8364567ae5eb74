/-
  The document's answer for sums, as plain mathematics: primes, roots, the message with what stands behind. No conditions.
-/
import Derived.Test.YtnmieabcaaoofaaDoorShaMath
namespace Go.Proofs.YtnmieabcaaoofaaDoor.M
set_option linter.unusedVariables false

/-! ### primes -/
def plStep (p : Nat) (l : List Nat) : List Nat := if l.all (fun q => p % q != 0) then l ++ [p] else l
/-- the primes from 2 to 2 + k, k excluded -/
def plTo : Nat → List Nat
  | 0 => []
  | k + 1 => plStep (2 + k) (plTo k)
def primes64 : List Nat := [2, 3, 5, 7, 11, 13, 17, 19, 23, 29, 31, 37, 41, 43, 47, 53, 59, 61, 67, 71, 73, 79, 83, 89, 97, 101, 103, 107, 109, 113, 127, 131, 137, 139, 149, 151, 157, 163, 167, 173, 179, 181, 191, 193, 197, 199, 211, 223, 227, 229, 233, 239, 241, 251, 257, 263, 269, 271, 277, 281, 283, 293, 307, 311]
theorem pl_all : plTo 310 = primes64 := by decide +kernel
theorem plStep_prefix (p : Nat) (l : List Nat) : l <+: plStep p l := by
  unfold plStep
  split
  · exact List.prefix_append _ _
  · exact List.prefix_refl _
theorem plTo_prefix (k : Nat) : ∀ j, plTo k <+: plTo (k + j)
  | 0 => List.prefix_refl _
  | j + 1 => (plTo_prefix k j).trans (plStep_prefix _ _)
theorem plTo_two : ∀ k, ∀ q ∈ plTo k, 2 ≤ q
  | 0, q, h => by cases h
  | k + 1, q, h => by
    have h1 : q ∈ plStep (2 + k) (plTo k) := h
    unfold plStep at h1
    split at h1
    · rcases List.mem_append.1 h1 with h2 | h2
      · exact plTo_two k q h2
      · simp at h2; omega
    · exact plTo_two k q h1
theorem plTo_lt : ∀ k, ∀ q ∈ plTo k, q < 2 + k
  | 0, q, h => by cases h
  | k + 1, q, h => by
    have h1 : q ∈ plStep (2 + k) (plTo k) := h
    unfold plStep at h1
    split at h1
    · rcases List.mem_append.1 h1 with h2 | h2
      · have := plTo_lt k q h2; omega
      · simp at h2; omega
    · have := plTo_lt k q h1; omega
/-- fewer than 64 of them: not all have been looked at -/
theorem pl_short (k : Nat) (h : (plTo k).length < 64) : k < 310 := by
  rcases Nat.lt_or_ge k 310 with h1 | h1
  · exact h1
  · have h2 := (plTo_prefix 310 (k - 310)).length_le
    rw [show 310 + (k - 310) = k by omega, pl_all] at h2
    have : primes64.length = 64 := rfl
    omega
theorem pl_done (k : Nat) (hk : k ≤ 310) (h : 64 ≤ (plTo k).length) : plTo k = primes64 := by
  have h1 := plTo_prefix k (310 - k)
  rw [show k + (310 - k) = 310 by omega, pl_all] at h1
  exact h1.eq_of_length_le (by have : primes64.length = 64 := rfl; omega)

/-! ### roots -/
def squareB (x p : Nat) : Bool := decide (x * x / 18446744073709551616 < p) || (decide (x * x / 18446744073709551616 = p) && decide (x * x % 18446744073709551616 = 0))
def cubeT (x : Nat) : Nat := x * x / 18446744073709551616 * x + x * x % 18446744073709551616 * x / 18446744073709551616
def cubeB (x p : Nat) : Bool := decide (cubeT x < p * 4294967296) || (decide (cubeT x = p * 4294967296) && decide (x * x % 18446744073709551616 * x % 18446744073709551616 = 0))
def takes (p : Nat) (third : Bool) (k y : Nat) : Bool := if third then decide (k < 36) && cubeB y p else squareB y p
def rootStep (p : Nat) (third : Bool) (k x : Nat) : Nat := if takes p third k (x + 2 ^ k) then x + 2 ^ k else x
/-- behind j steps -/
def rootTo (p : Nat) (third : Bool) : Nat → Nat
  | 0 => 0
  | j + 1 => rootStep p third (37 - j) (rootTo p third j)
theorem rootTo_lt (p : Nat) (third : Bool) : ∀ j, j ≤ 38 → rootTo p third j + 2 ^ (38 - j) ≤ 2 ^ 38
  | 0, _ => by show 0 + _ ≤ _; omega
  | j + 1, h => by
    have ih := rootTo_lt p third j (by omega)
    have e : 2 ^ (38 - j) = 2 ^ (37 - j) + 2 ^ (37 - j) := by rw [show 38 - j = 37 - j + 1 by omega, Nat.pow_succ]; omega
    rw [show 38 - (j + 1) = 37 - j by omega]
    show rootStep p third (37 - j) (rootTo p third j) + _ ≤ _
    unfold rootStep
    generalize 2 ^ (37 - j) = c at *
    split <;> omega
/-- the same, reckoned out step by step -/
def rootF (p : Nat) (third : Bool) : List Nat → Nat → Nat
  | [], x => x
  | k :: ks, x => force (x + 2 ^ k) fun y => force x fun x => bif takes p third k y then rootF p third ks y else rootF p third ks x
theorem rootF_eq (p : Nat) (third : Bool) : ∀ (ks : List Nat) (x : Nat), rootF p third ks x = ks.foldl (fun x k => rootStep p third k x) x
  | [], x => rfl
  | k :: ks, x => by
    rw [rootF, force_eq, force_eq, List.foldl_cons, rootF_eq p third ks, rootF_eq p third ks]
    unfold rootStep
    cases takes p third k (x + 2 ^ k) <;> rfl
def steps38 : List Nat := (List.range 38).map fun j => 37 - j
theorem rootTo_fold (p : Nat) (third : Bool) : ∀ j, rootTo p third j = ((List.range j).map fun j => 37 - j).foldl (fun x k => rootStep p third k x) 0
  | 0 => rfl
  | j + 1 => by
    rw [List.range_succ, List.map_append, List.foldl_append, ← rootTo_fold p third j]
    rfl
def steps : List Nat := [37, 36, 35, 34, 33, 32, 31, 30, 29, 28, 27, 26, 25, 24, 23, 22, 21, 20, 19, 18, 17, 16, 15, 14, 13, 12, 11, 10, 9, 8, 7, 6, 5, 4, 3, 2, 1, 0]
theorem steps_are : ((List.range 38).map fun j => 37 - j) = steps := by decide +kernel
theorem rootTo_F (p : Nat) (third : Bool) : rootTo p third 38 = rootF p third steps 0 := by rw [rootTo_fold, steps_are, rootF_eq]
theorem roots_F : primes64.map (fun p => rootF p true steps 0 % 4294967296) = roots := by decide +kernel
theorem init_F : (primes64.take 8).map (fun p => rootF p false steps 0 % 4294967296) = [1779033703, 3144134277, 1013904242, 2773480762, 1359893119, 2600822924, 528734635, 1541459225] := by decide +kernel
theorem primes64_get (i : Nat) (h : i < 64) : primes64[i]? = some (primes64.getD i 0) := by
  have hl : primes64.length = 64 := rfl
  rw [List.getD_eq_getElem?_getD, List.getElem?_eq_getElem (by omega)]
  rfl
theorem root_rt (i : Nat) (h : i < 64) : rootTo (primes64.getD i 0) true 38 % 4294967296 = rt i := by
  unfold rt
  have hg := primes64_get i h
  generalize primes64.getD i 0 = p at *
  rw [← roots_F, List.getD_eq_getElem?_getD, List.getElem?_map, hg, rootTo_F, Option.map_some, Option.getD_some]
theorem root_init (i : Nat) (h : i < 8) : rootTo (primes64.getD i 0) false 38 % 4294967296 = init.get i := by
  have e : init.get i = [1779033703, 3144134277, 1013904242, 2773480762, 1359893119, 2600822924, 528734635, 1541459225].getD i 0 := by
    rcases i with _ | _ | _ | _ | _ | _ | _ | _ | i <;> first | rfl | omega
  have hg := primes64_get i (by omega)
  generalize primes64.getD i 0 = p at *
  rw [e, ← init_F, List.getD_eq_getElem?_getD, List.getElem?_map, List.getElem?_take_of_lt h, hg, rootTo_F, Option.map_some, Option.getD_some]

/-! ### turns, in 64 bits -/
theorem ror_wide (x n : Nat) (hx : x < 4294967296) (hn : n < 32) : ((x >>> n) ||| (x <<< (32 - n))) % 4294967296 = ror x n := by
  unfold ror
  have h1 : (x >>> n) < 4294967296 := Nat.lt_of_le_of_lt (shr_le x n) hx
  rw [show (4294967296 : Nat) = 2 ^ 32 from rfl, Nat.or_mod_two_pow, Nat.or_comm, Nat.mod_eq_of_lt (a := x >>> n) (by simpa using h1)]

/-! ### the message -/
def msgN (n : Nat) : Nat := n / 64 * 64 + restN n
def msg (n : Nat) (X : Nat → Nat) (j : Nat) : Nat := if j < n / 64 * 64 then X j else rest n X (j - n / 64 * 64)
theorem msgN_div (n : Nat) : msgN n / 64 = n / 64 + restN n / 64 := by
  unfold msgN restN
  split <;> omega
theorem sumS_msg (n : Nat) (X : Nat → Nat) : addB init (msg n X) (msgN n / 64) = sumS n X := by
  rw [msgN_div, addB_add]
  unfold sumS
  rw [addB_congr init (n / 64) (Y := X) fun j hj => by unfold msg; rw [if_pos (by omega)]]
  exact addB_congr _ _ fun j _ => by
    show msg n X (64 * (n / 64) + j) = _
    unfold msg
    rw [if_neg (by omega), show 64 * (n / 64) + j - n / 64 * 64 = j by omega]
end Go.Proofs.YtnmieabcaaoofaaDoor.M
