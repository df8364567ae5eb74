/-
  Plain arithmetic of linear equations over the field of 256 elements: a matrix is a function of row and column, its last column the right sides; what exchanging rows and eliminating does to the solutions. Conditions: elements are below 256.
-/
import Derived.Test.YtoabhbmhjelplaaFieldSumsM
namespace Go.Proofs.Ytoabhbmhjelplaa.M

def xsum : Nat → (Nat → Nat) → Nat
  | 0, _ => 0
  | n + 1, f => xsum n f ^^^ f n
theorem xsum_congr {n : Nat} {f g : Nat → Nat} (h : ∀ j, j < n → f j = g j) : xsum n f = xsum n g := by
  induction n with
  | zero => rfl
  | succ n ih => rw [xsum, xsum, ih (fun j hj => h j (by omega)), h n (by omega)]
theorem xsum_lt {n : Nat} {f : Nat → Nat} (h : ∀ j, j < n → f j < 256) : xsum n f < 256 := by
  induction n with
  | zero => show 0 < 256; omega
  | succ n ih => exact xor_lt (ih (fun j hj => h j (by omega))) (h n (by omega))
theorem xsum_xor (n : Nat) (f g : Nat → Nat) : xsum n (fun j => f j ^^^ g j) = xsum n f ^^^ xsum n g := by
  induction n with
  | zero => exact (Nat.xor_self 0).symm
  | succ n ih => rw [xsum, xsum, xsum, ih, xor_four]
theorem xsum_mul {n : Nat} {f : Nat → Nat} {c : Nat} (hc : c < 256) (h : ∀ j, j < n → f j < 256) : xsum n (fun j => gmul c (f j)) = gmul c (xsum n f) := by
  induction n with
  | zero => exact (gmul_zero_right c).symm
  | succ n ih => rw [xsum, xsum, ih (fun j hj => h j (by omega)), gmul_xor hc (xsum_lt (fun j hj => h j (by omega))) (h n (by omega))]
theorem xsum_zero (n : Nat) (f : Nat → Nat) (h : ∀ j, j < n → f j = 0) : xsum n f = 0 := by
  induction n with
  | zero => rfl
  | succ n ih => rw [xsum, ih (fun j hj => h j (by omega)), h n (by omega)]; rfl
theorem xsum_one (n : Nat) (f : Nat → Nat) (k : Nat) (hk : k < n) (h : ∀ j, j < n → j ≠ k → f j = 0) : xsum n f = f k := by
  induction n with
  | zero => omega
  | succ n ih =>
    rw [xsum]
    by_cases e : k = n
    · subst e
      rw [xsum_zero _ _ (fun j hj => h j (by omega) (by omega)), Nat.zero_xor]
    · rw [ih (by omega) (fun j hj hne => h j (by omega) hne), h n (by omega) (fun e' => e e'.symm), Nat.xor_zero]
theorem xsum_two (n : Nat) (f : Nat → Nat) (i k : Nat) (hi : i < n) (hk : k < n) (hne : i ≠ k) (h : ∀ j, j < n → j ≠ i → j ≠ k → f j = 0) : xsum n f = f i ^^^ f k := by
  induction n with
  | zero => omega
  | succ n ih =>
    rw [xsum]
    by_cases e : k = n
    · subst e
      rw [xsum_one _ f i (by omega) (fun j hj hne' => h j (by omega) hne' (by omega))]
    · by_cases e' : i = n
      · subst e'
        rw [xsum_one _ f k (by omega) (fun j hj hne' => h j (by omega) (by omega) hne'), Nat.xor_comm]
      · rw [ih (by omega) (by omega) (fun j hj h1 h2 => h j (by omega) h1 h2), h n (by omega) (fun x => e' x.symm) (fun x => e x.symm), Nat.xor_zero]

/-- a row's value at z -/
def dot (n : Nat) (r z : Nat → Nat) : Nat := xsum n (fun j => gmul (r j) (z j))
/-- z answers all rows of m, its last place the right sides' factor -/
def Sol (n : Nat) (m : Nat → Nat → Nat) (z : Nat → Nat) : Prop := ∀ i, i < n → dot (n + 1) (m i) z = 0
set_option linter.unusedVariables false
def Small (n : Nat) (m : Nat → Nat → Nat) : Prop := ∀ i, i < n → ∀ j, j ≤ n → m i j < 256
def SmallV (n : Nat) (z : Nat → Nat) : Prop := ∀ j, j ≤ n → z j < 256

theorem dot_lt {n : Nat} {r z : Nat → Nat} : dot n r z < 256 := xsum_lt fun j _ => gmul_lt _ _
theorem dot_congr {n : Nat} {r r' z : Nat → Nat} (h : ∀ j, j < n → r j = r' j) : dot n r z = dot n r' z := xsum_congr fun j hj => by rw [h j hj]
theorem dot_mul {n : Nat} {r z : Nat → Nat} {c : Nat} (hc : c < 256) : dot n (fun j => gmul (r j) c) z = gmul c (dot n r z) := by
  unfold dot
  rw [← xsum_mul hc (fun j _ => gmul_lt _ _)]
  refine xsum_congr fun j _ => ?_
  show gmul (gmul (r j) c) (z j) = _
  rw [gmul_comm (r j) c, gmul_assoc]
theorem dot_add {n : Nat} {r s z : Nat → Nat} {c : Nat} (hc : c < 256) (hr : ∀ j, j < n → r j < 256) (hs : ∀ j, j < n → s j < 256) (hz : ∀ j, j < n → z j < 256) :
    dot n (fun j => r j ^^^ gmul c (s j)) z = dot n r z ^^^ gmul c (dot n s z) := by
  unfold dot
  rw [← xsum_mul hc (fun j _ => gmul_lt _ _), ← xsum_xor]
  exact xsum_congr fun j hj => by rw [gmul_xor_left (hr j hj) (gmul_lt _ _) (hz j hj), gmul_assoc]

/-! ### exchanging rows -/
def swapR (k p i : Nat) : Nat := if i = k then p else if i = p then k else i
theorem swapR_lt {k p i n : Nat} (hk : k < n) (hp : p < n) (hi : i < n) : swapR k p i < n := by
  unfold swapR
  split
  · exact hp
  · split
    · exact hk
    · exact hi
theorem swapR_swapR (k p i : Nat) : swapR k p (swapR k p i) = i := by
  unfold swapR
  by_cases h1 : i = k
  · subst h1
    rw [if_pos rfl]
    by_cases h2 : p = i
    · rw [if_pos h2, h2]
    · rw [if_neg h2, if_pos rfl]
  · rw [if_neg h1]
    by_cases h2 : i = p
    · subst h2
      rw [if_pos rfl, if_pos rfl]
    · rw [if_neg h2, if_neg h1, if_neg h2]
theorem sol_swap {n k p : Nat} (hk : k < n) (hp : p < n) (m : Nat → Nat → Nat) (z : Nat → Nat) : Sol n (fun i => m (swapR k p i)) z ↔ Sol n m z := by
  constructor
  · intro h i hi
    have h1 := h (swapR k p i) (swapR_lt hk hp hi)
    simp only [swapR_swapR] at h1
    exact h1
  · intro h i hi
    exact h _ (swapR_lt hk hp hi)

/-! ### eliminating -/
def elim (m : Nat → Nat → Nat) (k i j : Nat) : Nat :=
  if i = k then gmul (m k j) (ginv (m k k)) else m i j ^^^ gmul (m i k) (gmul (m k j) (ginv (m k k)))
theorem elim_small {n k : Nat} {m : Nat → Nat → Nat} (hk : k < n) (hm : Small n m) : Small n (elim m k) := by
  intro i hi j hj
  unfold elim
  split
  · exact gmul_lt _ _
  · exact xor_lt (hm i hi j hj) (gmul_lt _ _)
theorem gmul_eq_zero {a b : Nat} (h : gmul a b = 0) (ha : a ≠ 0) : b = 0 := by
  by_cases hb : b = 0
  · exact hb
  · exact absurd h (gmul_pos ha hb)
theorem sol_elim {n k : Nat} {m : Nat → Nat → Nat} {z : Nat → Nat} (hk : k < n) (hm : Small n m) (hz : SmallV n z) : Sol n (elim m k) z ↔ Sol n m z := by
  have hc := ginv_lt (m k k)
  have hrow : dot (n + 1) (elim m k k) z = gmul (ginv (m k k)) (dot (n + 1) (m k) z) := by
    rw [← dot_mul hc]
    exact dot_congr fun j _ => by unfold elim; rw [if_pos rfl]
  have hoth : ∀ i, i < n → i ≠ k → dot (n + 1) (elim m k i) z = dot (n + 1) (m i) z ^^^ gmul (m i k) (dot (n + 1) (elim m k k) z) := by
    intro i hi hne
    rw [← dot_add (hm i hi k (by omega)) (fun j hj => hm i hi j (by omega)) (fun j hj => elim_small hk hm k hk j (by omega)) (fun j hj => hz j (by omega))]
    exact dot_congr fun j _ => by unfold elim; rw [if_neg hne, if_pos rfl]
  constructor
  · intro h i hi
    have h0 : dot (n + 1) (m k) z = 0 := by
      have h1 := h k hk
      rw [hrow] at h1
      exact gmul_eq_zero h1 (ginv_pos _)
    by_cases e : i = k
    · rw [e]; exact h0
    · have h1 := h i hi
      rw [hoth i hi e, h k hk, gmul_zero_right, Nat.xor_zero] at h1
      exact h1
  · intro h i hi
    have h0 : dot (n + 1) (elim m k k) z = 0 := by rw [hrow, h k hk, gmul_zero_right]
    by_cases e : i = k
    · rw [e]; exact h0
    · rw [hoth i hi e, h i hi, h0, gmul_zero_right]; rfl

/-- the first k columns are those of a unit matrix -/
def Units (n : Nat) (m : Nat → Nat → Nat) (k : Nat) : Prop := ∀ j, j < k → ∀ i, i < n → m i j = if i = j then 1 else 0
theorem units_swap {n k p : Nat} {m : Nat → Nat → Nat} (hk : k < n) (hp : p < n) (hkp : k ≤ p) (h : Units n m k) : Units n (fun i => m (swapR k p i)) k := by
  intro j hj i hi
  show m (swapR k p i) j = _
  rw [h j hj _ (swapR_lt hk hp hi)]
  unfold swapR
  by_cases h1 : i = k
  · rw [if_pos h1, if_neg (by omega), if_neg (by omega)]
  · rw [if_neg h1]
    by_cases h2 : i = p
    · rw [if_pos h2, if_neg (by omega), if_neg (by omega)]
    · rw [if_neg h2]
theorem units_elim {n k : Nat} {m : Nat → Nat → Nat} (hk : k < n) (hm : Small n m) (h : Units n m k) (hp : m k k ≠ 0) : Units n (elim m k) (k + 1) := by
  have hkk := hm k hk k (by omega)
  have h1 : gmul (m k k) (ginv (m k k)) = 1 := gmul_ginv hkk hp
  intro j hj i hi
  unfold elim
  by_cases e : j = k
  · subst e
    rw [h1]
    by_cases e2 : i = j
    · rw [if_pos e2, if_pos e2]
    · rw [if_neg e2, if_neg e2, gmul_one (hm i hi j (by omega)), Nat.xor_self]
  · have hjk : m k j = 0 := by rw [h j (by omega) k hk, if_neg (by omega)]
    rw [hjk, gmul_zero_left, gmul_zero_right, Nat.xor_zero]
    by_cases e2 : i = k
    · rw [if_pos e2, if_neg (by omega)]
    · rw [if_neg e2, h j (by omega) i hi]

/-- at the end: the last column is the solution -/
theorem sol_done {n : Nat} {m : Nat → Nat → Nat} {z : Nat → Nat} (h : Units n m n) (hz : SmallV n z) : Sol n m z ↔ ∀ i, i < n → z i = gmul (m i n) (z n) := by
  have hd : ∀ i, i < n → dot (n + 1) (m i) z = z i ^^^ gmul (m i n) (z n) := by
    intro i hi
    show xsum n _ ^^^ gmul (m i n) (z n) = _
    rw [xsum_one n _ i hi (fun j hj hne => by rw [h j hj i hi, if_neg (fun e => hne e.symm), gmul_zero_left]), h i hi i hi, if_pos rfl, gmul_comm, gmul_one (hz i (by omega))]
  constructor
  · intro hs i hi
    have h1 := hs i hi
    rw [hd i hi] at h1
    have h2 : z i ^^^ gmul (m i n) (z n) ^^^ gmul (m i n) (z n) = 0 ^^^ gmul (m i n) (z n) := by rw [h1]
    rw [Nat.xor_assoc, Nat.xor_self, Nat.xor_zero, Nat.zero_xor] at h2
    exact h2
  · intro hs i hi
    rw [hd i hi, ← hs i hi, Nat.xor_self]

/-- no pivot: more than one solution, or none -/
def kern (m : Nat → Nat → Nat) (k j : Nat) : Nat := if j < k then m j k else if j = k then 1 else 0
theorem kern_sol {n k : Nat} {m : Nat → Nat → Nat} (hk : k < n) (hm : Small n m) (h : Units n m k) (hp : ∀ i, k ≤ i → i < n → m i k = 0) : Sol n m (kern m k) := by
  intro i hi
  by_cases e : i < k
  · unfold dot
    rw [xsum_two (n + 1) _ i k (by omega) (by omega) (by omega) (fun j hj h1 h2 => ?_)]
    · rw [h i e i hi, if_pos rfl]
      unfold kern
      rw [if_pos e, if_neg (by omega), if_pos rfl, gmul_comm 1, gmul_one (hm i hi k (by omega)), Nat.xor_self]
    · by_cases e2 : j < k
      · rw [h j e2 i hi, if_neg (fun x => h1 x.symm), gmul_zero_left]
      · unfold kern
        rw [if_neg e2, if_neg h2, gmul_zero_right]
  · apply xsum_zero
    intro j hj
    by_cases e2 : j < k
    · rw [h j e2 i hi, if_neg (by omega), gmul_zero_left]
    · by_cases e3 : j = k
      · subst e3
        rw [hp i (by omega) hi, gmul_zero_left]
      · unfold kern
        rw [if_neg e2, if_neg e3, gmul_zero_right]
theorem kern_small {n k : Nat} {m : Nat → Nat → Nat} (hk : k < n) (hm : Small n m) : SmallV n (kern m k) := by
  intro j hj
  unfold kern
  split
  · rename_i h
    exact hm j (by omega) k (by omega)
  · split <;> omega
end Go.Proofs.Ytoabhbmhjelplaa.M
