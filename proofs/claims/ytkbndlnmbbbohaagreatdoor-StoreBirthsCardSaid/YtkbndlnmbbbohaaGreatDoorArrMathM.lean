/-
  Plain arithmetic of linear equations over the field of 256 elements: a matrix is a function of row and column, its last column the right sides; what exchanging rows and eliminating does to the solutions. Conditions: elements are below 256.
-/
import Derived.Test.YtkbndlnmbbbohaaGreatDoorFieldSumsM
namespace Go.Proofs.YtkbndlnmbbbohaaGreatDoor.M
set_option maxRecDepth 100000

def xsum : Nat → (Nat → Nat) → Nat
  | 0, _ => 0
  | n + 1, f => xsum n f ^^^ f n
theorem xsum_congr {n : Nat} {f g : Nat → Nat} (h : ∀ j, j < n → f j = g j) : xsum n f = xsum n g := by
  induction n with
  | zero => rfl
  | succ n ih => rw [xsum, xsum, ih (fun j hj => h j (by omega)), h n (by omega)]
theorem xsum_lt {n : Nat} {f : Nat → Nat} (h : ∀ j, j < n → f j < 256) : xsum n f < 256 := by
  induction n with
  | zero => show 0 < 256; omega
  | succ n ih => exact xor_lt (ih (fun j hj => h j (by omega))) (h n (by omega))
theorem xsum_xor (n : Nat) (f g : Nat → Nat) : xsum n (fun j => f j ^^^ g j) = xsum n f ^^^ xsum n g := by
  induction n with
  | zero => exact (Nat.xor_self 0).symm
  | succ n ih => rw [xsum, xsum, xsum, ih, xor_four]
theorem xsum_mul {n : Nat} {f : Nat → Nat} {c : Nat} (hc : c < 256) (h : ∀ j, j < n → f j < 256) : xsum n (fun j => gmul c (f j)) = gmul c (xsum n f) := by
  induction n with
  | zero => exact (gmul_zero_right c).symm
  | succ n ih => rw [xsum, xsum, ih (fun j hj => h j (by omega)), gmul_xor hc (xsum_lt (fun j hj => h j (by omega))) (h n (by omega))]
theorem xsum_zero (n : Nat) (f : Nat → Nat) (h : ∀ j, j < n → f j = 0) : xsum n f = 0 := by
  induction n with
  | zero => rfl
  | succ n ih => rw [xsum, ih (fun j hj => h j (by omega)), h n (by omega)]; rfl
theorem xsum_one (n : Nat) (f : Nat → Nat) (k : Nat) (hk : k < n) (h : ∀ j, j < n → j ≠ k → f j = 0) : xsum n f = f k := by
  induction n with
  | zero => omega
  | succ n ih =>
    rw [xsum]
    by_cases e : k = n
    · subst e
      rw [xsum_zero _ _ (fun j hj => h j (by omega) (by omega)), Nat.zero_xor]
    · rw [ih (by omega) (fun j hj hne => h j (by omega) hne), h n (by omega) (fun e' => e e'.symm), Nat.xor_zero]
theorem xsum_two (n : Nat) (f : Nat → Nat) (i k : Nat) (hi : i < n) (hk : k < n) (hne : i ≠ k) (h : ∀ j, j < n → j ≠ i → j ≠ k → f j = 0) : xsum n f = f i ^^^ f k := by
  induction n with
  | zero => omega
  | succ n ih =>
    rw [xsum]
    by_cases e : k = n
    · subst e
      rw [xsum_one _ f i (by omega) (fun j hj hne' => h j (by omega) hne' (by omega))]
    · by_cases e' : i = n
      · subst e'
        rw [xsum_one _ f k (by omega) (fun j hj hne' => h j (by omega) (by omega) hne'), Nat.xor_comm]
      · rw [ih (by omega) (by omega) (fun j hj h1 h2 => h j (by omega) h1 h2), h n (by omega) (fun x => e' x.symm) (fun x => e x.symm), Nat.xor_zero]

/-- a row's value at z -/
def dot (n : Nat) (r z : Nat → Nat) : Nat := xsum n (fun j => gmul (r j) (z j))
/-- z answers all rows of m, its last place the right sides' factor -/
def Sol (n : Nat) (m : Nat → Nat → Nat) (z : Nat → Nat) : Prop := ∀ i, i < n → dot (n + 1) (m i) z = 0
set_option linter.unusedVariables false
def Small (n : Nat) (m : Nat → Nat → Nat) : Prop := ∀ i, i < n → ∀ j, j ≤ n → m i j < 256
def SmallV (n : Nat) (z : Nat → Nat) : Prop := ∀ j, j ≤ n → z j < 256

theorem dot_congr {n : Nat} {r r' z : Nat → Nat} (h : ∀ j, j < n → r j = r' j) : dot n r z = dot n r' z := xsum_congr fun j hj => by rw [h j hj]
theorem dot_mul {n : Nat} {r z : Nat → Nat} {c : Nat} (hc : c < 256) : dot n (fun j => gmul (r j) c) z = gmul c (dot n r z) := by
  unfold dot
  rw [← xsum_mul hc (fun j _ => gmul_lt _ _)]
  refine xsum_congr fun j _ => ?_
  show gmul (gmul (r j) c) (z j) = _
  rw [gmul_comm (r j) c, gmul_assoc]
theorem dot_add {n : Nat} {r s z : Nat → Nat} {c : Nat} (hc : c < 256) (hr : ∀ j, j < n → r j < 256) (hs : ∀ j, j < n → s j < 256) (hz : ∀ j, j < n → z j < 256) :
    dot n (fun j => r j ^^^ gmul c (s j)) z = dot n r z ^^^ gmul c (dot n s z) := by
  unfold dot
  rw [← xsum_mul hc (fun j _ => gmul_lt _ _), ← xsum_xor]
  exact xsum_congr fun j hj => by rw [gmul_xor_left (hr j hj) (gmul_lt _ _) (hz j hj), gmul_assoc]

/-! ### exchanging rows -/
def swapR (k p i : Nat) : Nat := if i = k then p else if i = p then k else i
theorem swapR_lt {k p i n : Nat} (hk : k < n) (hp : p < n) (hi : i < n) : swapR k p i < n := by
  unfold swapR
  split
  · exact hp
  · split
    · exact hk
    · exact hi
theorem swapR_swapR (k p i : Nat) : swapR k p (swapR k p i) = i := by
  unfold swapR
  by_cases h1 : i = k
  · subst h1
    rw [if_pos rfl]
    by_cases h2 : p = i
    · rw [if_pos h2, h2]
    · rw [if_neg h2, if_pos rfl]
  · rw [if_neg h1]
    by_cases h2 : i = p
    · subst h2
      rw [if_pos rfl, if_pos rfl]
    · rw [if_neg h2, if_neg h1, if_neg h2]
theorem sol_swap {n k p : Nat} (hk : k < n) (hp : p < n) (m : Nat → Nat → Nat) (z : Nat → Nat) : Sol n (fun i => m (swapR k p i)) z ↔ Sol n m z := by
  constructor
  · intro h i hi
    have h1 := h (swapR k p i) (swapR_lt hk hp hi)
    simp only [swapR_swapR] at h1
    exact h1
  · intro h i hi
    exact h _ (swapR_lt hk hp hi)

/-! ### eliminating -/
def elim (m : Nat → Nat → Nat) (k i j : Nat) : Nat :=
  if i = k then gmul (m k j) (ginv (m k k)) else m i j ^^^ gmul (m i k) (gmul (m k j) (ginv (m k k)))
theorem elim_small {n k : Nat} {m : Nat → Nat → Nat} (hk : k < n) (hm : Small n m) : Small n (elim m k) := by
  intro i hi j hj
  unfold elim
  split
  · exact gmul_lt _ _
  · exact xor_lt (hm i hi j hj) (gmul_lt _ _)
theorem gmul_eq_zero {a b : Nat} (h : gmul a b = 0) (ha : a ≠ 0) : b = 0 := by
  by_cases hb : b = 0
  · exact hb
  · exact absurd h (gmul_pos ha hb)
theorem sol_elim {n k : Nat} {m : Nat → Nat → Nat} {z : Nat → Nat} (hk : k < n) (hm : Small n m) (hz : SmallV n z) : Sol n (elim m k) z ↔ Sol n m z := by
  have hc := ginv_lt (m k k)
  have hrow : dot (n + 1) (elim m k k) z = gmul (ginv (m k k)) (dot (n + 1) (m k) z) := by
    rw [← dot_mul hc]
    exact dot_congr fun j _ => by unfold elim; rw [if_pos rfl]
  have hoth : ∀ i, i < n → i ≠ k → dot (n + 1) (elim m k i) z = dot (n + 1) (m i) z ^^^ gmul (m i k) (dot (n + 1) (elim m k k) z) := by
    intro i hi hne
    rw [← dot_add (hm i hi k (by omega)) (fun j hj => hm i hi j (by omega)) (fun j hj => elim_small hk hm k hk j (by omega)) (fun j hj => hz j (by omega))]
    exact dot_congr fun j _ => by unfold elim; rw [if_neg hne, if_pos rfl]
  constructor
  · intro h i hi
    have h0 : dot (n + 1) (m k) z = 0 := by
      have h1 := h k hk
      rw [hrow] at h1
      exact gmul_eq_zero h1 (ginv_pos _)
    by_cases e : i = k
    · rw [e]; exact h0
    · have h1 := h i hi
      rw [hoth i hi e, h k hk, gmul_zero_right, Nat.xor_zero] at h1
      exact h1
  · intro h i hi
    have h0 : dot (n + 1) (elim m k k) z = 0 := by rw [hrow, h k hk, gmul_zero_right]
    by_cases e : i = k
    · rw [e]; exact h0
    · rw [hoth i hi e, h i hi, h0, gmul_zero_right]; rfl

/-- the first k columns are those of a unit matrix -/
def Units (n : Nat) (m : Nat → Nat → Nat) (k : Nat) : Prop := ∀ j, j < k → ∀ i, i < n → m i j = if i = j then 1 else 0
theorem units_swap {n k p : Nat} {m : Nat → Nat → Nat} (hk : k < n) (hp : p < n) (hkp : k ≤ p) (h : Units n m k) : Units n (fun i => m (swapR k p i)) k := by
  intro j hj i hi
  show m (swapR k p i) j = _
  rw [h j hj _ (swapR_lt hk hp hi)]
  unfold swapR
  by_cases h1 : i = k
  · rw [if_pos h1, if_neg (by omega), if_neg (by omega)]
  · rw [if_neg h1]
    by_cases h2 : i = p
    · rw [if_pos h2, if_neg (by omega), if_neg (by omega)]
    · rw [if_neg h2]
theorem units_elim {n k : Nat} {m : Nat → Nat → Nat} (hk : k < n) (hm : Small n m) (h : Units n m k) (hp : m k k ≠ 0) : Units n (elim m k) (k + 1) := by
  have hkk := hm k hk k (by omega)
  have h1 : gmul (m k k) (ginv (m k k)) = 1 := gmul_ginv hkk hp
  intro j hj i hi
  unfold elim
  by_cases e : j = k
  · subst e
    rw [h1]
    by_cases e2 : i = j
    · rw [if_pos e2, if_pos e2]
    · rw [if_neg e2, if_neg e2, gmul_one (hm i hi j (by omega)), Nat.xor_self]
  · have hjk : m k j = 0 := by rw [h j (by omega) k hk, if_neg (by omega)]
    rw [hjk, gmul_zero_left, gmul_zero_right, Nat.xor_zero]
    by_cases e2 : i = k
    · rw [if_pos e2, if_neg (by omega)]
    · rw [if_neg e2, h j (by omega) i hi]

/-- at the end: the last column is the solution -/
theorem sol_done {n : Nat} {m : Nat → Nat → Nat} {z : Nat → Nat} (h : Units n m n) (hz : SmallV n z) : Sol n m z ↔ ∀ i, i < n → z i = gmul (m i n) (z n) := by
  have hd : ∀ i, i < n → dot (n + 1) (m i) z = z i ^^^ gmul (m i n) (z n) := by
    intro i hi
    show xsum n _ ^^^ gmul (m i n) (z n) = _
    rw [xsum_one n _ i hi (fun j hj hne => by rw [h j hj i hi, if_neg (fun e => hne e.symm), gmul_zero_left]), h i hi i hi, if_pos rfl, gmul_comm, gmul_one (hz i (by omega))]
  constructor
  · intro hs i hi
    have h1 := hs i hi
    rw [hd i hi] at h1
    have h2 : z i ^^^ gmul (m i n) (z n) ^^^ gmul (m i n) (z n) = 0 ^^^ gmul (m i n) (z n) := by rw [h1]
    rw [Nat.xor_assoc, Nat.xor_self, Nat.xor_zero, Nat.zero_xor] at h2
    exact h2
  · intro hs i hi
    rw [hd i hi, ← hs i hi, Nat.xor_self]

/-- no pivot: more than one solution, or none -/
def kern (m : Nat → Nat → Nat) (k j : Nat) : Nat := if j < k then m j k else if j = k then 1 else 0
theorem kern_sol {n k : Nat} {m : Nat → Nat → Nat} (hk : k < n) (hm : Small n m) (h : Units n m k) (hp : ∀ i, k ≤ i → i < n → m i k = 0) : Sol n m (kern m k) := by
  intro i hi
  by_cases e : i < k
  · unfold dot
    rw [xsum_two (n + 1) _ i k (by omega) (by omega) (by omega) (fun j hj h1 h2 => ?_)]
    · rw [h i e i hi, if_pos rfl]
      unfold kern
      rw [if_pos e, if_neg (by omega), if_pos rfl, gmul_comm 1, gmul_one (hm i hi k (by omega)), Nat.xor_self]
    · by_cases e2 : j < k
      · rw [h j e2 i hi, if_neg (fun x => h1 x.symm), gmul_zero_left]
      · unfold kern
        rw [if_neg e2, if_neg h2, gmul_zero_right]
  · apply xsum_zero
    intro j hj
    by_cases e2 : j < k
    · rw [h j e2 i hi, if_neg (by omega), gmul_zero_left]
    · by_cases e3 : j = k
      · subst e3
        rw [hp i (by omega) hi, gmul_zero_left]
      · unfold kern
        rw [if_neg e2, if_neg e3, gmul_zero_right]
theorem kern_small {n k : Nat} {m : Nat → Nat → Nat} (hk : k < n) (hm : Small n m) : SmallV n (kern m k) := by
  intro j hj
  unfold kern
  split
  · rename_i h
    exact hm j (by omega) k (by omega)
  · split <;> omega
end Go.Proofs.YtkbndlnmbbbohaaGreatDoor.M
namespace Go.Proofs.YtkbndlnmbbbohaaGreatDoor.M
set_option maxRecDepth 100000

theorem lg_two : lg 2 = 1 := by decide +kernel
theorem gpow_of {a m : Nat} (ha : a ≠ 0) : gpow a m = pw (lg a * m) := by
  unfold gpow
  by_cases hm : m = 0
  · subst hm; rw [if_pos rfl, Nat.mul_zero, pw_zero]
  · rw [if_neg hm, if_neg ha, Nat.mul_mod_mod, pw_mod]
theorem gpow_two (m : Nat) : gpow 2 m = pw m := by rw [gpow_of (by omega), lg_two, Nat.one_mul]
end Go.Proofs.YtkbndlnmbbbohaaGreatDoor.M
namespace Go.Proofs.YtkbndlnmbbbohaaGreatDoor.M
set_option maxRecDepth 100000

/-- byte j of a row T behind k bytes of c times X -/
def mixR (T X : Nat → Nat) (c k j : Nat) : Nat := if j < k then T j ^^^ gmul c (X j) else T j
/-- byte v of what parity j makes of k columns -/
def par (k j : Nat) (x : Nat → Nat → Nat) (v : Nat) : Nat := xsum k fun i => gmul (pw (i * j)) (x i v)
theorem par_lt (k j : Nat) (x : Nat → Nat → Nat) (v : Nat) : par k j x v < 256 := xsum_lt fun _ _ => gmul_lt _ _
theorem par_succ (k j : Nat) (x : Nat → Nat → Nat) (v : Nat) : par (k + 1) j x v = par k j x v ^^^ gmul (pw (k * j)) (x k v) := rfl
theorem pw_any_lt (m : Nat) : pw m < 256 := by
  rw [← pw_mod]; exact pw_lt (Nat.mod_lt _ (by omega))
end Go.Proofs.YtkbndlnmbbbohaaGreatDoor.M
namespace Go.Proofs.YtkbndlnmbbbohaaGreatDoor
open Go
set_option maxRecDepth 100000
set_option linter.unusedVariables false
namespace Arr
/-- the sectors of so many bytes -/
def secs (n : Nat) : Nat := (n + 127) / 128
/-- the rows of so many sectors -/
def rws (N d : Nat) : Nat := (d + (N - 3) - 1) / (N - 3)
def cost (N n : Nat) : Nat := secs n + 3 * rws N (secs n)
/-- the data sectors of a row -/
def kR (N d r : Nat) : Nat := min (N - 3) (d - r * (N - 3))
/-- a data sector: noughts behind the end -/
def secD (n : Nat) (X : Nat → Nat) (j v : Nat) : Nat := if j * 128 + v < n then X (j * 128 + v) else 0
/-- what the i-th cell of a block must hold -/
def cellX (N n : Nat) (X : Nat → Nat) (i v : Nat) : Nat :=
  if i % N < 3 then M.par (kR N (secs n) (i / N)) (i % N) (fun t => secD n X (i / N * (N - 3) + t)) v else secD n X (i / N * (N - 3) + (i % N - 3)) v
theorem secD_lt {n : Nat} {X : Nat → Nat} (hX : ∀ j, j < n → X j < 256) (j v : Nat) : secD n X j v < 256 := by
  unfold secD
  split
  · rename_i h; exact hX _ h
  · omega
theorem cellX_lt {N n : Nat} {X : Nat → Nat} (hX : ∀ j, j < n → X j < 256) (i v : Nat) : cellX N n X i v < 256 := by
  unfold cellX
  split
  · exact M.par_lt _ _ _ _
  · exact secD_lt hX _ _
theorem secs_le {n : Nat} (h : n ≤ 1024) : secs n ≤ 8 := by unfold secs; omega
theorem secs_pos {n : Nat} (h : 1 ≤ n) : 1 ≤ secs n := by unfold secs; omega
theorem secs_ge (n : Nat) : n ≤ secs n * 128 := by unfold secs; omega
theorem secs_last {n : Nat} (h : 1 ≤ n) : (secs n - 1) * 128 < n := by unfold secs; omega
section
variable {N d : Nat} (hN : 5 ≤ N) (hd : 1 ≤ d)
include hN hd
theorem rws_spec : 1 ≤ rws N d ∧ d ≤ rws N d * (N - 3) ∧ (rws N d - 1) * (N - 3) < d := by
  have h1 := Nat.div_add_mod (d + (N - 3) - 1) (N - 3)
  have h2 := Nat.mod_lt (d + (N - 3) - 1) (show N - 3 > 0 by omega)
  have e : rws N d = (d + (N - 3) - 1) / (N - 3) := rfl
  rw [← e] at h1
  generalize rws N d = q at *
  clear e
  cases q with
  | zero => rw [Nat.mul_zero] at h1; omega
  | succ q =>
    rw [Nat.mul_succ, Nat.mul_comm] at h1
    rw [Nat.add_sub_cancel, Nat.succ_mul]
    omega
theorem rws_le : rws N d ≤ d := by
  obtain ⟨h1, _, h3⟩ := rws_spec hN hd
  generalize rws N d = q at *
  have : (q - 1) * 1 ≤ (q - 1) * (N - 3) := Nat.mul_le_mul_left _ (by omega)
  omega
theorem row_more {r : Nat} : r < rws N d ↔ r * (N - 3) < d := by
  obtain ⟨h1, h2, h3⟩ := rws_spec hN hd
  generalize rws N d = q at *
  constructor
  · intro h
    have : r * (N - 3) ≤ (q - 1) * (N - 3) := Nat.mul_le_mul_right _ (by omega)
    omega
  · intro h
    rcases Nat.lt_or_ge r q with h4 | h4
    · exact h4
    · have : q * (N - 3) ≤ r * (N - 3) := Nat.mul_le_mul_right _ h4
      omega
omit hd in
theorem row_at (r : Nat) : r * N = r * (N - 3) + 3 * r := by
  have h : r * N = r * ((N - 3) + 3) := by rw [show (N - 3) + 3 = N by omega]
  rw [h, Nat.mul_add]
  omega
/-- a row's cells -/
theorem row_cells {r : Nat} (hr : r < rws N d) : 1 ≤ kR N d r ∧ kR N d r ≤ N - 3 ∧ kR N d r + 3 = min N (d + 3 * rws N d - r * N) ∧ r * N + (kR N d r + 3) ≤ d + 3 * rws N d ∧ r * (N - 3) + kR N d r ≤ d := by
  have h0 := (row_more hN hd).1 hr
  obtain ⟨h1, h2, h3⟩ := rws_spec hN hd
  have h4 := row_at hN r
  unfold kR
  generalize rws N d = q at *
  rcases Nat.lt_or_ge (r + 1) q with h5 | h5
  · have h6 : (r + 1) * (N - 3) ≤ (q - 1) * (N - 3) := Nat.mul_le_mul_right _ (by omega)
    rw [Nat.succ_mul] at h6
    generalize r * (N - 3) = x at *
    generalize (q - 1) * (N - 3) = y at *
    generalize q * (N - 3) = z at *
    omega
  · obtain rfl : q = r + 1 := by omega
    rw [Nat.succ_mul] at h2
    generalize r * (N - 3) = x at *
    generalize (r + 1 - 1) * (N - 3) = y at *
    omega
/-- behind a row -/
theorem row_next {r : Nat} (hr : r < rws N d) : (if r + 1 < rws N d then kR N d r = N - 3 else (r * N + (kR N d r + 3) = d + 3 * rws N d ∧ r * (N - 3) + kR N d r = d)) := by
  have h0 := (row_more hN hd).1 hr
  obtain ⟨h1, h2, h3⟩ := rws_spec hN hd
  have h4 := row_at hN r
  unfold kR
  generalize rws N d = q at *
  rcases Nat.lt_or_ge (r + 1) q with h5 | h5
  · rw [if_pos h5]
    have h6 : (r + 1) * (N - 3) ≤ (q - 1) * (N - 3) := Nat.mul_le_mul_right _ (by omega)
    rw [Nat.succ_mul] at h6
    generalize r * (N - 3) = x at *
    generalize (q - 1) * (N - 3) = y at *
    generalize q * (N - 3) = z at *
    omega
  · rw [if_neg (by omega)]
    obtain rfl : q = r + 1 := by omega
    rw [Nat.succ_mul] at h2
    generalize r * (N - 3) = x at *
    generalize (r + 1 - 1) * (N - 3) = y at *
    omega
end
section
variable {N : Nat}
theorem cell_row {r p : Nat} (hp : p < N) : (r * N + p) / N = r ∧ (r * N + p) % N = p := by
  have h0 : 0 < N := by omega
  constructor
  · rw [Nat.mul_comm, Nat.mul_add_div h0, Nat.div_eq_of_lt hp, Nat.add_zero]
  · rw [Nat.mul_comm, Nat.mul_add_mod, Nat.mod_eq_of_lt hp]
theorem cellX_par (n : Nat) (X : Nat → Nat) {r p : Nat} (v : Nat) (hN : 3 ≤ N) (hp : p < 3) : cellX N n X (r * N + p) v = M.par (kR N (secs n) r) p (fun t => secD n X (r * (N - 3) + t)) v := by
  obtain ⟨h1, h2⟩ := cell_row (N := N) (r := r) (p := p) (by omega)
  unfold cellX
  rw [h1, h2, if_pos hp]
theorem cellX_data (n : Nat) (X : Nat → Nat) {r t : Nat} (v : Nat) (ht : t + 3 < N) : cellX N n X (r * N + 3 + t) v = secD n X (r * (N - 3) + t) v := by
  obtain ⟨h1, h2⟩ := cell_row (N := N) (r := r) (p := 3 + t) (by omega)
  unfold cellX
  rw [Nat.add_assoc, h1, h2, if_neg (by omega), show 3 + t - 3 = t by omega]
end
end Arr
end Go.Proofs.YtkbndlnmbbbohaaGreatDoor
