/-
  Plain arithmetic of the field of 256 elements, with no program in sight: powers of 2, logarithms, the product by tables, the product bit by bit, and the laws that hold among them. No conditions beyond those that each theorem types.
-/
namespace Go.Proofs.Ytejngiialodnoaa.M

def xt (x : Nat) : Nat := if 255 < x * 2 then (x * 2) ^^^ 285 else x * 2
/-- so many doublings -/
def iter : Nat → Nat → Nat
  | 0, x => x
  | k + 1, x => iter k (xt x)
def pw (n : Nat) : Nat := iter n 1
def lgGo : Nat → Nat → Nat → Nat → Nat → Nat
  | 0, _, _, acc, _ => acc
  | k + 1, n, x, acc, v => lgGo k (n + 1) (xt x) (if v = x then n else acc) v
/-- the logarithms' table behind k rounds -/
def lgTo (k v : Nat) : Nat := lgGo k 0 1 0 v
def lg (v : Nat) : Nat := lgTo 255 v

theorem iter_succ (k x : Nat) : iter (k + 1) x = xt (iter k x) := by
  induction k generalizing x with
  | zero => rfl
  | succ k ih => rw [iter, ih (xt x)]; rfl
theorem pw_zero : pw 0 = 1 := rfl
theorem pw_succ (k : Nat) : pw (k + 1) = xt (pw k) := iter_succ k 1
theorem lgGo_succ (k n x acc v : Nat) : lgGo (k + 1) n x acc v = if v = iter k x then n + k else lgGo k n x acc v := by
  induction k generalizing n x acc with
  | zero => show (if v = x then n else acc) = if v = x then n + 0 else acc; rfl
  | succ k ih =>
    have h := ih (n + 1) (xt x) (if v = x then n else acc)
    rw [lgGo, h]
    have e : n + 1 + k = n + (k + 1) := by omega
    rw [e]
    rfl
theorem lgTo_succ (k v : Nat) : lgTo (k + 1) v = if v = pw k then k else lgTo k v := by
  unfold lgTo pw; rw [lgGo_succ, Nat.zero_add]
theorem lgTo_zero (v : Nat) : lgTo 0 v = 0 := rfl

theorem pw_tab : ∀ n, n < 255 → (1 ≤ pw n ∧ pw n < 256 ∧ lg (pw n) = n) := by decide +kernel
theorem lg_tab : ∀ v, v < 256 → (v = 0 ∨ (lg v < 255 ∧ pw (lg v) = v)) := by decide +kernel
theorem pw_255 : pw 255 = 1 := by decide +kernel

theorem pw_pos {n : Nat} (h : n < 255) : 1 ≤ pw n := (pw_tab n h).1
theorem pw_lt {n : Nat} (h : n < 255) : pw n < 256 := (pw_tab n h).2.1
theorem lg_pw {n : Nat} (h : n < 255) : lg (pw n) = n := (pw_tab n h).2.2
theorem lg_lt {v : Nat} (h : v < 256) (h0 : v ≠ 0) : lg v < 255 := by
  rcases lg_tab v h with h1 | h1
  · exact absurd h1 h0
  · exact h1.1
theorem pw_lg {v : Nat} (h : v < 256) (h0 : v ≠ 0) : pw (lg v) = v := by
  rcases lg_tab v h with h1 | h1
  · exact absurd h1 h0
  · exact h1.2
theorem lgTo_lt (k : Nat) (hk : k ≤ 255) (v : Nat) : lgTo k v < 255 := by
  induction k with
  | zero => rw [lgTo_zero]; omega
  | succ k ih =>
    rw [lgTo_succ]
    split
    · omega
    · exact ih (by omega)

/-- the product by tables -/
def gmul (a b : Nat) : Nat := if a = 0 ∨ b = 0 then 0 else pw ((lg a + lg b) % 255)
/-- the inverse -/
def ginv (a : Nat) : Nat := pw ((255 - lg a) % 255)
/-- a power -/
def gpow (a n : Nat) : Nat := if n = 0 then 1 else if a = 0 then 0 else pw (lg a * (n % 255) % 255)

theorem gmul_zero_left (b : Nat) : gmul 0 b = 0 := by simp [gmul]
theorem gmul_zero_right (a : Nat) : gmul a 0 = 0 := by simp [gmul]
theorem gmul_comm (a b : Nat) : gmul a b = gmul b a := by
  unfold gmul
  rw [Nat.add_comm]
  by_cases h : a = 0 ∨ b = 0
  · rw [if_pos h, if_pos (Or.comm.1 h)]
  · rw [if_neg h, if_neg (fun h' => h (Or.comm.1 h'))]
theorem gmul_lt (a b : Nat) : gmul a b < 256 := by
  unfold gmul
  split
  · omega
  · exact pw_lt (Nat.mod_lt _ (by omega))
theorem gmul_pos {a b : Nat} (ha : a ≠ 0) (hb : b ≠ 0) : gmul a b ≠ 0 := by
  unfold gmul
  rw [if_neg (by omega)]
  have := pw_pos (Nat.mod_lt (lg a + lg b) (show 0 < 255 by omega))
  omega
theorem lg_gmul {a b : Nat} (ha : a ≠ 0) (hb : b ≠ 0) : lg (gmul a b) = (lg a + lg b) % 255 := by
  unfold gmul
  rw [if_neg (by omega)]
  exact lg_pw (Nat.mod_lt _ (by omega))
theorem gmul_assoc (a b c : Nat) : gmul a (gmul b c) = gmul (gmul a b) c := by
  by_cases ha : a = 0
  · subst ha; simp [gmul_zero_left]
  by_cases hb : b = 0
  · subst hb; simp [gmul_zero_left, gmul_zero_right]
  by_cases hc : c = 0
  · subst hc; simp [gmul_zero_right]
  have h1 := gmul_pos hb hc
  have h2 := gmul_pos ha hb
  rw [gmul, if_neg (by omega), lg_gmul hb hc, gmul, if_neg (by omega), lg_gmul ha hb]
  have e : ∀ x y z : Nat, (x + (y + z) % 255) % 255 = ((x + y) % 255 + z) % 255 := fun x y z => by omega
  rw [e]
theorem lg_one : lg 1 = 0 := by decide +kernel
theorem gmul_one {a : Nat} (h : a < 256) : gmul a 1 = a := by
  by_cases ha : a = 0
  · subst ha; exact gmul_zero_left _
  · have h1 := lg_lt h ha
    rw [gmul, if_neg (by omega), lg_one, Nat.add_zero, Nat.mod_eq_of_lt h1, pw_lg h ha]
theorem gmul_ginv {a : Nat} (h : a < 256) (ha : a ≠ 0) : gmul a (ginv a) = 1 := by
  have h1 := lg_lt h ha
  have h3 := Nat.mod_lt (255 - lg a) (show 0 < 255 by omega)
  have hp := pw_pos h3
  unfold ginv
  rw [gmul, if_neg (by omega), lg_pw h3]
  have e : ∀ x : Nat, x < 255 → (x + (255 - x) % 255) % 255 = 0 := fun x hx => by omega
  rw [e _ h1]
  exact pw_zero
theorem ginv_lt (a : Nat) : ginv a < 256 := pw_lt (Nat.mod_lt _ (by omega))
theorem ginv_pos (a : Nat) : ginv a ≠ 0 := by
  have := pw_pos (Nat.mod_lt (255 - lg a) (show 0 < 255 by omega))
  unfold ginv
  omega
theorem gpow_lt (a n : Nat) : gpow a n < 256 := by
  unfold gpow
  split
  · omega
  · split
    · omega
    · exact pw_lt (Nat.mod_lt _ (by omega))

end Go.Proofs.Ytejngiialodnoaa.M
