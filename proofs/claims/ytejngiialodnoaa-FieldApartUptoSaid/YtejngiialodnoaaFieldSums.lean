/-
  Plain arithmetic of the field of 256 elements, with no program in sight: the product bit by bit is the product by tables, which spreads over sums; squares and roots. Conditions: elements are below 256.
-/
import Derived.Test.YtejngiialodnoaaFieldMath
namespace Go.Proofs.Ytejngiialodnoaa.M

theorem xt_tab : ∀ x, x < 256 → xt x < 256 := by decide +kernel
theorem xt_bits : ∀ x, x < 256 → xt x = (x <<< 1) ^^^ (if x.testBit 7 then 285 else 0) := by decide +kernel
theorem top_tab : ∀ a, a < 256 → (a = 0 ∨ ∃ i, i < 8 ∧ a ^^^ 2 ^ i < a) := by decide +kernel
theorem xor_lt {a b : Nat} (ha : a < 256) (hb : b < 256) : a ^^^ b < 256 := Nat.xor_lt_two_pow (n := 8) ha hb

theorem xor_four (a b c d : Nat) : (a ^^^ b) ^^^ (c ^^^ d) = (a ^^^ c) ^^^ (b ^^^ d) := by
  rw [Nat.xor_assoc, Nat.xor_assoc]
  congr 1
  rw [← Nat.xor_assoc, ← Nat.xor_assoc, Nat.xor_comm b c]
theorem xt_xor_tab (x : Nat) (hx : x < 256) (y : Nat) (hy : y < 256) : xt (x ^^^ y) = xt x ^^^ xt y := by
  rw [xt_bits _ (xor_lt hx hy), xt_bits _ hx, xt_bits _ hy, xor_four, Nat.shiftLeft_xor_distrib, Nat.testBit_xor]
  congr 1
  cases x.testBit 7 <;> cases y.testBit 7 <;> rfl

/-- one step of the product bit by bit -/
def hs (a p : Nat) (t : Bool) : Nat := if t then xt p ^^^ a else xt p
/-- the product behind j bits, from the top -/
def smulTo (a b : Nat) : Nat → Nat
  | 0 => 0
  | j + 1 => hs a (smulTo a b j) (b.testBit (7 - j))
def smul (a b : Nat) : Nat := smulTo a b 8

theorem hs_lt {a p : Nat} (ha : a < 256) (hp : p < 256) (t : Bool) : hs a p t < 256 := by
  unfold hs
  split
  · exact xor_lt (xt_tab _ hp) ha
  · exact xt_tab _ hp
theorem smulTo_lt {a : Nat} (ha : a < 256) (b j : Nat) : smulTo a b j < 256 := by
  induction j with
  | zero => show 0 < 256; omega
  | succ j ih => exact hs_lt ha ih _
theorem smul_lt {a : Nat} (ha : a < 256) (b : Nat) : smul a b < 256 := smulTo_lt ha b 8
theorem smulTo_xor {a c : Nat} (ha : a < 256) (hc : c < 256) (b j : Nat) : smulTo (a ^^^ c) b j = smulTo a b j ^^^ smulTo c b j := by
  induction j with
  | zero => exact (Nat.xor_self 0).symm
  | succ j ih =>
    show hs (a ^^^ c) (smulTo (a ^^^ c) b j) _ = hs a (smulTo a b j) _ ^^^ hs c (smulTo c b j) _
    rw [ih]
    unfold hs
    rw [xt_xor_tab _ (smulTo_lt ha b j) _ (smulTo_lt hc b j)]
    split
    · exact xor_four _ _ _ _
    · rfl
theorem smul_xor {a c : Nat} (ha : a < 256) (hc : c < 256) (b : Nat) : smul (a ^^^ c) b = smul a b ^^^ smul c b := smulTo_xor ha hc b 8
theorem smulTo_zero (b j : Nat) : smulTo 0 b j = 0 := by
  induction j with
  | zero => rfl
  | succ j ih =>
    show hs 0 (smulTo 0 b j) _ = 0
    rw [ih]
    unfold hs
    split <;> rfl
theorem smul_basis : ∀ i, i < 8 → ∀ b, b < 256 → smul (2 ^ i) (xt b) = xt (smul (2 ^ i) b) := by decide +kernel
theorem pow_lt {i : Nat} (h : i < 8) : 2 ^ i < 256 := Nat.pow_lt_pow_right (a := 2) (by omega) (m := i) (n := 8) h
theorem smul_xt {a : Nat} (ha : a < 256) {b : Nat} (hb : b < 256) : smul a (xt b) = xt (smul a b) := by
  induction a using Nat.strongRecOn with
  | _ a ih =>
    rcases top_tab a ha with rfl | ⟨i, hi, hlt⟩
    · show smulTo 0 _ 8 = xt (smulTo 0 _ 8)
      rw [smulTo_zero, smulTo_zero]; rfl
    · have hp := pow_lt hi
      have e : a = (a ^^^ 2 ^ i) ^^^ 2 ^ i := by rw [Nat.xor_assoc, Nat.xor_self, Nat.xor_zero]
      have hc : a ^^^ 2 ^ i < 256 := by omega
      have h1 := ih _ hlt hc
      generalize a ^^^ 2 ^ i = c at *
      rw [e, smul_xor hc hp, smul_xor hc hp, h1, smul_basis i hi b hb, xt_xor_tab _ (smul_lt hc b) _ (smul_lt hp b)]
theorem smul_one_tab : ∀ a, a < 256 → smul a 1 = a := by decide +kernel
theorem pw_lt' (n : Nat) : pw n < 256 := by
  induction n with
  | zero => rw [pw_zero]; omega
  | succ n ih => rw [pw_succ]; exact xt_tab _ ih
theorem smul_pw {a : Nat} (ha : a < 256) (n : Nat) : smul a (pw n) = iter n a := by
  induction n with
  | zero => rw [pw_zero]; exact smul_one_tab a ha
  | succ n ih => rw [pw_succ, smul_xt ha (pw_lt' n), ih, iter_succ]
theorem iter_pw (n m : Nat) : iter n (pw m) = pw (m + n) := by
  induction n with
  | zero => rfl
  | succ n ih => rw [iter_succ, ih, ← pw_succ]; rfl
theorem pw_add_255 (n : Nat) : pw (n + 255) = pw n := by
  have h := iter_pw n 255
  rw [pw_255] at h
  rw [Nat.add_comm, ← h]
  rfl
theorem pw_mod (n : Nat) : pw (n % 255) = pw n := by
  induction n using Nat.strongRecOn with
  | _ n ih =>
    by_cases h : n < 255
    · rw [Nat.mod_eq_of_lt h]
    · have h1 := ih (n - 255) (by omega)
      have h2 := pw_add_255 (n - 255)
      have e1 : n - 255 + 255 = n := by omega
      rw [e1] at h2
      have e2 : n % 255 = (n - 255) % 255 := by clear h1 h2 ih; omega
      rw [e2, h1, h2]
theorem smul_zero_right (a : Nat) : smul a 0 = 0 := by
  have h : ∀ j, smulTo a 0 j = 0 := fun j => by
    induction j with
    | zero => rfl
    | succ j ih =>
      show hs a (smulTo a 0 j) _ = 0
      rw [ih, Nat.zero_testBit]; rfl
  exact h 8
/-- The product by tables is the product bit by bit. -/
theorem gmul_eq {a b : Nat} (ha : a < 256) (hb : b < 256) : gmul a b = smul a b := by
  by_cases h0 : a = 0
  · subst h0; rw [gmul_zero_left]; exact (smulTo_zero b 8).symm
  by_cases h1 : b = 0
  · subst h1; rw [gmul_zero_right, smul_zero_right]
  have e : smul a b = pw (lg a + lg b) := by
    have h2 := smul_pw ha (lg b)
    rw [pw_lg hb h1] at h2
    have h3 := iter_pw (lg b) (lg a)
    rw [pw_lg ha h0] at h3
    rw [h2, h3]
  rw [e, ← pw_mod, gmul, if_neg (by omega)]
theorem gmul_xor_left {a b c : Nat} (ha : a < 256) (hb : b < 256) (hc : c < 256) : gmul (a ^^^ b) c = gmul a c ^^^ gmul b c := by
  rw [gmul_eq (xor_lt ha hb) hc, gmul_eq ha hc, gmul_eq hb hc, smul_xor ha hb]
theorem gmul_xor {a b c : Nat} (ha : a < 256) (hb : b < 256) (hc : c < 256) : gmul a (b ^^^ c) = gmul a b ^^^ gmul a c := by
  rw [gmul_comm, gmul_xor_left hb hc ha, gmul_comm b a, gmul_comm c a]
theorem gmul_square {a b : Nat} (ha : a < 256) (hb : b < 256) : gmul (a ^^^ b) (a ^^^ b) = gmul a a ^^^ gmul b b := by
  rw [gmul_xor_left ha hb (xor_lt ha hb), gmul_xor ha ha hb, gmul_xor hb ha hb, gmul_comm b a]
  generalize gmul a a = p
  generalize gmul a b = q
  generalize gmul b b = r
  rw [Nat.xor_assoc, ← Nat.xor_assoc q q r, Nat.xor_self, Nat.zero_xor]
/-- The root of an element. -/
def groot (a : Nat) : Nat := if a = 0 then 0 else pw (lg a * 128 % 255)
theorem square_iff {a x : Nat} (ha : a < 256) (hx : x < 256) : gmul x x = a ↔ x = groot a := by
  by_cases h0 : x = 0
  · subst h0
    rw [gmul_zero_left]
    unfold groot
    by_cases h : a = 0
    · rw [if_pos h]; omega
    · rw [if_neg h]
      have := pw_pos (Nat.mod_lt (lg a * 128) (show 0 < 255 by omega))
      omega
  · have hg := gmul_pos h0 h0
    unfold groot
    by_cases h : a = 0
    · rw [if_pos h]
      constructor
      · intro e; exact absurd (e.trans h) hg
      · intro e; exact absurd e h0
    · rw [if_neg h]
      have l1 := lg_lt hx h0
      have l2 := lg_lt ha h
      constructor
      · intro e
        have e2 : (lg x + lg x) % 255 = lg a := by rw [← lg_gmul h0 h0, e]
        have e3 : lg a * 128 % 255 = lg x := by
          generalize lg a = p at *
          generalize lg x = q at *
          omega
        rw [e3, pw_lg hx h0]
      · intro e
        have e2 : lg x = lg a * 128 % 255 := by
          rw [e]; exact lg_pw (Nat.mod_lt _ (by omega))
        rw [gmul, if_neg (by omega)]
        have e3 : (lg x + lg x) % 255 = lg a := by
          generalize lg a = p at *
          generalize lg x = q at *
          omega
        rw [e3, pw_lg ha h]
theorem groot_lt (a : Nat) : groot a < 256 := by
  unfold groot
  split
  · omega
  · exact pw_lt' _
end Go.Proofs.Ytejngiialodnoaa.M
