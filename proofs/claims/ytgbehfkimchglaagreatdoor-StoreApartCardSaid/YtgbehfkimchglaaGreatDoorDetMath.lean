/-
 Determinants over the field of 256 elements, by the first row: they tell whether a system has one solution, and which. Conditions: elements are below 256.
-/
import Derived.Test.YtgbehfkimchglaaGreatDoorArrMathM
set_option linter.unusedVariables false
namespace Go.Proofs.YtgbehfkimchglaaGreatDoor.M
set_option maxRecDepth 100000
def skip (k j : Nat) : Nat := if j < k then j else j + 1
def cut (k c : Nat) : Nat := if c < k then c else c - 1
def minor (a : Nat → Nat → Nat) (k i j : Nat) : Nat := a (i + 1) (skip k j)
def det : Nat → (Nat → Nat → Nat) → Nat
 | 0, _ => 1
 | n + 1, a => xsum (n + 1) fun k => gmul (a 0 k) (det n (minor a k))
theorem det_lt : ∀ n a, det n a < 256
 | 0, _ => by show 1 < 256; omega
 | n + 1, a => xsum_lt fun _ _ => gmul_lt _ _
theorem skip_lt {n k j : Nat} (hj : j < n) : skip k j < n + 1 := by unfold skip; split <;> omega
theorem skip_ne (k j : Nat) : skip k j ≠ k := by unfold skip; split <;> omega
theorem cut_skip (k j : Nat) : cut k (skip k j) = j := by
 unfold cut skip
 by_cases h : j < k
 ·rw [if_pos h, if_pos h]
 ·rw [if_neg h, if_neg (by omega)]; omega
theorem det_congr : ∀ n (a b : Nat → Nat → Nat), (∀ i, i < n → ∀ j, j < n → a i j = b i j) → det n a = det n b
 | 0, _, _, _ => rfl
 | n + 1, a, b, h => xsum_congr fun k hk => by
  rw [h 0 (by omega) k hk, det_congr n (minor a k) (minor b k) fun i hi j hj => h (i + 1) (by omega) _ (skip_lt hj)]
theorem skip_cut {k c : Nat} (h : k ≠ c) : skip k (cut k c) = c := by
 by_cases h1 : c < k
 ·rw [show cut k c = c from if_pos h1]; exact if_pos h1
 ·rw [show cut k c = c - 1 from if_neg h1, show skip k (c - 1) = c - 1 + 1 from if_neg (by omega)]; omega
theorem skip_cut1 {k c : Nat} (h : k ≠ c) (h2 : k ≠ c + 1) : skip k (cut k c + 1) = c + 1 := by
 by_cases h1 : c < k
 ·rw [show cut k c = c from if_pos h1]; exact if_pos (by omega)
 ·rw [show cut k c = c - 1 from if_neg h1, show skip k (c - 1 + 1) = c - 1 + 1 + 1 from if_neg (by omega)]; omega
def setc (a : Nat → Nat → Nat) (c : Nat) (v : Nat → Nat) (i j : Nat) : Nat := if j = c then v i else a i j
theorem setc_at (a : Nat → Nat → Nat) (c : Nat) (v : Nat → Nat) (i : Nat) : setc a c v i c = v i := if_pos rfl
theorem setc_ne {a : Nat → Nat → Nat} {c j : Nat} (h : j ≠ c) (v : Nat → Nat) (i : Nat) : setc a c v i j = a i j := if_neg h
theorem setc_lt {a : Nat → Nat → Nat} {c : Nat} {v : Nat → Nat} (ha : ∀ i j, a i j < 256) (hv : ∀ i, v i < 256) (i j : Nat) : setc a c v i j < 256 := by
 unfold setc; split
 ·exact hv i
 ·exact ha i j
theorem setc_swap {a : Nat → Nat → Nat} {c d : Nat} (h : c ≠ d) (u v : Nat → Nat) : setc (setc a c u) d v = setc (setc a d v) c u := by
 funext i j
 unfold setc
 by_cases h1 : j = d
 ·by_cases h2 : j = c
  ·exact absurd (h2.symm.trans h1) h
  ·rw [if_pos h1, if_neg h2, if_pos h1]
 ·rw [if_neg h1, if_neg h1]
theorem minor_lt {a : Nat → Nat → Nat} (ha : ∀ i j, a i j < 256) (k i j : Nat) : minor a k i j < 256 := ha _ _
theorem minor_setc {a : Nat → Nat → Nat} {c k : Nat} (h : k ≠ c) (v : Nat → Nat) : minor (setc a c v) k = setc (minor a k) (cut k c) fun i => v (i + 1) := by
 funext i j
 unfold minor setc
 have e : skip k j = c ↔ j = cut k c := by unfold skip cut; split <;> split <;> omega
 by_cases h1 : skip k j = c
 ·rw [if_pos h1, if_pos (e.1 h1)]
 ·rw [if_neg h1, if_neg (fun q => h1 (e.2 q))]
theorem minor_same (a : Nat → Nat → Nat) (c : Nat) (v : Nat → Nat) : minor (setc a c v) c = minor a c := by
 funext i j
 unfold minor setc
 rw [if_neg (skip_ne c j)]
theorem cut_lt {n k c : Nat} (hk : k < n + 1) (hc : c < n + 1) (h : k ≠ c) : cut k c < n := by unfold cut; split <;> omega
theorem det_add : ∀ n (a : Nat → Nat → Nat) c (u v : Nat → Nat), c < n → (∀ i j, a i j < 256) → (∀ i, u i < 256) → (∀ i, v i < 256) → det n (setc a c fun i => u i ^^^ v i) = det n (setc a c u) ^^^ det n (setc a c v)
 | 0, _, _, _, _, h, _, _, _ => absurd h (by omega)
 | n + 1, a, c, u, v, hc, ha, hu, hv => by
  unfold det
  rw [← xsum_xor]
  refine xsum_congr fun k hk => ?_
  by_cases h : k = c
  ·subst h
   rw [setc_at, setc_at, setc_at, minor_same, minor_same, minor_same]
   exact gmul_xor_left (hu 0) (hv 0) (det_lt _ _)
  ·rw [setc_ne h, setc_ne h, setc_ne h, minor_setc h, minor_setc h, minor_setc h, det_add n (minor a k) (cut k c) (fun i => u (i + 1)) (fun i => v (i + 1)) (cut_lt hk hc h) (minor_lt ha k) (fun i => hu _) (fun i => hv _)]
   exact gmul_xor (ha _ _) (det_lt _ _) (det_lt _ _)
theorem det_mul : ∀ n (a : Nat → Nat → Nat) c x (u : Nat → Nat), c < n → x < 256 → det n (setc a c fun i => gmul x (u i)) = gmul x (det n (setc a c u))
 | 0, _, _, _, _, h, _ => absurd h (by omega)
 | n + 1, a, c, x, u, hc, hx => by
  unfold det
  rw [← xsum_mul hx (fun _ _ => gmul_lt _ _)]
  refine xsum_congr fun k hk => ?_
  by_cases h : k = c
  ·subst h
   rw [setc_at, setc_at, minor_same, minor_same, gmul_assoc]
  ·rw [setc_ne h, setc_ne h, minor_setc h, minor_setc h, det_mul n (minor a k) (cut k c) x (fun i => u (i + 1)) (cut_lt hk hc h) hx, gmul_assoc, gmul_comm (a 0 k) x, gmul_assoc]
theorem det_nought (n : Nat) (a : Nat → Nat → Nat) (c : Nat) (hc : c < n) : det n (setc a c fun _ => 0) = 0 := by
 have h := det_mul n a c 0 (fun _ => 0) hc (by omega)
 rw [gmul_zero_left] at h
 exact h
theorem det_adj : ∀ n (a : Nat → Nat → Nat) c, c + 1 < n → (∀ i, i < n → a i c = a i (c + 1)) → det n a = 0
 | 0, _, _, h, _ => absurd h (by omega)
 | n + 1, a, c, hc, h => by
  unfold det
  rw [xsum_two (n + 1) _ c (c + 1) (by omega) hc (by omega)]
  ·have e : det n (minor a c) = det n (minor a (c + 1)) := det_congr n _ _ fun i hi j hj => by
    unfold minor
    by_cases h1 : j < c
    ·rw [show skip c j = j from if_pos h1, show skip (c + 1) j = j from if_pos (by omega)]
    ·by_cases h2 : j = c
     ·subst h2
      rw [show skip j j = j + 1 from if_neg (by omega), show skip (j + 1) j = j from if_pos (by omega)]
      exact (h (i + 1) (by omega)).symm
     ·rw [show skip c j = j + 1 from if_neg h1, show skip (c + 1) j = j + 1 from if_neg (by omega)]
   rw [e, h 0 (by omega), Nat.xor_self]
  ·intro k hk h1 h2
   have e : det n (minor a k) = 0 := by
    refine det_adj n (minor a k) (cut k c) (by unfold cut; split <;> omega) fun i hi => ?_
    unfold minor
    rw [skip_cut h1, skip_cut1 h1 h2]
    exact h (i + 1) (by omega)
   rw [e, gmul_zero_right]
def swapc (a : Nat → Nat → Nat) (c i j : Nat) : Nat := a i (if j = c then c + 1 else if j = c + 1 then c else j)
theorem xor_four0 {p q r s : Nat} (hp : p = 0) (hs : s = 0) (h : (p ^^^ q) ^^^ (r ^^^ s) = 0) : q = r := by
 subst hp hs
 rw [Nat.zero_xor, Nat.xor_zero] at h
 have h1 := congrArg (fun t => t ^^^ r) h
 simpa [Nat.xor_assoc] using h1
theorem det_swapc (n : Nat) (a : Nat → Nat → Nat) (c : Nat) (hc : c + 1 < n) (ha : ∀ i j, a i j < 256) : det n (swapc a c) = det n a := by
 have hne : c ≠ c + 1 := by omega
 have hD : ∀ x : Nat → Nat, det n (setc (setc a c x) (c + 1) x) = 0 := fun x => det_adj n _ c hc fun i hi => by rw [setc_ne hne, setc_at, setc_at]
 have hR : ∀ x y z : Nat → Nat, (∀ i, x i < 256) → (∀ i, y i < 256) → (∀ i, z i < 256) → det n (setc (setc a c x) (c + 1) fun i => y i ^^^ z i) = det n (setc (setc a c x) (c + 1) y) ^^^ det n (setc (setc a c x) (c + 1) z) :=
  fun x y z hx hy hz => det_add n _ (c + 1) y z hc (setc_lt ha hx) hy hz
 have hL : ∀ x y z : Nat → Nat, (∀ i, x i < 256) → (∀ i, y i < 256) → (∀ i, z i < 256) → det n (setc (setc a c fun i => x i ^^^ z i) (c + 1) y) = det n (setc (setc a c x) (c + 1) y) ^^^ det n (setc (setc a c z) (c + 1) y) := fun x y z hx hy hz => by
  rw [setc_swap hne, setc_swap hne, setc_swap hne]
  exact det_add n _ c x z (by omega) (setc_lt ha hy) hx hz
 have hu : ∀ i, (fun i => a i c) i < 256 := fun i => ha i c
 have hv : ∀ i, (fun i => a i (c + 1)) i < 256 := fun i => ha i (c + 1)
 have h0 := hD fun i => (fun i => a i c) i ^^^ (fun i => a i (c + 1)) i
 rw [hR _ (fun i => a i c) (fun i => a i (c + 1)) (fun i => xor_lt (hu i) (hv i)) hu hv, hL _ _ _ hu hu hv, hL _ _ _ hu hv hv] at h0
 have e1 : det n (setc (setc a c fun i => a i c) (c + 1) fun i => a i (c + 1)) = det n a := det_congr n _ _ fun i _ j _ => by
  unfold setc
  by_cases h1 : j = c + 1
  ·rw [if_pos h1, h1]
  ·rw [if_neg h1]
   by_cases h2 : j = c
   ·rw [if_pos h2, h2]
   ·rw [if_neg h2]
 have e2 : det n (setc (setc a c fun i => a i (c + 1)) (c + 1) fun i => a i c) = det n (swapc a c) := det_congr n _ _ fun i _ j _ => by
  unfold setc swapc
  by_cases h1 : j = c + 1
  ·rw [if_pos h1, if_neg (by omega), if_pos h1]
  ·rw [if_neg h1, if_neg h1]
   by_cases h2 : j = c
   ·rw [if_pos h2, if_pos h2]
   ·rw [if_neg h2, if_neg h2]
 have d1 := hD fun i => a i c
 have d2 := hD fun i => a i (c + 1)
 rw [← e1, ← e2]
 exact xor_four0 d1 d2 h0
theorem swapc_lt {a : Nat → Nat → Nat} (ha : ∀ i j, a i j < 256) (c i j : Nat) : swapc a c i j < 256 := ha _ _
theorem det_far : ∀ d n (a : Nat → Nat → Nat) c, c + d + 1 < n → (∀ i j, a i j < 256) → (∀ i, i < n → a i c = a i (c + d + 1)) → det n a = 0
 | 0, n, a, c, hc, ha, h => det_adj n a c hc h
 | d + 1, n, a, c, hc, ha, h => by
  rw [← det_swapc n a (c + d + 1) hc ha]
  refine det_far d n _ c (by omega) (swapc_lt ha _) fun i hi => ?_
  unfold swapc
  rw [if_neg (by omega), if_neg (by omega), if_pos rfl]
  exact h i hi
theorem det_like {n c d : Nat} {a : Nat → Nat → Nat} (hc : c < n) (hd : d < n) (hne : c ≠ d) (ha : ∀ i j, a i j < 256) (h : ∀ i, i < n → a i c = a i d) : det n a = 0 := by
 rcases Nat.lt_or_ge c d with h1 | h1
 ·refine det_far (d - c - 1) n a c (by omega) ha fun i hi => ?_
  rw [show c + (d - c - 1) + 1 = d by omega]
  exact h i hi
 ·refine det_far (c - d - 1) n a d (by omega) ha fun i hi => ?_
  rw [show d + (c - d - 1) + 1 = c by omega]
  exact (h i hi).symm
def comb (m : Nat) (a : Nat → Nat → Nat) (x : Nat → Nat) (i : Nat) : Nat := xsum m fun j => gmul (x j) (a i j)
theorem det_comb {n k : Nat} {a : Nat → Nat → Nat} {x : Nat → Nat} (hk : k < n) (ha : ∀ i j, a i j < 256) (hx : ∀ j, x j < 256) : ∀ m, m ≤ n → det n (setc a k (comb m a x)) = if k < m then gmul (x k) (det n a) else 0
 | 0, _ => by rw [if_neg (by omega)]; exact det_nought n a k hk
 | m + 1, h => by
  have e : comb (m + 1) a x = fun i => comb m a x i ^^^ (fun i => gmul (x m) ((fun i => a i m) i)) i := rfl
  rw [e, det_add n a k (comb m a x) (fun i => gmul (x m) ((fun i => a i m) i)) hk ha (fun i => xsum_lt fun _ _ => gmul_lt _ _) (fun i => gmul_lt _ _), det_mul n a k (x m) (fun i => a i m) hk (hx m), det_comb hk ha hx m (by omega)]
  by_cases hm : m = k
  ·subst hm
   have e2 : det n (setc a m fun i => a i m) = det n a := det_congr n _ _ fun i _ j _ => by
    unfold setc
    by_cases h1 : j = m
    ·rw [if_pos h1, h1]
    ·rw [if_neg h1]
   rw [if_neg (by omega), if_pos (by omega), e2, Nat.zero_xor]
  ·have e2 : det n (setc a k fun i => a i m) = 0 := det_like (c := k) (d := m) hk (by omega) (fun q => hm q.symm) (setc_lt ha fun i => ha i m) fun i _ => by rw [setc_at, setc_ne hm]
   rw [e2, gmul_zero_right, Nat.xor_zero]
   by_cases h1 : k < m
   ·rw [if_pos h1, if_pos (by omega)]
   ·rw [if_neg h1, if_neg (by omega)]
theorem cramer {n k : Nat} {a : Nat → Nat → Nat} {x y : Nat → Nat} (hk : k < n) (ha : ∀ i j, a i j < 256) (hx : ∀ j, x j < 256) (hy : ∀ i, i < n → y i = comb n a x i) : det n (setc a k y) = gmul (x k) (det n a) := by
 have h := det_comb hk ha hx n (Nat.le_refl n)
 rw [if_pos hk] at h
 rw [← h]
 refine det_congr n _ _ fun i hi j _ => ?_
 unfold setc
 by_cases h1 : j = k
 ·rw [if_pos h1, if_pos h1, hy i hi]
 ·rw [if_neg h1, if_neg h1]
def Ker (m n : Nat) (a : Nat → Nat → Nat) : Prop := ∃ z : Nat → Nat, (∀ j, z j < 256) ∧ (∃ j, j < n ∧ z j ≠ 0) ∧ ∀ i, i < m → comb n a z i = 0
theorem xsum_skip (k : Nat) (f : Nat → Nat) : ∀ n, k ≤ n → xsum (n + 1) f = xsum n (fun j => f (skip k j)) ^^^ f k
 | 0, h => by
  have : k = 0 := by omega
  subst this
  rfl
 | n + 1, h => by
  by_cases e : k = n + 1
  ·subst e
   show xsum (n + 1) f ^^^ f (n + 1) = _
   rw [xsum_congr (f := fun j => f (skip (n + 1) j)) (g := f) fun j hj => by rw [show skip (n + 1) j = j from if_pos hj]]
  ·show xsum (n + 1) f ^^^ f (n + 1) = (xsum n (fun j => f (skip k j)) ^^^ f (skip k n)) ^^^ f k
   rw [xsum_skip k f n (by omega), show skip k n = n + 1 from if_neg (by omega), Nat.xor_assoc, Nat.xor_assoc, Nat.xor_comm (f k)]
def coef (a : Nat → Nat → Nat) (k j : Nat) : Nat := gmul (a 0 j) (ginv (a 0 k))
def swept (a : Nat → Nat → Nat) (k i j : Nat) : Nat := a i j ^^^ gmul (coef a k j) (a i k)
theorem swept_lt {a : Nat → Nat → Nat} (ha : ∀ i j, a i j < 256) (k i j : Nat) : swept a k i j < 256 := xor_lt (ha _ _) (gmul_lt _ _)
theorem swept_top {a : Nat → Nat → Nat} (ha : ∀ i j, a i j < 256) {k : Nat} (h : a 0 k ≠ 0) (j : Nat) : swept a k 0 j = 0 := by
 unfold swept coef
 rw [← gmul_assoc, gmul_comm (ginv _), gmul_ginv (ha 0 k) h, gmul_one (ha 0 j), Nat.xor_self]
theorem ker_swept {m n k : Nat} {a : Nat → Nat → Nat} (ha : ∀ i j, a i j < 256) (hk : k < n + 1) (hp : a 0 k ≠ 0) (h : Ker m n (minor (swept a k) k)) : Ker (m + 1) (n + 1) a := by
 obtain ⟨z, hz, ⟨j0, hj0, hne⟩, h0⟩ := h
 refine ⟨fun j => if j = k then xsum n (fun j => gmul (coef a k (skip k j)) (z j)) else z (cut k j), fun j => ?_, ⟨skip k j0, skip_lt hj0, ?_⟩, fun i hi => ?_⟩
 ·show (if j = k then _ else _) < 256
  split
  ·exact xsum_lt fun _ _ => gmul_lt _ _
  ·exact hz _
 ·show (if skip k j0 = k then _ else _) ≠ 0
  rw [if_neg (skip_ne k j0), cut_skip]
  exact hne
 ·unfold comb
  rw [xsum_skip k _ n (by omega)]
  show xsum n (fun j => gmul (if skip k j = k then _ else z (cut k (skip k j))) (a i (skip k j))) ^^^ gmul (if k = k then _ else _) (a i k) = 0
  rw [if_pos rfl, gmul_comm (xsum n _), ← xsum_mul (ha i k) (fun _ _ => gmul_lt _ _), ← xsum_xor]
  have e : ∀ j, j < n → (gmul (if skip k j = k then xsum n (fun j => gmul (coef a k (skip k j)) (z j)) else z (cut k (skip k j))) (a i (skip k j)) ^^^ gmul (a i k) (gmul (coef a k (skip k j)) (z j))) = gmul (z j) (swept a k i (skip k j)) := fun j hj => by
   rw [if_neg (skip_ne k j), cut_skip]
   unfold swept
   rw [gmul_xor (hz j) (ha _ _) (gmul_lt _ _), gmul_assoc, gmul_comm (gmul (a i k) _) (z j), gmul_comm (a i k)]
  rw [xsum_congr e]
  cases i with
  | zero => exact xsum_zero n _ fun j _ => by rw [swept_top ha hp, gmul_zero_right]
  | succ i => exact h0 i (by omega)
def part (a : Nat → Nat → Nat) (k m i j : Nat) : Nat := if j ≠ k ∧ j < m then swept a k i j else a i j
theorem part_lt {a : Nat → Nat → Nat} (ha : ∀ i j, a i j < 256) (k m i j : Nat) : part a k m i j < 256 := by
 unfold part
 split
 ·exact swept_lt ha _ _ _
 ·exact ha _ _
theorem det_part {n k : Nat} {a : Nat → Nat → Nat} (ha : ∀ i j, a i j < 256) (hk : k < n) : ∀ m, m ≤ n → det n (part a k m) = det n a
 | 0, _ => det_congr n _ _ fun i _ j _ => if_neg (by omega)
 | m + 1, h => by
  have ih := det_part ha hk m (by omega)
  by_cases e : m = k
  ·rw [← ih]
   refine det_congr n _ _ fun i _ j _ => ?_
   unfold part
   by_cases h1 : j ≠ k ∧ j < m
   ·rw [if_pos h1, if_pos ⟨h1.1, by omega⟩]
   ·rw [if_neg h1, if_neg (by omega)]
  ·have e1 : det n (part a k (m + 1)) = det n (setc (part a k m) m fun i => (fun i => a i m) i ^^^ (fun i => gmul (coef a k m) ((fun i => a i k) i)) i) := det_congr n _ _ fun i _ j _ => by
    by_cases h1 : j = m
    ·subst h1
     rw [setc_at]
     exact if_pos ⟨e, by omega⟩
    ·rw [setc_ne h1]
     unfold part
     by_cases h2 : j ≠ k ∧ j < m
     ·rw [if_pos h2, if_pos ⟨h2.1, by omega⟩]
     ·rw [if_neg h2, if_neg (by omega)]
   have e2 : det n (setc (part a k m) m fun i => a i m) = det n a := by
    rw [← ih]
    refine det_congr n _ _ fun i _ j _ => ?_
    unfold setc part
    by_cases h1 : j = m
    ·subst h1; rw [if_pos rfl, if_neg (by omega)]
    ·rw [if_neg h1]
   have e3 : det n (setc (part a k m) m fun i => a i k) = 0 := det_like (c := m) (d := k) (by omega) hk e (setc_lt (part_lt ha k m) fun i => ha i k) fun i _ => by
    rw [setc_at, setc_ne (fun q => e q.symm)]
    exact (if_neg (by omega)).symm
   rw [e1, det_add n (part a k m) m (fun i => a i m) (fun i => gmul (coef a k m) ((fun i => a i k) i)) (by omega) (part_lt ha k m) (fun i => ha i m) (fun i => gmul_lt _ _), det_mul n (part a k m) m (coef a k m) (fun i => a i k) (by omega) (gmul_lt _ _), e2, e3, gmul_zero_right, Nat.xor_zero]
theorem det_swept {n k : Nat} {a : Nat → Nat → Nat} (ha : ∀ i j, a i j < 256) (hk : k < n + 1) (hp : a 0 k ≠ 0) : det (n + 1) a = gmul (a 0 k) (det n (minor (swept a k) k)) := by
 rw [← det_part ha hk (n + 1) (Nat.le_refl _)]
 show xsum (n + 1) (fun k' => gmul (part a k (n + 1) 0 k') (det n (minor (part a k (n + 1)) k'))) = _
 rw [xsum_one (n + 1) _ k hk]
 ·have e : part a k (n + 1) 0 k = a 0 k := if_neg (by omega)
  rw [e, det_congr n (minor (part a k (n + 1)) k) (minor (swept a k) k) fun i _ j hj => if_pos ⟨skip_ne k j, skip_lt hj⟩]
 ·intro j hj hne
  have e : part a k (n + 1) 0 j = 0 := by
   unfold part
   rw [if_pos ⟨hne, hj⟩]
   exact swept_top ha hp j
  rw [e, gmul_zero_left]
theorem ker_tail {m n : Nat} {a : Nat → Nat → Nat} (h0 : ∀ k, k < n → a 0 k = 0) (h : Ker m n fun i => a (i + 1)) : Ker (m + 1) n a := by
 obtain ⟨z, hz, hne, h1⟩ := h
 refine ⟨z, hz, hne, fun i hi => ?_⟩
 cases i with
 | zero => exact xsum_zero n _ fun j hj => by rw [h0 j hj, gmul_zero_right]
 | succ i => exact h1 i (by omega)
theorem ker_wide : ∀ m n (a : Nat → Nat → Nat), (∀ i j, a i j < 256) → m < n → Ker m n a
 | 0, n, a, ha, h => ⟨fun _ => 1, fun _ => by show (1 : Nat) < 256; omega, ⟨0, h, by decide⟩, fun i hi => absurd hi (by omega)⟩
 | m + 1, 0, a, ha, h => absurd h (by omega)
 | m + 1, n + 1, a, ha, h => by
  by_cases hp : ∃ k, k < n + 1 ∧ a 0 k ≠ 0
  ·obtain ⟨k, hk, hp⟩ := hp
   exact ker_swept ha hk hp (ker_wide m n _ (minor_lt (swept_lt ha k) k) (by omega))
  ·refine ker_tail (fun k hk => ?_) (ker_wide m (n + 1) _ (fun i j => ha (i + 1) j) (by omega))
   by_cases h1 : a 0 k = 0
   ·exact h1
   ·exact absurd ⟨k, hk, h1⟩ hp
theorem ker_of_det : ∀ n (a : Nat → Nat → Nat), (∀ i j, a i j < 256) → det n a = 0 → Ker n n a
 | 0, a, ha, h => absurd (show (1 : Nat) = 0 from h) (by decide)
 | n + 1, a, ha, h => by
  by_cases hp : ∃ k, k < n + 1 ∧ a 0 k ≠ 0
  ·obtain ⟨k, hk, hp⟩ := hp
   rw [det_swept ha hk hp] at h
   exact ker_swept ha hk hp (ker_of_det n _ (minor_lt (swept_lt ha k) k) (gmul_eq_zero h hp))
  ·refine ker_tail (fun k hk => ?_) (ker_wide n (n + 1) _ (fun i j => ha (i + 1) j) (by omega))
   by_cases h1 : a 0 k = 0
   ·exact h1
   ·exact absurd ⟨k, hk, h1⟩ hp
end Go.Proofs.YtgbehfkimchglaaGreatDoor.M
