/-
 'rack.turn' by a contract; a sector stored into the midst of the row of what waits. Conditions: the numbers fit.
-/
import Derived.Test.YtgbehfkimchglaaGreatDoorDrawDeepM
import Derived.Test.YtgbehfkimchglaaGreatDoorSpcPartM
import Derived.Laws.BitsLemmas
import Derived.Laws.BytesArg
import Derived.Test.YtgbehfkimchglaaGreatDoorStrBM
import Derived.Laws.StructEq
namespace Go.Proofs.YtgbehfkimchglaaGreatDoor
set_option maxRecDepth 100000
open Go.RowKit
set_option linter.unusedVariables false
def setAll (cs : Array Value) (o : Nat) : List Value → Array Value
 | [] => cs
 | v :: r => setAll (cs.setIfInBounds o v) (o + 1) r
theorem setAll_size : ∀ (vs : List Value) (cs : Array Value) (o : Nat), (setAll cs o vs).size = cs.size
 | [], _, _ => rfl
 | v :: r, cs, o => by
  unfold setAll
  rw [setAll_size r, Array.size_setIfInBounds]
theorem setAll_get : ∀ (vs : List Value) (cs : Array Value) (o p : Nat), p < cs.size → (setAll cs o vs)[p]? = if o ≤ p ∧ p < o + vs.length then vs[p - o]? else cs[p]?
 | [], cs, o, p, h => by
  rw [if_neg (fun x => by have h1 := x.1; have h2 : p < o + 0 := x.2; omega)]
  rfl
 | v :: r, cs, o, p, h => by
  unfold setAll
  rw [setAll_get r _ _ _ (by rw [Array.size_setIfInBounds]; exact h)]
  by_cases h1 : o + 1 ≤ p ∧ p < o + 1 + r.length
  ·rw [if_pos h1, if_pos (by simp; omega), show p - o = (p - (o + 1)) + 1 by omega, List.getElem?_cons_succ]
  ·rw [if_neg h1]
   by_cases h2 : p = o
   ·subst h2
    rw [if_pos ⟨Nat.le_refl _, by simp⟩, Nat.sub_self, Array.getElem?_setIfInBounds_self_of_lt h]
    rfl
   ·rw [if_neg (by simp; omega), Array.getElem?_setIfInBounds_ne (by omega)]
theorem grown_setCells (g : Nat) : ∀ (vs : List Value) (o : Nat) (w : World), w.grownBy (w.setCells g o vs) (some g)
 | [], _, w => World.grownBy.refl w _
 | v :: r, o, w => by
  have h1 := grown_set w g o v
  have h2 := grown_setCells g r (o + 1) (w.setCell ⟨g, o, none⟩ v)
  exact ⟨h2.os.trans h1.os, h2.tape.trans h1.tape, h2.output.trans h1.output, Nat.le_trans h1.size h2.size, fun i hi hne => (h2.block i (Nat.lt_of_lt_of_le hi h1.size) hne).trans (h1.block i hi hne)⟩
end Go.Proofs.YtgbehfkimchglaaGreatDoor
namespace Go.Proofs.YtgbehfkimchglaaGreatDoor
set_option maxRecDepth 100000
open Go.RowKit
set_option linter.unusedVariables false
section
variable {B : Nat} {w w' : World} {r m1 m2 : Nat} {v : Value} {s : RS}
end
end Go.Proofs.YtgbehfkimchglaaGreatDoor
namespace Go.Proofs.YtgbehfkimchglaaGreatDoor
set_option maxRecDepth 100000
open Go.RowKit
set_option linter.unusedVariables false
end Go.Proofs.YtgbehfkimchglaaGreatDoor
namespace Go.Proofs.YtgbehfkimchglaaGreatDoor
set_option maxRecDepth 100000
open Go Go.RowKit
set_option linter.unusedVariables false
def Row8 (w : World) (v : Value) (n : Nat) (X : Nat → Nat) : Prop := ∃ g c cs, v = .slice (some ⟨g, 0, none⟩) n c ∧ Blk w g 5 cs ∧ ∀ j, j < n → cs[0 + j]? = some (.int .u8 ((X j : Nat) : Int))
theorem Row8.of_own {w : World} {B n : Nat} {v : Value} {X : Nat → Nat} (h : w.ownsRow B 5 1 v n (rowL n X)) (hn : 0 < n) : Row8 w v n X := by
 rcases h.2 with ⟨_, e⟩ | ⟨g, cap, cur, e, _, hb, _, _, hs, ht⟩
 ·omega
 ·refine ⟨g, cap, cur, e, hb, fun j hj => ?_⟩
  have h1 := rowL_get X hj
  rw [← ht, List.getElem?_take_of_lt (by omega), Array.getElem?_toList] at h1
  rw [Nat.zero_add]
  exact h1
theorem Row8.of_blk {w : World} {g n c : Nat} {X : Nat → Nat} (h : Blk w g 5 (rowArr n X)) : Row8 w (.slice (some ⟨g, 0, none⟩) n c) n X :=
 ⟨g, c, _, rfl, h, fun j hj => by rw [Nat.zero_add]; exact rowArr_get hj⟩
theorem Row8.conv {w : World} {v : Value} {n : Nat} {X : Nat → Nat} (h : Row8 w v n X) : (convert 76 9 v).run Tryz.prog w = .ok (.string (strB n X)) w := by
 obtain ⟨g, c, cs, rfl, hb, hx⟩ := h
 exact conv_bytes hb hx
end Go.Proofs.YtgbehfkimchglaaGreatDoor
namespace Go.Proofs.YtgbehfkimchglaaGreatDoor
open Go Go.RowKit
set_option maxRecDepth 100000
set_option linter.unusedVariables false
namespace refRack
section
variable {B : Nat} {w w' : World} {r g : Nat} {s t : RS}
end
end refRack
end Go.Proofs.YtgbehfkimchglaaGreatDoor
namespace Go.Proofs.YtgbehfkimchglaaGreatDoor.M
set_option maxRecDepth 100000
def xt (x : Nat) : Nat := if 255 < x * 2 then (x * 2) ^^^ 285 else x * 2
def iter : Nat → Nat → Nat
 | 0, x => x
 | k + 1, x => iter k (xt x)
def pw (n : Nat) : Nat := iter n 1
def lgGo : Nat → Nat → Nat → Nat → Nat → Nat
 | 0, _, _, acc, _ => acc
 | k + 1, n, x, acc, v => lgGo k (n + 1) (xt x) (if v = x then n else acc) v
def lgTo (k v : Nat) : Nat := lgGo k 0 1 0 v
def lg (v : Nat) : Nat := lgTo 255 v
theorem iter_succ (k x : Nat) : iter (k + 1) x = xt (iter k x) := by
 induction k generalizing x with
 | zero => rfl
 | succ k ih => rw [iter, ih (xt x)]; rfl
theorem pw_zero : pw 0 = 1 := rfl
theorem pw_succ (k : Nat) : pw (k + 1) = xt (pw k) := iter_succ k 1
theorem lgGo_succ (k n x acc v : Nat) : lgGo (k + 1) n x acc v = if v = iter k x then n + k else lgGo k n x acc v := by
 induction k generalizing n x acc with
 | zero => show (if v = x then n else acc) = if v = x then n + 0 else acc; rfl
 | succ k ih =>
  have h := ih (n + 1) (xt x) (if v = x then n else acc)
  rw [lgGo, h]
  have e : n + 1 + k = n + (k + 1) := by omega
  rw [e]
  rfl
theorem lgTo_succ (k v : Nat) : lgTo (k + 1) v = if v = pw k then k else lgTo k v := by
 unfold lgTo pw; rw [lgGo_succ, Nat.zero_add]
theorem lgTo_zero (v : Nat) : lgTo 0 v = 0 := rfl
theorem pw_tab : ∀ n, n < 255 → (1 ≤ pw n ∧ pw n < 256 ∧ lg (pw n) = n) := by decide +kernel
theorem lg_tab : ∀ v, v < 256 → (v = 0 ∨ (lg v < 255 ∧ pw (lg v) = v)) := by decide +kernel
theorem pw_255 : pw 255 = 1 := by decide +kernel
theorem pw_pos {n : Nat} (h : n < 255) : 1 ≤ pw n := (pw_tab n h).1
theorem pw_lt {n : Nat} (h : n < 255) : pw n < 256 := (pw_tab n h).2.1
theorem lg_pw {n : Nat} (h : n < 255) : lg (pw n) = n := (pw_tab n h).2.2
theorem lg_lt {v : Nat} (h : v < 256) (h0 : v ≠ 0) : lg v < 255 := by
 rcases lg_tab v h with h1 | h1
 ·exact absurd h1 h0
 ·exact h1.1
theorem pw_lg {v : Nat} (h : v < 256) (h0 : v ≠ 0) : pw (lg v) = v := by
 rcases lg_tab v h with h1 | h1
 ·exact absurd h1 h0
 ·exact h1.2
theorem lgTo_lt (k : Nat) (hk : k ≤ 255) (v : Nat) : lgTo k v < 255 := by
 induction k with
 | zero => rw [lgTo_zero]; omega
 | succ k ih =>
  rw [lgTo_succ]
  split
  ·omega
  ·exact ih (by omega)
def gmul (a b : Nat) : Nat := if a = 0 ∨ b = 0 then 0 else pw ((lg a + lg b) % 255)
def ginv (a : Nat) : Nat := pw ((255 - lg a) % 255)
def gpow (a n : Nat) : Nat := if n = 0 then 1 else if a = 0 then 0 else pw (lg a * (n % 255) % 255)
theorem gmul_zero_left (b : Nat) : gmul 0 b = 0 := by simp [gmul]
theorem gmul_zero_right (a : Nat) : gmul a 0 = 0 := by simp [gmul]
theorem gmul_comm (a b : Nat) : gmul a b = gmul b a := by
 unfold gmul
 rw [Nat.add_comm]
 by_cases h : a = 0 ∨ b = 0
 ·rw [if_pos h, if_pos (Or.comm.1 h)]
 ·rw [if_neg h, if_neg (fun h' => h (Or.comm.1 h'))]
theorem gmul_lt (a b : Nat) : gmul a b < 256 := by
 unfold gmul
 split
 ·omega
 ·exact pw_lt (Nat.mod_lt _ (by omega))
theorem gmul_pos {a b : Nat} (ha : a ≠ 0) (hb : b ≠ 0) : gmul a b ≠ 0 := by
 unfold gmul
 rw [if_neg (by omega)]
 have := pw_pos (Nat.mod_lt (lg a + lg b) (show 0 < 255 by omega))
 omega
theorem lg_gmul {a b : Nat} (ha : a ≠ 0) (hb : b ≠ 0) : lg (gmul a b) = (lg a + lg b) % 255 := by
 unfold gmul
 rw [if_neg (by omega)]
 exact lg_pw (Nat.mod_lt _ (by omega))
theorem gmul_assoc (a b c : Nat) : gmul a (gmul b c) = gmul (gmul a b) c := by
 by_cases ha : a = 0
 ·subst ha; simp [gmul_zero_left]
 by_cases hb : b = 0
 ·subst hb; simp [gmul_zero_left, gmul_zero_right]
 by_cases hc : c = 0
 ·subst hc; simp [gmul_zero_right]
 have h1 := gmul_pos hb hc
 have h2 := gmul_pos ha hb
 rw [gmul, if_neg (by omega), lg_gmul hb hc, gmul, if_neg (by omega), lg_gmul ha hb]
 have e : ∀ x y z : Nat, (x + (y + z) % 255) % 255 = ((x + y) % 255 + z) % 255 := fun x y z => by omega
 rw [e]
theorem lg_one : lg 1 = 0 := by decide +kernel
theorem gmul_one {a : Nat} (h : a < 256) : gmul a 1 = a := by
 by_cases ha : a = 0
 ·subst ha; exact gmul_zero_left _
 ·have h1 := lg_lt h ha
  rw [gmul, if_neg (by omega), lg_one, Nat.add_zero, Nat.mod_eq_of_lt h1, pw_lg h ha]
theorem gmul_ginv {a : Nat} (h : a < 256) (ha : a ≠ 0) : gmul a (ginv a) = 1 := by
 have h1 := lg_lt h ha
 have h3 := Nat.mod_lt (255 - lg a) (show 0 < 255 by omega)
 have hp := pw_pos h3
 unfold ginv
 rw [gmul, if_neg (by omega), lg_pw h3]
 have e : ∀ x : Nat, x < 255 → (x + (255 - x) % 255) % 255 = 0 := fun x hx => by omega
 rw [e _ h1]
 exact pw_zero
theorem ginv_lt (a : Nat) : ginv a < 256 := pw_lt (Nat.mod_lt _ (by omega))
theorem ginv_pos (a : Nat) : ginv a ≠ 0 := by
 have := pw_pos (Nat.mod_lt (255 - lg a) (show 0 < 255 by omega))
 unfold ginv
 omega
end Go.Proofs.YtgbehfkimchglaaGreatDoor.M
namespace Go.Proofs.YtgbehfkimchglaaGreatDoor.M
set_option maxRecDepth 100000
theorem xt_tab : ∀ x, x < 256 → xt x < 256 := by decide +kernel
theorem xt_bits : ∀ x, x < 256 → xt x = (x <<< 1) ^^^ (if x.testBit 7 then 285 else 0) := by decide +kernel
theorem top_tab : ∀ a, a < 256 → (a = 0 ∨ ∃ i, i < 8 ∧ a ^^^ 2 ^ i < a) := by decide +kernel
theorem xor_lt {a b : Nat} (ha : a < 256) (hb : b < 256) : a ^^^ b < 256 := Nat.xor_lt_two_pow (n := 8) ha hb
theorem xor_four (a b c d : Nat) : (a ^^^ b) ^^^ (c ^^^ d) = (a ^^^ c) ^^^ (b ^^^ d) := by
 rw [Nat.xor_assoc, Nat.xor_assoc]
 congr 1
 rw [← Nat.xor_assoc, ← Nat.xor_assoc, Nat.xor_comm b c]
theorem xt_xor_tab (x : Nat) (hx : x < 256) (y : Nat) (hy : y < 256) : xt (x ^^^ y) = xt x ^^^ xt y := by
 rw [xt_bits _ (xor_lt hx hy), xt_bits _ hx, xt_bits _ hy, xor_four, Nat.shiftLeft_xor_distrib, Nat.testBit_xor]
 congr 1
 cases x.testBit 7 <;> cases y.testBit 7 <;> rfl
def hs (a p : Nat) (t : Bool) : Nat := if t then xt p ^^^ a else xt p
def smulTo (a b : Nat) : Nat → Nat
 | 0 => 0
 | j + 1 => hs a (smulTo a b j) (b.testBit (7 - j))
def smul (a b : Nat) : Nat := smulTo a b 8
theorem hs_lt {a p : Nat} (ha : a < 256) (hp : p < 256) (t : Bool) : hs a p t < 256 := by
 unfold hs
 split
 ·exact xor_lt (xt_tab _ hp) ha
 ·exact xt_tab _ hp
theorem smulTo_lt {a : Nat} (ha : a < 256) (b j : Nat) : smulTo a b j < 256 := by
 induction j with
 | zero => show 0 < 256; omega
 | succ j ih => exact hs_lt ha ih _
theorem smul_lt {a : Nat} (ha : a < 256) (b : Nat) : smul a b < 256 := smulTo_lt ha b 8
theorem smulTo_xor {a c : Nat} (ha : a < 256) (hc : c < 256) (b j : Nat) : smulTo (a ^^^ c) b j = smulTo a b j ^^^ smulTo c b j := by
 induction j with
 | zero => exact (Nat.xor_self 0).symm
 | succ j ih =>
  show hs (a ^^^ c) (smulTo (a ^^^ c) b j) _ = hs a (smulTo a b j) _ ^^^ hs c (smulTo c b j) _
  rw [ih]
  unfold hs
  rw [xt_xor_tab _ (smulTo_lt ha b j) _ (smulTo_lt hc b j)]
  split
  ·exact xor_four _ _ _ _
  ·rfl
theorem smul_xor {a c : Nat} (ha : a < 256) (hc : c < 256) (b : Nat) : smul (a ^^^ c) b = smul a b ^^^ smul c b := smulTo_xor ha hc b 8
theorem smulTo_zero (b j : Nat) : smulTo 0 b j = 0 := by
 induction j with
 | zero => rfl
 | succ j ih =>
  show hs 0 (smulTo 0 b j) _ = 0
  rw [ih]
  unfold hs
  split <;> rfl
theorem smul_basis : ∀ i, i < 8 → ∀ b, b < 256 → smul (2 ^ i) (xt b) = xt (smul (2 ^ i) b) := by decide +kernel
theorem pow_lt {i : Nat} (h : i < 8) : 2 ^ i < 256 := Nat.pow_lt_pow_right (a := 2) (by omega) (m := i) (n := 8) h
theorem smul_xt {a : Nat} (ha : a < 256) {b : Nat} (hb : b < 256) : smul a (xt b) = xt (smul a b) := by
 induction a using Nat.strongRecOn with
 | _ a ih =>
  rcases top_tab a ha with rfl | ⟨i, hi, hlt⟩
  ·show smulTo 0 _ 8 = xt (smulTo 0 _ 8)
   rw [smulTo_zero, smulTo_zero]; rfl
  ·have hp := pow_lt hi
   have e : a = (a ^^^ 2 ^ i) ^^^ 2 ^ i := by rw [Nat.xor_assoc, Nat.xor_self, Nat.xor_zero]
   have hc : a ^^^ 2 ^ i < 256 := by omega
   have h1 := ih _ hlt hc
   generalize a ^^^ 2 ^ i = c at *
   rw [e, smul_xor hc hp, smul_xor hc hp, h1, smul_basis i hi b hb, xt_xor_tab _ (smul_lt hc b) _ (smul_lt hp b)]
theorem smul_one_tab : ∀ a, a < 256 → smul a 1 = a := by decide +kernel
theorem pw_lt' (n : Nat) : pw n < 256 := by
 induction n with
 | zero => rw [pw_zero]; omega
 | succ n ih => rw [pw_succ]; exact xt_tab _ ih
theorem smul_pw {a : Nat} (ha : a < 256) (n : Nat) : smul a (pw n) = iter n a := by
 induction n with
 | zero => rw [pw_zero]; exact smul_one_tab a ha
 | succ n ih => rw [pw_succ, smul_xt ha (pw_lt' n), ih, iter_succ]
theorem iter_pw (n m : Nat) : iter n (pw m) = pw (m + n) := by
 induction n with
 | zero => rfl
 | succ n ih => rw [iter_succ, ih, ← pw_succ]; rfl
theorem pw_add_255 (n : Nat) : pw (n + 255) = pw n := by
 have h := iter_pw n 255
 rw [pw_255] at h
 rw [Nat.add_comm, ← h]
 rfl
theorem pw_mod (n : Nat) : pw (n % 255) = pw n := by
 induction n using Nat.strongRecOn with
 | _ n ih =>
  by_cases h : n < 255
  ·rw [Nat.mod_eq_of_lt h]
  ·have h1 := ih (n - 255) (by omega)
   have h2 := pw_add_255 (n - 255)
   have e1 : n - 255 + 255 = n := by omega
   rw [e1] at h2
   have e2 : n % 255 = (n - 255) % 255 := by clear h1 h2 ih; omega
   rw [e2, h1, h2]
theorem smul_zero_right (a : Nat) : smul a 0 = 0 := by
 have h : ∀ j, smulTo a 0 j = 0 := fun j => by
  induction j with
  | zero => rfl
  | succ j ih =>
   show hs a (smulTo a 0 j) _ = 0
   rw [ih, Nat.zero_testBit]; rfl
 exact h 8
theorem gmul_eq {a b : Nat} (ha : a < 256) (hb : b < 256) : gmul a b = smul a b := by
 by_cases h0 : a = 0
 ·subst h0; rw [gmul_zero_left]; exact (smulTo_zero b 8).symm
 by_cases h1 : b = 0
 ·subst h1; rw [gmul_zero_right, smul_zero_right]
 have e : smul a b = pw (lg a + lg b) := by
  have h2 := smul_pw ha (lg b)
  rw [pw_lg hb h1] at h2
  have h3 := iter_pw (lg b) (lg a)
  rw [pw_lg ha h0] at h3
  rw [h2, h3]
 rw [e, ← pw_mod, gmul, if_neg (by omega)]
theorem gmul_xor_left {a b c : Nat} (ha : a < 256) (hb : b < 256) (hc : c < 256) : gmul (a ^^^ b) c = gmul a c ^^^ gmul b c := by
 rw [gmul_eq (xor_lt ha hb) hc, gmul_eq ha hc, gmul_eq hb hc, smul_xor ha hb]
theorem gmul_xor {a b c : Nat} (ha : a < 256) (hb : b < 256) (hc : c < 256) : gmul a (b ^^^ c) = gmul a b ^^^ gmul a c := by
 rw [gmul_comm, gmul_xor_left hb hc ha, gmul_comm b a, gmul_comm c a]
end Go.Proofs.YtgbehfkimchglaaGreatDoor.M
namespace Go.Proofs.YtgbehfkimchglaaGreatDoor.M
set_option maxRecDepth 100000
def xsum : Nat → (Nat → Nat) → Nat
 | 0, _ => 0
 | n + 1, f => xsum n f ^^^ f n
theorem xsum_congr {n : Nat} {f g : Nat → Nat} (h : ∀ j, j < n → f j = g j) : xsum n f = xsum n g := by
 induction n with
 | zero => rfl
 | succ n ih => rw [xsum, xsum, ih (fun j hj => h j (by omega)), h n (by omega)]
theorem xsum_lt {n : Nat} {f : Nat → Nat} (h : ∀ j, j < n → f j < 256) : xsum n f < 256 := by
 induction n with
 | zero => show 0 < 256; omega
 | succ n ih => exact xor_lt (ih (fun j hj => h j (by omega))) (h n (by omega))
theorem xsum_xor (n : Nat) (f g : Nat → Nat) : xsum n (fun j => f j ^^^ g j) = xsum n f ^^^ xsum n g := by
 induction n with
 | zero => exact (Nat.xor_self 0).symm
 | succ n ih => rw [xsum, xsum, xsum, ih, xor_four]
theorem xsum_mul {n : Nat} {f : Nat → Nat} {c : Nat} (hc : c < 256) (h : ∀ j, j < n → f j < 256) : xsum n (fun j => gmul c (f j)) = gmul c (xsum n f) := by
 induction n with
 | zero => exact (gmul_zero_right c).symm
 | succ n ih => rw [xsum, xsum, ih (fun j hj => h j (by omega)), gmul_xor hc (xsum_lt (fun j hj => h j (by omega))) (h n (by omega))]
theorem xsum_zero (n : Nat) (f : Nat → Nat) (h : ∀ j, j < n → f j = 0) : xsum n f = 0 := by
 induction n with
 | zero => rfl
 | succ n ih => rw [xsum, ih (fun j hj => h j (by omega)), h n (by omega)]; rfl
theorem xsum_one (n : Nat) (f : Nat → Nat) (k : Nat) (hk : k < n) (h : ∀ j, j < n → j ≠ k → f j = 0) : xsum n f = f k := by
 induction n with
 | zero => omega
 | succ n ih =>
  rw [xsum]
  by_cases e : k = n
  ·subst e
   rw [xsum_zero _ _ (fun j hj => h j (by omega) (by omega)), Nat.zero_xor]
  ·rw [ih (by omega) (fun j hj hne => h j (by omega) hne), h n (by omega) (fun e' => e e'.symm), Nat.xor_zero]
theorem xsum_two (n : Nat) (f : Nat → Nat) (i k : Nat) (hi : i < n) (hk : k < n) (hne : i ≠ k) (h : ∀ j, j < n → j ≠ i → j ≠ k → f j = 0) : xsum n f = f i ^^^ f k := by
 induction n with
 | zero => omega
 | succ n ih =>
  rw [xsum]
  by_cases e : k = n
  ·subst e
   rw [xsum_one _ f i (by omega) (fun j hj hne' => h j (by omega) hne' (by omega))]
  ·by_cases e' : i = n
   ·subst e'
    rw [xsum_one _ f k (by omega) (fun j hj hne' => h j (by omega) (by omega) hne'), Nat.xor_comm]
   ·rw [ih (by omega) (by omega) (fun j hj h1 h2 => h j (by omega) h1 h2), h n (by omega) (fun x => e' x.symm) (fun x => e x.symm), Nat.xor_zero]
def dot (n : Nat) (r z : Nat → Nat) : Nat := xsum n (fun j => gmul (r j) (z j))
def Sol (n : Nat) (m : Nat → Nat → Nat) (z : Nat → Nat) : Prop := ∀ i, i < n → dot (n + 1) (m i) z = 0
set_option linter.unusedVariables false
def Small (n : Nat) (m : Nat → Nat → Nat) : Prop := ∀ i, i < n → ∀ j, j ≤ n → m i j < 256
def SmallV (n : Nat) (z : Nat → Nat) : Prop := ∀ j, j ≤ n → z j < 256
theorem dot_congr {n : Nat} {r r' z : Nat → Nat} (h : ∀ j, j < n → r j = r' j) : dot n r z = dot n r' z := xsum_congr fun j hj => by rw [h j hj]
theorem dot_mul {n : Nat} {r z : Nat → Nat} {c : Nat} (hc : c < 256) : dot n (fun j => gmul (r j) c) z = gmul c (dot n r z) := by
 unfold dot
 rw [← xsum_mul hc (fun j _ => gmul_lt _ _)]
 refine xsum_congr fun j _ => ?_
 show gmul (gmul (r j) c) (z j) = _
 rw [gmul_comm (r j) c, gmul_assoc]
theorem dot_add {n : Nat} {r s z : Nat → Nat} {c : Nat} (hc : c < 256) (hr : ∀ j, j < n → r j < 256) (hs : ∀ j, j < n → s j < 256) (hz : ∀ j, j < n → z j < 256) :
  dot n (fun j => r j ^^^ gmul c (s j)) z = dot n r z ^^^ gmul c (dot n s z) := by
 unfold dot
 rw [← xsum_mul hc (fun j _ => gmul_lt _ _), ← xsum_xor]
 exact xsum_congr fun j hj => by rw [gmul_xor_left (hr j hj) (gmul_lt _ _) (hz j hj), gmul_assoc]
/-! ### exchanging rows -/
def swapR (k p i : Nat) : Nat := if i = k then p else if i = p then k else i
theorem swapR_lt {k p i n : Nat} (hk : k < n) (hp : p < n) (hi : i < n) : swapR k p i < n := by
 unfold swapR
 split
 ·exact hp
 ·split
  ·exact hk
  ·exact hi
theorem swapR_swapR (k p i : Nat) : swapR k p (swapR k p i) = i := by
 unfold swapR
 by_cases h1 : i = k
 ·subst h1
  rw [if_pos rfl]
  by_cases h2 : p = i
  ·rw [if_pos h2, h2]
  ·rw [if_neg h2, if_pos rfl]
 ·rw [if_neg h1]
  by_cases h2 : i = p
  ·subst h2
   rw [if_pos rfl, if_pos rfl]
  ·rw [if_neg h2, if_neg h1, if_neg h2]
theorem sol_swap {n k p : Nat} (hk : k < n) (hp : p < n) (m : Nat → Nat → Nat) (z : Nat → Nat) : Sol n (fun i => m (swapR k p i)) z ↔ Sol n m z := by
 constructor
 ·intro h i hi
  have h1 := h (swapR k p i) (swapR_lt hk hp hi)
  simp only [swapR_swapR] at h1
  exact h1
 ·intro h i hi
  exact h _ (swapR_lt hk hp hi)
/-! ### eliminating -/
def elim (m : Nat → Nat → Nat) (k i j : Nat) : Nat :=
 if i = k then gmul (m k j) (ginv (m k k)) else m i j ^^^ gmul (m i k) (gmul (m k j) (ginv (m k k)))
theorem elim_small {n k : Nat} {m : Nat → Nat → Nat} (hk : k < n) (hm : Small n m) : Small n (elim m k) := by
 intro i hi j hj
 unfold elim
 split
 ·exact gmul_lt _ _
 ·exact xor_lt (hm i hi j hj) (gmul_lt _ _)
theorem gmul_eq_zero {a b : Nat} (h : gmul a b = 0) (ha : a ≠ 0) : b = 0 := by
 by_cases hb : b = 0
 ·exact hb
 ·exact absurd h (gmul_pos ha hb)
theorem sol_elim {n k : Nat} {m : Nat → Nat → Nat} {z : Nat → Nat} (hk : k < n) (hm : Small n m) (hz : SmallV n z) : Sol n (elim m k) z ↔ Sol n m z := by
 have hc := ginv_lt (m k k)
 have hrow : dot (n + 1) (elim m k k) z = gmul (ginv (m k k)) (dot (n + 1) (m k) z) := by
  rw [← dot_mul hc]
  exact dot_congr fun j _ => by unfold elim; rw [if_pos rfl]
 have hoth : ∀ i, i < n → i ≠ k → dot (n + 1) (elim m k i) z = dot (n + 1) (m i) z ^^^ gmul (m i k) (dot (n + 1) (elim m k k) z) := by
  intro i hi hne
  rw [← dot_add (hm i hi k (by omega)) (fun j hj => hm i hi j (by omega)) (fun j hj => elim_small hk hm k hk j (by omega)) (fun j hj => hz j (by omega))]
  exact dot_congr fun j _ => by unfold elim; rw [if_neg hne, if_pos rfl]
 constructor
 ·intro h i hi
  have h0 : dot (n + 1) (m k) z = 0 := by
   have h1 := h k hk
   rw [hrow] at h1
   exact gmul_eq_zero h1 (ginv_pos _)
  by_cases e : i = k
  ·rw [e]; exact h0
  ·have h1 := h i hi
   rw [hoth i hi e, h k hk, gmul_zero_right, Nat.xor_zero] at h1
   exact h1
 ·intro h i hi
  have h0 : dot (n + 1) (elim m k k) z = 0 := by rw [hrow, h k hk, gmul_zero_right]
  by_cases e : i = k
  ·rw [e]; exact h0
  ·rw [hoth i hi e, h i hi, h0, gmul_zero_right]; rfl
def Units (n : Nat) (m : Nat → Nat → Nat) (k : Nat) : Prop := ∀ j, j < k → ∀ i, i < n → m i j = if i = j then 1 else 0
theorem units_swap {n k p : Nat} {m : Nat → Nat → Nat} (hk : k < n) (hp : p < n) (hkp : k ≤ p) (h : Units n m k) : Units n (fun i => m (swapR k p i)) k := by
 intro j hj i hi
 show m (swapR k p i) j = _
 rw [h j hj _ (swapR_lt hk hp hi)]
 unfold swapR
 by_cases h1 : i = k
 ·rw [if_pos h1, if_neg (by omega), if_neg (by omega)]
 ·rw [if_neg h1]
  by_cases h2 : i = p
  ·rw [if_pos h2, if_neg (by omega), if_neg (by omega)]
  ·rw [if_neg h2]
theorem units_elim {n k : Nat} {m : Nat → Nat → Nat} (hk : k < n) (hm : Small n m) (h : Units n m k) (hp : m k k ≠ 0) : Units n (elim m k) (k + 1) := by
 have hkk := hm k hk k (by omega)
 have h1 : gmul (m k k) (ginv (m k k)) = 1 := gmul_ginv hkk hp
 intro j hj i hi
 unfold elim
 by_cases e : j = k
 ·subst e
  rw [h1]
  by_cases e2 : i = j
  ·rw [if_pos e2, if_pos e2]
  ·rw [if_neg e2, if_neg e2, gmul_one (hm i hi j (by omega)), Nat.xor_self]
 ·have hjk : m k j = 0 := by rw [h j (by omega) k hk, if_neg (by omega)]
  rw [hjk, gmul_zero_left, gmul_zero_right, Nat.xor_zero]
  by_cases e2 : i = k
  ·rw [if_pos e2, if_neg (by omega)]
  ·rw [if_neg e2, h j (by omega) i hi]
theorem sol_done {n : Nat} {m : Nat → Nat → Nat} {z : Nat → Nat} (h : Units n m n) (hz : SmallV n z) : Sol n m z ↔ ∀ i, i < n → z i = gmul (m i n) (z n) := by
 have hd : ∀ i, i < n → dot (n + 1) (m i) z = z i ^^^ gmul (m i n) (z n) := by
  intro i hi
  show xsum n _ ^^^ gmul (m i n) (z n) = _
  rw [xsum_one n _ i hi (fun j hj hne => by rw [h j hj i hi, if_neg (fun e => hne e.symm), gmul_zero_left]), h i hi i hi, if_pos rfl, gmul_comm, gmul_one (hz i (by omega))]
 constructor
 ·intro hs i hi
  have h1 := hs i hi
  rw [hd i hi] at h1
  have h2 : z i ^^^ gmul (m i n) (z n) ^^^ gmul (m i n) (z n) = 0 ^^^ gmul (m i n) (z n) := by rw [h1]
  rw [Nat.xor_assoc, Nat.xor_self, Nat.xor_zero, Nat.zero_xor] at h2
  exact h2
 ·intro hs i hi
  rw [hd i hi, ← hs i hi, Nat.xor_self]
def kern (m : Nat → Nat → Nat) (k j : Nat) : Nat := if j < k then m j k else if j = k then 1 else 0
theorem kern_sol {n k : Nat} {m : Nat → Nat → Nat} (hk : k < n) (hm : Small n m) (h : Units n m k) (hp : ∀ i, k ≤ i → i < n → m i k = 0) : Sol n m (kern m k) := by
 intro i hi
 by_cases e : i < k
 ·unfold dot
  rw [xsum_two (n + 1) _ i k (by omega) (by omega) (by omega) (fun j hj h1 h2 => ?_)]
  ·rw [h i e i hi, if_pos rfl]
   unfold kern
   rw [if_pos e, if_neg (by omega), if_pos rfl, gmul_comm 1, gmul_one (hm i hi k (by omega)), Nat.xor_self]
  ·by_cases e2 : j < k
   ·rw [h j e2 i hi, if_neg (fun x => h1 x.symm), gmul_zero_left]
   ·unfold kern
    rw [if_neg e2, if_neg h2, gmul_zero_right]
 ·apply xsum_zero
  intro j hj
  by_cases e2 : j < k
  ·rw [h j e2 i hi, if_neg (by omega), gmul_zero_left]
  ·by_cases e3 : j = k
   ·subst e3
    rw [hp i (by omega) hi, gmul_zero_left]
   ·unfold kern
    rw [if_neg e2, if_neg e3, gmul_zero_right]
theorem kern_small {n k : Nat} {m : Nat → Nat → Nat} (hk : k < n) (hm : Small n m) : SmallV n (kern m k) := by
 intro j hj
 unfold kern
 split
 ·rename_i h
  exact hm j (by omega) k (by omega)
 ·split <;> omega
end Go.Proofs.YtgbehfkimchglaaGreatDoor.M
namespace Go.Proofs.YtgbehfkimchglaaGreatDoor.M
set_option maxRecDepth 100000
theorem lg_two : lg 2 = 1 := by decide +kernel
theorem gpow_of {a m : Nat} (ha : a ≠ 0) : gpow a m = pw (lg a * m) := by
 unfold gpow
 by_cases hm : m = 0
 ·subst hm; rw [if_pos rfl, Nat.mul_zero, pw_zero]
 ·rw [if_neg hm, if_neg ha, Nat.mul_mod_mod, pw_mod]
theorem gpow_two (m : Nat) : gpow 2 m = pw m := by rw [gpow_of (by omega), lg_two, Nat.one_mul]
end Go.Proofs.YtgbehfkimchglaaGreatDoor.M
namespace Go.Proofs.YtgbehfkimchglaaGreatDoor.M
set_option maxRecDepth 100000
def mixR (T X : Nat → Nat) (c k j : Nat) : Nat := if j < k then T j ^^^ gmul c (X j) else T j
def par (k j : Nat) (x : Nat → Nat → Nat) (v : Nat) : Nat := xsum k fun i => gmul (pw (i * j)) (x i v)
theorem par_lt (k j : Nat) (x : Nat → Nat → Nat) (v : Nat) : par k j x v < 256 := xsum_lt fun _ _ => gmul_lt _ _
theorem par_succ (k j : Nat) (x : Nat → Nat → Nat) (v : Nat) : par (k + 1) j x v = par k j x v ^^^ gmul (pw (k * j)) (x k v) := rfl
theorem pw_any_lt (m : Nat) : pw m < 256 := by
 rw [← pw_mod]; exact pw_lt (Nat.mod_lt _ (by omega))
end Go.Proofs.YtgbehfkimchglaaGreatDoor.M
namespace Go.Proofs.YtgbehfkimchglaaGreatDoor
open Go
set_option maxRecDepth 100000
set_option linter.unusedVariables false
namespace Arr
def secs (n : Nat) : Nat := (n + 127) / 128
def rws (N d : Nat) : Nat := (d + (N - 3) - 1) / (N - 3)
def cost (N n : Nat) : Nat := secs n + 3 * rws N (secs n)
def kR (N d r : Nat) : Nat := min (N - 3) (d - r * (N - 3))
def secD (n : Nat) (X : Nat → Nat) (j v : Nat) : Nat := if j * 128 + v < n then X (j * 128 + v) else 0
def cellX (N n : Nat) (X : Nat → Nat) (i v : Nat) : Nat :=
 if i % N < 3 then M.par (kR N (secs n) (i / N)) (i % N) (fun t => secD n X (i / N * (N - 3) + t)) v else secD n X (i / N * (N - 3) + (i % N - 3)) v
theorem secD_lt {n : Nat} {X : Nat → Nat} (hX : ∀ j, j < n → X j < 256) (j v : Nat) : secD n X j v < 256 := by
 unfold secD
 split
 ·rename_i h; exact hX _ h
 ·omega
theorem cellX_lt {N n : Nat} {X : Nat → Nat} (hX : ∀ j, j < n → X j < 256) (i v : Nat) : cellX N n X i v < 256 := by
 unfold cellX
 split
 ·exact M.par_lt _ _ _ _
 ·exact secD_lt hX _ _
theorem secs_le {n : Nat} (h : n ≤ 1024) : secs n ≤ 8 := by unfold secs; omega
theorem secs_pos {n : Nat} (h : 1 ≤ n) : 1 ≤ secs n := by unfold secs; omega
theorem secs_ge (n : Nat) : n ≤ secs n * 128 := by unfold secs; omega
theorem secs_last {n : Nat} (h : 1 ≤ n) : (secs n - 1) * 128 < n := by unfold secs; omega
section
variable {N d : Nat} (hN : 5 ≤ N) (hd : 1 ≤ d)
include hN hd
theorem rws_spec : 1 ≤ rws N d ∧ d ≤ rws N d * (N - 3) ∧ (rws N d - 1) * (N - 3) < d := by
 have h1 := Nat.div_add_mod (d + (N - 3) - 1) (N - 3)
 have h2 := Nat.mod_lt (d + (N - 3) - 1) (show N - 3 > 0 by omega)
 have e : rws N d = (d + (N - 3) - 1) / (N - 3) := rfl
 rw [← e] at h1
 generalize rws N d = q at *
 clear e
 cases q with
 | zero => rw [Nat.mul_zero] at h1; omega
 | succ q =>
  rw [Nat.mul_succ, Nat.mul_comm] at h1
  rw [Nat.add_sub_cancel, Nat.succ_mul]
  omega
theorem rws_le : rws N d ≤ d := by
 obtain ⟨h1, _, h3⟩ := rws_spec hN hd
 generalize rws N d = q at *
 have : (q - 1) * 1 ≤ (q - 1) * (N - 3) := Nat.mul_le_mul_left _ (by omega)
 omega
theorem row_more {r : Nat} : r < rws N d ↔ r * (N - 3) < d := by
 obtain ⟨h1, h2, h3⟩ := rws_spec hN hd
 generalize rws N d = q at *
 constructor
 ·intro h
  have : r * (N - 3) ≤ (q - 1) * (N - 3) := Nat.mul_le_mul_right _ (by omega)
  omega
 ·intro h
  rcases Nat.lt_or_ge r q with h4 | h4
  ·exact h4
  ·have : q * (N - 3) ≤ r * (N - 3) := Nat.mul_le_mul_right _ h4
   omega
omit hd in
theorem row_at (r : Nat) : r * N = r * (N - 3) + 3 * r := by
 have h : r * N = r * ((N - 3) + 3) := by rw [show (N - 3) + 3 = N by omega]
 rw [h, Nat.mul_add]
 omega
theorem row_cells {r : Nat} (hr : r < rws N d) : 1 ≤ kR N d r ∧ kR N d r ≤ N - 3 ∧ kR N d r + 3 = min N (d + 3 * rws N d - r * N) ∧ r * N + (kR N d r + 3) ≤ d + 3 * rws N d ∧ r * (N - 3) + kR N d r ≤ d := by
 have h0 := (row_more hN hd).1 hr
 obtain ⟨h1, h2, h3⟩ := rws_spec hN hd
 have h4 := row_at hN r
 unfold kR
 generalize rws N d = q at *
 rcases Nat.lt_or_ge (r + 1) q with h5 | h5
 ·have h6 : (r + 1) * (N - 3) ≤ (q - 1) * (N - 3) := Nat.mul_le_mul_right _ (by omega)
  rw [Nat.succ_mul] at h6
  generalize r * (N - 3) = x at *
  generalize (q - 1) * (N - 3) = y at *
  generalize q * (N - 3) = z at *
  omega
 ·obtain rfl : q = r + 1 := by omega
  rw [Nat.succ_mul] at h2
  generalize r * (N - 3) = x at *
  generalize (r + 1 - 1) * (N - 3) = y at *
  omega
theorem row_next {r : Nat} (hr : r < rws N d) : (if r + 1 < rws N d then kR N d r = N - 3 else (r * N + (kR N d r + 3) = d + 3 * rws N d ∧ r * (N - 3) + kR N d r = d)) := by
 have h0 := (row_more hN hd).1 hr
 obtain ⟨h1, h2, h3⟩ := rws_spec hN hd
 have h4 := row_at hN r
 unfold kR
 generalize rws N d = q at *
 rcases Nat.lt_or_ge (r + 1) q with h5 | h5
 ·rw [if_pos h5]
  have h6 : (r + 1) * (N - 3) ≤ (q - 1) * (N - 3) := Nat.mul_le_mul_right _ (by omega)
  rw [Nat.succ_mul] at h6
  generalize r * (N - 3) = x at *
  generalize (q - 1) * (N - 3) = y at *
  generalize q * (N - 3) = z at *
  omega
 ·rw [if_neg (by omega)]
  obtain rfl : q = r + 1 := by omega
  rw [Nat.succ_mul] at h2
  generalize r * (N - 3) = x at *
  generalize (r + 1 - 1) * (N - 3) = y at *
  omega
end
section
variable {N : Nat}
theorem cell_row {r p : Nat} (hp : p < N) : (r * N + p) / N = r ∧ (r * N + p) % N = p := by
 have h0 : 0 < N := by omega
 constructor
 ·rw [Nat.mul_comm, Nat.mul_add_div h0, Nat.div_eq_of_lt hp, Nat.add_zero]
 ·rw [Nat.mul_comm, Nat.mul_add_mod, Nat.mod_eq_of_lt hp]
theorem cellX_par (n : Nat) (X : Nat → Nat) {r p : Nat} (v : Nat) (hN : 3 ≤ N) (hp : p < 3) : cellX N n X (r * N + p) v = M.par (kR N (secs n) r) p (fun t => secD n X (r * (N - 3) + t)) v := by
 obtain ⟨h1, h2⟩ := cell_row (N := N) (r := r) (p := p) (by omega)
 unfold cellX
 rw [h1, h2, if_pos hp]
theorem cellX_data (n : Nat) (X : Nat → Nat) {r t : Nat} (v : Nat) (ht : t + 3 < N) : cellX N n X (r * N + 3 + t) v = secD n X (r * (N - 3) + t) v := by
 obtain ⟨h1, h2⟩ := cell_row (N := N) (r := r) (p := 3 + t) (by omega)
 unfold cellX
 rw [Nat.add_assoc, h1, h2, if_neg (by omega), show 3 + t - 3 = t by omega]
end
end Arr
end Go.Proofs.YtgbehfkimchglaaGreatDoor
