/-
 Plain arithmetic of parities: up to three columns that are missing are told by as many parities: the factors have an inverse, and what is worked out by it is what was there. Conditions: the columns are below 13, the parities below 3, each above the one ahead of it.
-/
import Derived.Test.YtkbndlnmbbbohaaGreatDoorFieldGaussM
import Derived.Test.YtkbndlnmbbbohaaGreatDoorArrCallsM
import Derived.Test.YtkbndlnmbbbohaaGreatDoorFieldElimM
import Derived.ProofKit
import Derived.Deep.Matrix
import Derived.Laws.BytesArg
import Derived.Test.YtkbndlnmbbbohaaGreatDoorParKnownM
import Derived.BigRegion
set_option linter.unusedVariables false
namespace Go.Proofs.YtkbndlnmbbbohaaGreatDoor.M
set_option maxRecDepth 100000
theorem xsum_swap (n m : Nat) (f : Nat → Nat → Nat) : xsum n (fun i => xsum m (fun j => f i j)) = xsum m (fun j => xsum n (fun i => f i j)) := by
 induction n with
 | zero => exact (xsum_zero m _ (fun _ _ => rfl)).symm
 | succ n ih =>
  show xsum n _ ^^^ xsum m (fun j => f n j) = _
  rw [ih, ← xsum_xor]
  rfl
def Undo (n : Nat) (G F : Nat → Nat → Nat) : Prop := (∀ x, x < n → ∀ y, y < n → G x y < 256) ∧ ∀ x, x < n → ∀ x', x' < n → xsum n (fun y => gmul (G x y) (F y x')) = if x = x' then 1 else 0
theorem undo_zero {n : Nat} {G F : Nat → Nat → Nat} (hF : ∀ y x, F y x < 256) (h : Undo n G F) {z : Nat → Nat} (hz : ∀ x, x < n → z x < 256) (h0 : ∀ y, y < n → xsum n (fun x => gmul (F y x) (z x)) = 0) : ∀ x, x < n → z x = 0 := by
 intro x hx
 have e1 : z x = xsum n (fun x' => gmul (xsum n (fun y => gmul (G x y) (F y x'))) (z x')) := by
  rw [xsum_one n _ x hx (fun j hj hne => by rw [h.2 x hx j hj, if_neg (fun e => hne e.symm), gmul_zero_left]), h.2 x hx x hx, if_pos rfl, gmul_comm, gmul_one (hz x hx)]
 have e2 : xsum n (fun x' => gmul (xsum n (fun y => gmul (G x y) (F y x'))) (z x')) = xsum n (fun x' => xsum n (fun y => gmul (G x y) (gmul (F y x') (z x')))) := by
  refine xsum_congr fun x' hx' => ?_
  rw [gmul_comm, ← xsum_mul (hz x' hx') (fun j _ => gmul_lt _ _)]
  refine xsum_congr fun y hy => ?_
  rw [gmul_comm (z x'), gmul_assoc]
 rw [e1, e2, xsum_swap]
 refine xsum_zero n _ fun y hy => ?_
 rw [xsum_mul (h.1 x hx y hy) (fun _ _ => gmul_lt _ _), h0 y hy, gmul_zero_right]
theorem mend_eq {n : Nat} {G F C : Nat → Nat → Nat} (hF : ∀ y x, F y x < 256) (h : Undo n G F) (hC : ∀ r, r < n → ∀ y, y < n → xsum n (fun x => gmul (F y x) (C r x)) = if y = r then 1 else 0) (hCl : ∀ r, r < n → ∀ x, x < n → C r x < 256)
  {d : Nat → Nat} (hd : ∀ x, x < n → d x < 256) : ∀ x, x < n → xsum n (fun r => gmul (C r x) (xsum n (fun x' => gmul (F r x') (d x')))) = d x := by
 intro x hx
 have hL : ∀ r, xsum n (fun x' => gmul (F r x') (d x')) < 256 := fun r => xsum_lt fun _ _ => gmul_lt _ _
 have hO : ∀ x, xsum n (fun r => gmul (C r x) (xsum n (fun x' => gmul (F r x') (d x')))) < 256 := fun x => xsum_lt fun _ _ => gmul_lt _ _
 have h0 := undo_zero hF h (z := fun x => xsum n (fun r => gmul (C r x) (xsum n (fun x' => gmul (F r x') (d x')))) ^^^ d x) (fun x hx => xor_lt (hO x) (hd x hx)) ?_ x hx
 ·have h1 := congrArg (fun t => t ^^^ d x) h0
  simpa [Nat.xor_assoc] using h1
 intro y hy
 have e1 : xsum n (fun x => gmul (F y x) (xsum n (fun r => gmul (C r x) (xsum n (fun x' => gmul (F r x') (d x')))) ^^^ d x)) = xsum n (fun x => gmul (F y x) (xsum n (fun r => gmul (C r x) (xsum n (fun x' => gmul (F r x') (d x'))))) ^^^ gmul (F y x) (d x)) :=
  xsum_congr fun x hx => gmul_xor (hF y x) (hO x) (hd x hx)
 have e2 : xsum n (fun x => gmul (F y x) (xsum n (fun r => gmul (C r x) (xsum n (fun x' => gmul (F r x') (d x')))))) = xsum n (fun x => xsum n (fun r => gmul (xsum n (fun x' => gmul (F r x') (d x'))) (gmul (F y x) (C r x)))) := by
  refine xsum_congr fun x hx => ?_
  rw [← xsum_mul (hF y x) (fun _ _ => gmul_lt _ _)]
  refine xsum_congr fun r hr => ?_
  rw [gmul_assoc, gmul_comm]
 have e3 : xsum n (fun r => xsum n (fun x => gmul (xsum n (fun x' => gmul (F r x') (d x'))) (gmul (F y x) (C r x)))) = xsum n (fun x' => gmul (F y x') (d x')) := by
  have q : ∀ r, r < n → xsum n (fun x => gmul (xsum n (fun x' => gmul (F r x') (d x'))) (gmul (F y x) (C r x))) = gmul (xsum n (fun x' => gmul (F r x') (d x'))) (if y = r then 1 else 0) := fun r hr => by
   rw [xsum_mul (hL r) (fun _ _ => gmul_lt _ _), hC r hr y hy]
  rw [xsum_congr q, xsum_one n _ y hy (fun j hj hne => by rw [if_neg (fun e => hne e.symm), gmul_zero_right]), if_pos rfl, gmul_one (hL y)]
 rw [e1, xsum_xor, e2, xsum_swap, e3, Nat.xor_self]
theorem pw_pos' (m : Nat) : pw m ≠ 0 := by
 rw [← pw_mod]
 have := pw_pos (Nat.mod_lt m (show 255 > 0 by omega))
 omega
theorem pw_all (m : Nat) : pw m < 256 := by rw [← pw_mod]; exact pw_lt (Nat.mod_lt _ (by omega))
theorem pw_inj {m n : Nat} (hm : m < 255) (hn : n < 255) (h : pw m = pw n) : m = n := by rw [← lg_pw hm, ← lg_pw hn, h]
theorem xor_ne {a b : Nat} (h : a ≠ b) : a ^^^ b ≠ 0 := fun e => h (by have h1 := congrArg (fun t => t ^^^ b) e; simpa [Nat.xor_assoc] using h1)
theorem xsum2 (f : Nat → Nat) : xsum 2 f = f 0 ^^^ f 1 := by show (0 ^^^ f 0) ^^^ f 1 = _; rw [Nat.zero_xor]
theorem xsum3 (f : Nat → Nat) : xsum 3 f = f 0 ^^^ f 1 ^^^ f 2 := by show ((0 ^^^ f 0) ^^^ f 1) ^^^ f 2 = _; rw [Nat.zero_xor]
def fac (l j : Nat → Nat) (y x : Nat) : Nat := pw (l x * j y)
theorem fac_lt (l j : Nat → Nat) (y x : Nat) : fac l j y x < 256 := pw_all _
theorem undo1 (l j : Nat → Nat) : ∃ G, Undo 1 G (fac l j) := by
 refine ⟨fun _ _ => ginv (fac l j 0 0), fun _ _ _ _ => ginv_lt _, fun x hx x' hx' => ?_⟩
 obtain rfl : x = 0 := by omega
 obtain rfl : x' = 0 := by omega
 show 0 ^^^ gmul (ginv (fac l j 0 0)) (fac l j 0 0) = _
 rw [Nat.zero_xor, gmul_comm, gmul_ginv (fac_lt _ _ _ _) (pw_pos' _)]
 rfl
theorem scale (a b i : Nat) : gmul (gmul a i) b = gmul i (gmul a b) := by rw [gmul_comm a i, ← gmul_assoc]
theorem undo2 (l j : Nat → Nat) (hl : l 0 < l 1) (hl2 : l 1 < 13) (hj : j 0 < j 1) (hj2 : j 1 < 3) : ∃ G, Undo 2 G (fac l j) := by
 have hD : gmul (fac l j 0 0) (fac l j 1 1) ≠ gmul (fac l j 0 1) (fac l j 1 0) := by
  unfold fac
  rw [gmul_pw, gmul_pw]
  intro e
  have b1 : ∀ a b : Nat, a < 13 → b < 3 → a * b ≤ 12 * 2 := fun a b ha hb => Nat.mul_le_mul (by omega) (by omega)
  have c1 := b1 (l 0) (j 0) (by omega) (by omega)
  have c2 := b1 (l 1) (j 1) (by omega) (by omega)
  have c3 := b1 (l 1) (j 0) (by omega) (by omega)
  have c4 := b1 (l 0) (j 1) (by omega) (by omega)
  have h := pw_inj (by omega) (by omega) e
  obtain ⟨p, hp⟩ : ∃ p, l 1 = l 0 + p + 1 := ⟨l 1 - l 0 - 1, by omega⟩
  obtain ⟨q, hq⟩ : ∃ q, j 1 = j 0 + q + 1 := ⟨j 1 - j 0 - 1, by omega⟩
  rw [hp, hq] at h
  have e1 : (l 0 + p + 1) * (j 0 + q + 1) = (l 0 + p + 1) * j 0 + (l 0 * (q + 1) + (p + 1) * (q + 1)) := by
   rw [Nat.add_assoc (j 0) q 1, Nat.mul_add, Nat.add_assoc (l 0) p 1, Nat.add_mul (l 0) (p + 1) (q + 1)]
  have e2 : l 0 * (j 0 + q + 1) = l 0 * j 0 + l 0 * (q + 1) := by rw [Nat.add_assoc, Nat.mul_add]
  rw [e1, e2] at h
  have e3 : 0 < (p + 1) * (q + 1) := Nat.mul_pos (by omega) (by omega)
  omega
 obtain ⟨D, hDe⟩ : ∃ D, D = gmul (fac l j 0 0) (fac l j 1 1) ^^^ gmul (fac l j 0 1) (fac l j 1 0) := ⟨_, rfl⟩
 have hD0 : D ≠ 0 := by rw [hDe]; exact xor_ne hD
 have hDl : D < 256 := by rw [hDe]; exact xor_lt (gmul_lt _ _) (gmul_lt _ _)
 have hii := gmul_ginv hDl hD0
 have hIl := ginv_lt D
 generalize ginv D = I at *
 have hp := fac_lt l j 0 0
 have hq := fac_lt l j 0 1
 have hr := fac_lt l j 1 0
 have hs := fac_lt l j 1 1
 refine ⟨fun x y => gmul (if x = 0 then (if y = 0 then fac l j 1 1 else fac l j 0 1) else (if y = 0 then fac l j 1 0 else fac l j 0 0)) I, fun _ _ _ _ => gmul_lt _ _, fun x hx x' hx' => ?_⟩
 have hx2 : x = 0 ∨ x = 1 := by omega
 have hx2' : x' = 0 ∨ x' = 1 := by omega
 rcases hx2 with rfl | rfl <;> rcases hx2' with rfl | rfl <;> rw [xsum2]
 ·show gmul (gmul (fac l j 1 1) I) (fac l j 0 0) ^^^ gmul (gmul (fac l j 0 1) I) (fac l j 1 0) = 1
  rw [scale, scale, ← gmul_xor hIl (gmul_lt _ _) (gmul_lt _ _), gmul_comm (fac l j 1 1), ← hDe, gmul_comm, hii]
 ·show gmul (gmul (fac l j 1 1) I) (fac l j 0 1) ^^^ gmul (gmul (fac l j 0 1) I) (fac l j 1 1) = 0
  rw [scale, scale, gmul_comm (fac l j 1 1) (fac l j 0 1), Nat.xor_self]
 ·show gmul (gmul (fac l j 1 0) I) (fac l j 0 0) ^^^ gmul (gmul (fac l j 0 0) I) (fac l j 1 0) = 0
  rw [scale, scale, gmul_comm (fac l j 1 0) (fac l j 0 0), Nat.xor_self]
 ·show gmul (gmul (fac l j 1 0) I) (fac l j 0 1) ^^^ gmul (gmul (fac l j 0 0) I) (fac l j 1 1) = 1
  rw [scale, scale, ← gmul_xor hIl (gmul_lt _ _) (gmul_lt _ _), gmul_comm (fac l j 1 0), Nat.xor_comm, ← hDe, gmul_comm, hii]
theorem vieta {t u v : Nat} (ht : t < 256) (hu : u < 256) (hv : v < 256) : gmul u v ^^^ gmul (u ^^^ v) t ^^^ gmul t t = gmul (t ^^^ u) (t ^^^ v) := by
 rw [gmul_xor_left ht hu (xor_lt ht hv), gmul_xor ht ht hv, gmul_xor hu ht hv, gmul_xor_left hu hv ht, gmul_comm v t]
 generalize gmul u v = p
 generalize gmul u t = q
 generalize gmul t v = r
 generalize gmul t t = s
 rw [Nat.xor_comm (s ^^^ r) (q ^^^ p), Nat.xor_comm q p, Nat.xor_assoc p q, Nat.xor_comm s r, ← Nat.xor_assoc q r s, ← Nat.xor_assoc p (q ^^^ r) s]
def oth0 (x : Nat) : Nat := if x = 0 then 1 else 0
def oth1 (x : Nat) : Nat := if x = 2 then 1 else 2
theorem undo3 (l : Nat → Nat) (h1 : l 0 < l 1) (h2 : l 1 < l 2) (h3 : l 2 < 13) : ∃ G, Undo 3 G (fac l (fun y => y)) := by
 obtain ⟨a, ha⟩ : ∃ a : Nat → Nat, a = fun x => pw (l x) := ⟨_, rfl⟩
 have al : ∀ x, a x < 256 := fun x => by rw [ha]; exact pw_all _
 have ll : ∀ x, x < 3 → l x < 13 := fun x hx => by
  match x, hx with
  | 0, _ => omega
  | 1, _ => omega
  | 2, _ => omega
 have ne : ∀ x y, x < 3 → y < 3 → x ≠ y → a x ≠ a y := fun x y hx hy hn e => by
  rw [ha] at e
  have h := pw_inj (by have := ll x hx; omega) (by have := ll y hy; omega) e
  match x, y, hx, hy with
  | 0, 1, _, _ => omega
  | 0, 2, _, _ => omega
  | 1, 0, _, _ => omega
  | 1, 2, _, _ => omega
  | 2, 0, _, _ => omega
  | 2, 1, _, _ => omega
  | 0, 0, _, _ => exact hn rfl
  | 1, 1, _, _ => exact hn rfl
  | 2, 2, _, _ => exact hn rfl
 have f0 : ∀ x, fac l (fun y => y) 0 x = 1 := fun x => by unfold fac; rw [Nat.mul_zero, pw_zero]
 have f1 : ∀ x, fac l (fun y => y) 1 x = a x := fun x => by unfold fac; rw [Nat.mul_one, ha]
 have f2 : ∀ x, fac l (fun y => y) 2 x = gmul (a x) (a x) := fun x => by unfold fac; rw [ha, gmul_pw, Nat.mul_two]
 have o0 : ∀ x, x < 3 → oth0 x < 3 ∧ oth0 x ≠ x := fun x hx => by unfold oth0; split <;> omega
 have o1 : ∀ x, x < 3 → oth1 x < 3 ∧ oth1 x ≠ x := fun x hx => by unfold oth1; split <;> omega
 have oo : ∀ x x', x < 3 → x' < 3 → x ≠ x' → x' = oth0 x ∨ x' = oth1 x := fun x x' hx hx' hne => by unfold oth0 oth1; split <;> split <;> omega
 obtain ⟨I, hI⟩ : ∃ I : Nat → Nat, I = fun x => ginv (gmul (a x ^^^ a (oth0 x)) (a x ^^^ a (oth1 x))) := ⟨_, rfl⟩
 refine ⟨fun x y => gmul (if y = 0 then gmul (a (oth0 x)) (a (oth1 x)) else if y = 1 then a (oth0 x) ^^^ a (oth1 x) else 1) (I x), fun _ _ _ _ => gmul_lt _ _, fun x hx x' hx' => ?_⟩
 have hIl : I x < 256 := by rw [hI]; exact ginv_lt _
 have hii := gmul_ginv (gmul_lt (a x ^^^ a (oth0 x)) (a x ^^^ a (oth1 x))) (gmul_pos (xor_ne (ne x _ hx (o0 x hx).1 (o0 x hx).2.symm)) (xor_ne (ne x _ hx (o1 x hx).1 (o1 x hx).2.symm)))
 have hIe : I x = ginv (gmul (a x ^^^ a (oth0 x)) (a x ^^^ a (oth1 x))) := by rw [hI]
 rw [← hIe] at hii
 rw [xsum3]
 show gmul (gmul (gmul (a (oth0 x)) (a (oth1 x))) (I x)) (fac l (fun y => y) 0 x') ^^^ gmul (gmul (a (oth0 x) ^^^ a (oth1 x)) (I x)) (fac l (fun y => y) 1 x') ^^^ gmul (gmul 1 (I x)) (fac l (fun y => y) 2 x') = _
 rw [scale (gmul (a (oth0 x)) (a (oth1 x))) _ (I x), scale (a (oth0 x) ^^^ a (oth1 x)) _ (I x), scale 1 _ (I x), f0, f1, f2, gmul_one (gmul_lt _ _), gmul_comm 1 (gmul (a x') (a x')), gmul_one (gmul_lt (a x') (a x')), ← gmul_xor hIl (gmul_lt _ _) (gmul_lt _ _), ← gmul_xor hIl (xor_lt (gmul_lt _ _) (gmul_lt _ _)) (gmul_lt _ _), vieta (al x') (al _) (al _)]
 by_cases e : x = x'
 ·subst e
  rw [if_pos rfl, gmul_comm, hii]
 ·rw [if_neg e]
  rcases oo x x' hx hx' e with h | h
  ·rw [h, Nat.xor_self, gmul_zero_left, gmul_zero_right]
  ·rw [h, Nat.xor_self, gmul_zero_right, gmul_zero_right]
theorem undo_all {n : Nat} (hn : n ≤ 3) (l j : Nat → Nat) (hl : ∀ x y, x < y → y < n → l x < l y) (hl2 : ∀ x, x < n → l x < 13) (hj : ∀ x y, x < y → y < n → j x < j y) (hj2 : ∀ x, x < n → j x < 3) : ∃ G, Undo n G (fac l j) := by
 match n, hn with
 | 0, _ => exact ⟨fun _ _ => 0, fun x hx => absurd hx (by omega), fun x hx => absurd hx (by omega)⟩
 | 1, _ => exact undo1 l j
 | 2, _ => exact undo2 l j (hl 0 1 (by omega) (by omega)) (hl2 1 (by omega)) (hj 0 1 (by omega) (by omega)) (hj2 1 (by omega))
 | 3, _ =>
  have a1 := hj 0 1 (by omega) (by omega)
  have a2 := hj 1 2 (by omega) (by omega)
  have a3 := hj2 2 (by omega)
  obtain ⟨G, hG⟩ := undo3 l (hl 0 1 (by omega) (by omega)) (hl 1 2 (by omega) (by omega)) (hl2 2 (by omega))
  refine ⟨G, hG.1, fun x hx x' hx' => ?_⟩
  rw [← hG.2 x hx x' hx']
  refine xsum_congr fun y hy => ?_
  have e : j y = y := by
   match y, hy with
   | 0, _ => omega
   | 1, _ => omega
   | 2, _ => omega
  unfold fac
  rw [e]
end Go.Proofs.YtkbndlnmbbbohaaGreatDoor.M
namespace Go.Proofs.YtkbndlnmbbbohaaGreatDoor
open Go.RowKit Go.ChangeShapes Go.WideShapes Go.ChangeAt
set_option maxRecDepth 100000
set_option linter.unusedVariables false
section
variable {H : Type} {enc : TypeId × Value → H} {P : Program} {W : World} {base : Nat} {held : Bool}
end
end Go.Proofs.YtkbndlnmbbbohaaGreatDoor
namespace Go.Proofs.YtkbndlnmbbbohaaGreatDoor
open Go.RowKit
set_option maxRecDepth 100000
set_option linter.unusedVariables false
theorem hdArr_swap {n m k p : Nat} {R : Nat → Nat} (hk : k < n) (hp : p < n) :
  ((hdArr n m R).setIfInBounds k (.slice (some ⟨R p, 0, none⟩) m m)).setIfInBounds p (.slice (some ⟨R k, 0, none⟩) m m) = hdArr n m (fun i => R (M.swapR k p i)) := by
 rw [hdArr_set hk, hdArr_set hp]
 refine hdArr_congr fun c _ => ?_
 by_cases h1 : c = k
 ·subst h1
  by_cases h2 : c = p
  ·subst h2; simp [M.swapR]
  ·simp [M.swapR, h2]
 ·by_cases h2 : c = p
  ·subst h2; simp [M.swapR, h1]
  ·simp [M.swapR, h1, h2]
theorem Mat.swap {w : World} {bo n k p : Nat} {R : Nat → Nat} {m : Nat → Nat → Nat} (h : Mat w bo n R m) (hk : k < n) (hp : p < n) :
  Mat ((w.setCell ⟨bo, k, none⟩ (.slice (some ⟨R p, 0, none⟩) (n + 1) (n + 1))).setCell ⟨bo, p, none⟩ (.slice (some ⟨R k, 0, none⟩) (n + 1) (n + 1))).drew bo n (fun i => R (M.swapR k p i)) (fun i => m (M.swapR k p i)) := by
 refine ⟨?_, fun i hi => ?_, fun a b ha hb e => ?_⟩
 ·have h1 := (h.head.set_ k (.slice (some ⟨R p, 0, none⟩) (n + 1) (n + 1))).set_ p (.slice (some ⟨R k, 0, none⟩) (n + 1) (n + 1))
  rw [hdArr_swap hk hp] at h1
  exact h1
 ·have hi' := M.swapR_lt hk hp hi
  have hne := (h.ne_ hi').symm
  exact ((h.row _ hi').far (p := ⟨bo, k, none⟩) hne _).far (p := ⟨bo, p, none⟩) hne _
 ·have h1 := h.inj _ _ (M.swapR_lt hk hp ha) (M.swapR_lt hk hp hb) e
  have h2 := congrArg (M.swapR k p) h1
  rwa [M.swapR_swapR, M.swapR_swapR] at h2
structure At (w0 w : World) (B b bo n k : Nat) (R : Nat → Nat) (m m0 : Nat → Nat → Nat) : Prop where
 mat : Mat w bo n R m
 fld : Blk w b 236 (fcells 1 0 255)
 below : Below B w0 w
 hB : B ≤ bo ∧ ∀ i, i < n → B ≤ R i
 small : M.Small n m
 units : M.Units n m k
 sol : ∀ z, M.SmallV n z → (M.Sol n m z ↔ M.Sol n m0 z)
theorem At.swap {w0 w : World} {B b bo n k p : Nat} {R : Nat → Nat} {m m0 : Nat → Nat → Nat} (h : At w0 w B b bo n k R m m0) (hk : k < n) (hp : p < n) (hkp : k ≤ p) :
  At w0 ((w.setCell ⟨bo, k, none⟩ (.slice (some ⟨R p, 0, none⟩) (n + 1) (n + 1))).setCell ⟨bo, p, none⟩ (.slice (some ⟨R k, 0, none⟩) (n + 1) (n + 1))).drew B b bo n k (fun i => R (M.swapR k p i)) (fun i => m (M.swapR k p i)) m0 := by
 have hbb : b ≠ bo := Blk.ne_ h.fld h.mat.head (by decide)
 exact ⟨h.mat.swap hk hp, (h.fld.far (p := ⟨bo, k, none⟩) hbb _).far (p := ⟨bo, p, none⟩) hbb _, ((h.below.setCell (p := ⟨bo, k, none⟩) h.hB.1 _).setCell (p := ⟨bo, p, none⟩) h.hB.1 _).drew,
  ⟨h.hB.1, fun i hi => h.hB.2 _ (M.swapR_lt hk hp hi)⟩, fun i hi => h.small _ (M.swapR_lt hk hp hi), M.units_swap hk hp hkp h.units, fun z hz => (M.sol_swap hk hp m z).trans (h.sol z hz)⟩
theorem At.elim {w0 w w' : World} {B b bo n k : Nat} {R : Nat → Nat} {m m0 : Nat → Nat → Nat} (h : At w0 w B b bo n k R m m0) (hk : k < n) (hp : m k k ≠ 0) (hm : Mat w' bo n R (M.elim m k)) (ho : OnlyR n R w w') :
  At w0 w' B b bo n (k + 1) R (M.elim m k) m0 :=
 ⟨hm, ho.blk h.fld (fun i hi => h.fld.ne_ (h.mat.row i hi) (by decide)), h.below.trans (ho.below h.hB.2), h.hB, M.elim_small hk h.small, M.units_elim hk h.small h.units hp, fun z hz => (M.sol_elim hk h.small hz).trans (h.sol z hz)⟩
theorem first_pivot (n k : Nat) (m : Nat → Nat → Nat) : (∃ p, k ≤ p ∧ p < n ∧ m p k ≠ 0 ∧ ∀ i, k ≤ i → i < p → m i k = 0) ∨ ∀ i, k ≤ i → i < n → m i k = 0 := by
 have aux : ∀ q, q ≤ n → (∃ p, k ≤ p ∧ p < q ∧ m p k ≠ 0 ∧ ∀ i, k ≤ i → i < p → m i k = 0) ∨ ∀ i, k ≤ i → i < q → m i k = 0 := by
  intro q
  induction q with
  | zero => exact fun _ => .inr fun i _ hi => absurd hi (by omega)
  | succ q ih =>
   intro hq
   rcases ih (by omega) with ⟨p, h1, h2, h3, h4⟩ | h
   ·exact .inl ⟨p, h1, by omega, h3, h4⟩
   ·by_cases hk : k ≤ q ∧ m q k ≠ 0
    ·exact .inl ⟨q, hk.1, by omega, hk.2, h⟩
    ·refine .inr fun i h1 h2 => ?_
     by_cases e : i = q
     ·subst e
      by_cases e2 : m i k = 0
      ·exact e2
      ·exact absurd ⟨h1, e2⟩ hk
     ·exact h i h1 (by omega)
 rcases aux n (Nat.le_refl _) with ⟨p, h1, h2, h3, h4⟩ | h
 ·exact .inl ⟨p, h1, h2, h3, h4⟩
 ·exact .inr h
inductive Solved (w0 w : World) (B n : Nat) (m0 : Nat → Nat → Nat) : Ending → Prop where
 | one (g : Nat) (X : Nat → Nat) (hg : B ≤ g) (hb : Blk w g 5 (rowArr n X)) (hX : ∀ i, i < n → X i < 256) (hs : ∀ z, M.SmallV n z → (M.Sol n m0 z ↔ ∀ i, i < n → z i = M.gmul (X i) (z n))) :
   Solved w0 w B n m0 (.returned (.tuple #[.slice (some ⟨g, 0, none⟩) n n, .int .i64 0]))
 | none (z : Nat → Nat) (hz : M.SmallV n z) (hn : z n = 0) (hne : ∃ j, j < n ∧ z j ≠ 0) (hs : M.Sol n m0 z) :
   Solved w0 w B n m0 (.returned (.tuple #[.slice none 0 0, .int .i64 7]))
theorem join_at {w1 w2 : World} {b n : Nat} {x : Nat → Nat → Nat} {y : Nat → Nat} (h : JoinAt w1 w2 n n x y) (hb : Blk w1 b 236 (fcells 1 0 255)) (hx : ∀ i, i < n → ∀ j, j < n → x i j < 256) (hy : ∀ i, i < n → y i < 256) :
  At w1 w2 w1.heap.size b w1.heap.size n 0 (fun j => w1.heap.size + 1 + j) (joinM n x y) (joinM n x y) := by
 refine ⟨⟨?_, fun i hi => h.row i hi, fun i j _ _ e => by omega⟩, hb.below h.below hb.lt, h.below, ⟨Nat.le_refl _, fun i _ => by omega⟩, ?_, fun j hj => absurd hj (by omega), fun z _ => Iff.rfl⟩
 ·have h1 := h.head
  rw [hdP_full] at h1
  exact h1
 ·intro i hi j hj
  unfold joinM
  split
  ·rename_i h2
   exact hx i hi j h2
  ·exact hy i hi
set_option maxRecDepth 100000 in
set_option maxHeartbeats 400000 in
theorem solve_bad (b : Nat) (A A2 : Option Addr) (n c m c2 : Nat) (B : Nat) (ra : Nat → Option Addr) (rl rc : Nat → Nat) (x : Nat → Nat → Nat) (w : World) (hr : RdR w B A n ra rl rc x) (hq : ¬ IsSq n m rl) :
  Calls Tryz.prog 189 #[.pointer (some ⟨b, 0, none⟩), .slice A n c, .slice A2 m c2] w fun e w' => e = .returned (.tuple #[.slice none 0 0, .int .i64 1]) ∧ w = w' := by
 have HR := Lib.hid hr
 have HQ := Lib.hid hq
 clear hr hq
 go_enter Tryz.func189, Tryz.ntmps189
 go_wp2_with fail
 refine (square_no _ _ _ _ _ _ B ra rl rc x _ HR.out HQ.out).mono ?_
 rintro e w' ⟨rfl, rfl⟩
 go_wp2_with fail
 go_ret2
 exact ⟨rfl, rfl⟩
set_option maxRecDepth 100000 in
set_option maxHeartbeats 1600000 in
theorem solve_ok (b : Nat) (A A2 : Option Addr) (n c c2 : Nat) (B B2 : Nat) (ra : Nat → Option Addr) (rl rc : Nat → Nat) (x : Nat → Nat → Nat) (y : Nat → Nat) (w : World) (hB : B ≤ w.heap.size) (hB2 : B2 ≤ w.heap.size)
  (hrs : ∀ w1, Only b w w1 → RdR w1 B A n ra rl rc x) (hys : ∀ w1, Only b w w1 → RdB w1 B2 A2 n y) (hq : IsSq n n rl) (hb : Fld w b) :
  Calls Tryz.prog 189 #[.pointer (some ⟨b, 0, none⟩), .slice A n c, .slice A2 n c2] w fun e w' => Solved w w' w.heap.size n (joinM n x y) e ∧ Fld w' b ∧ Only b w w' := by
 have hr := hrs w (Only.refl _ _)
 have hy := hys w (Only.refl _ _)
 have HR := Lib.hid hr
 have HRS := Lib.hid hrs
 have HYS := Lib.hid hys
 have HQ := Lib.hid hq
 have HB := Lib.hid hb
 have hn1 := hq.1
 have hn8 := hq.2.1
 have HX : Hid (∀ i, i < n → ∀ j, j < n → x i j < 256) := by
  intro i hi j hj
  obtain ⟨_, _, _, _, _, h5⟩ := hr i hi
  have h6 := hq.2.2.2 i hi
  rw [h6] at h5
  obtain ⟨_, _, _, _, _, h7⟩ := h5 j hj
  exact h7
 have HYL : Hid (∀ i, i < n → y i < 256) := by
  intro i hi
  obtain ⟨_, _, _, _, _, h7⟩ := hy i hi
  exact h7
 clear hr hy hrs hys hq hb
 go_enter Tryz.func189, Tryz.ntmps189
 go_wp2_with fail
 refine (square_yes _ _ _ _ _ _ B ra rl rc x _ HR.out HQ.out).mono ?_
 rintro e w0 ⟨rfl, rfl⟩
 go_wp2_with fail
 refine (ready_some b _ HB.out).mono ?_
 rintro e w1 ⟨rfl, hf1, ho1⟩
 have F1 := Lib.hid hf1
 have O1 := Lib.hid ho1
 have R1 := Lib.hid (HRS.out _ ho1)
 have Y1 := Lib.hid (HYS.out _ ho1)
 have s1 : w.heap.size ≤ w1.heap.size := ho1.size
 clear hf1 ho1 HR HRS HYS
 go_wp2_with fail
 refine (join_any _ _ _ _ _ B B2 ra rl rc x y _ (by omega) (by omega) R1.out Y1.out HQ.out).mono ?_
 rintro e w2 ⟨rfl, hj⟩
 have HA := Lib.hid (join_at hj F1.out HX.out HYL.out)
 clear hj
 generalize hz : w1.heap.size = z at *
 have HZ := Lib.hid hz
 clear hz
 generalize hm0 : joinM n x y = m0 at *
 have HM0 := Lib.hid hm0
 clear hm0
 go_wp2_with fail
 go_loopw [26] (fun v wr => ∃ k : Nat, k ≤ n ∧ v = .int .i64 k ∧ Hid (∃ R m, At w1 wr z b z n k R m m0)) (fun v _ => n - (intOf v).toNat)
 case atStart => exact ⟨0, by omega, rfl, _, _, HA.out⟩
 case round =>
  obtain ⟨k, hk, rfl, H⟩ := hrel
  clear HA
  by_cases hlt : k < n
  ·obtain ⟨R, m, h⟩ := H.out
   have HM := Lib.hid h
   clear h H
   rcases first_pivot n k m with ⟨p, hkp, hp, hne, hzero⟩ | hzero
   ·have HN := Lib.hid hne
    have H0 := Lib.hid hzero
    clear hne hzero
    go_wp2_with fail
    refine (pivot_yes _ _ k p R m _ hn8 HM.out.mat hkp hp HN.out H0.out).mono ?_
    rintro e w' ⟨rfl, rfl⟩
    have d1 := HM.out.mat.headCell hlt
    have d2 := HM.out.mat.headCell hp
    have f1 := HM.out.mat.head.frozen k
    have f2 := HM.out.mat.head.frozen p
    go_wp2_with fail
    have HS := Lib.hid (HM.out.swap hlt hp hkp)
    have HN2 : Hid (m (M.swapR k p k) k ≠ 0) := by
     have e : M.swapR k p k = p := if_pos rfl
     rw [e]
     exact HN.out
    have HR2 : Hid (∃ R' m', m' k k ≠ 0 ∧ At w1 (((wr.setCell ⟨z, k, none⟩ (.slice (some ⟨R p, 0, none⟩) (n + 1) (n + 1))).setCell ⟨z, p, none⟩ (.slice (some ⟨R k, 0, none⟩) (n + 1) (n + 1))).drew) z b z n k R' m' m0) :=
     ⟨_, _, HN2.out, HS.out⟩
    clear HS HN2 HN H0 HM
    by_cases e : k = p
    ·subst e
     generalize R k = r at *
     go_region
     go_wp2_with fail
     obtain ⟨R', m', hne', h'⟩ := HR2.out
     have HM' := Lib.hid h'
     have HN' := Lib.hid hne'
     clear h' hne' HR2 d1 d2 f1 f2
     refine (elim_any b z n k R' m' _ hn8 hlt HM'.out.fld HM'.out.mat HM'.out.small HN'.out).mono ?_
     rintro e w3 ⟨rfl, hm3, ho3⟩
     have HK : Hid (∃ R m, At w1 w3 z b z n (k + 1) R m m0) := ⟨_, _, HM'.out.elim hlt HN'.out hm3 ho3⟩
     clear hm3 ho3 HM' HN'
     go_wp2_with fail
     go_roundw
     case rel => exact ⟨k + 1, by omega, by go_num, HK⟩
     case measure => simp [intOf]; omega
    ·generalize R k = r at *
     generalize R p = r2 at *
     go_region
     go_wp2_with fail
     obtain ⟨R', m', hne', h'⟩ := HR2.out
     have HM' := Lib.hid h'
     have HN' := Lib.hid hne'
     clear h' hne' HR2 d1 d2 f1 f2
     refine (elim_any b z n k R' m' _ hn8 hlt HM'.out.fld HM'.out.mat HM'.out.small HN'.out).mono ?_
     rintro e w3 ⟨rfl, hm3, ho3⟩
     have HK : Hid (∃ R m, At w1 w3 z b z n (k + 1) R m m0) := ⟨_, _, HM'.out.elim hlt HN'.out hm3 ho3⟩
     clear hm3 ho3 HM' HN'
     go_wp2_with fail
     go_roundw
     case rel => exact ⟨k + 1, by omega, by go_num, HK⟩
     case measure => simp [intOf]; omega
   ·have H0 := Lib.hid hzero
    clear hzero
    go_wp2_with fail
    refine (pivot_no _ _ k R m _ hn8 hlt HM.out.mat H0.out).mono ?_
    rintro e w' ⟨rfl, rfl⟩
    have HK : Hid (Solved w wr w.heap.size n m0 (.returned (.tuple #[.slice none 0 0, .int .i64 7]))) := by
     refine .none (M.kern m k) (M.kern_small hlt HM.out.small) ?_ ⟨k, hlt, ?_⟩ ((HM.out.sol _ (M.kern_small hlt HM.out.small)).1 (M.kern_sol hlt HM.out.small HM.out.units H0.out))
     ·unfold M.kern
      rw [if_neg (by omega), if_neg (by omega)]
     ·unfold M.kern
      rw [if_neg (by omega), if_pos rfl]
      decide
    have HF : Hid (Fld wr b) := .inr HM.out.fld
    have HO : Hid (Only b w wr) := O1.out.trans (Only.of_below (by rw [HZ.out]; exact HM.out.below) b)
    clear HM H0
    go_wp2_with fail
    go_ret2
    exact ⟨by rw [HM0.out]; exact HK.out, HF.out, HO.out⟩
  ·have hmb := fun W => make_bytes n (by omega) W (n : Int) rfl
   have HK : Hid (∃ R m, At w1 wr z b z n n R m m0) := by
    have e : k = n := by omega
    rw [e] at H
    exact H.out
   clear H
   obtain ⟨R, m, h⟩ := HK.out
   have HM := Lib.hid h
   clear h HK
   have HX0 : Hid (Blk (wr.alloc (.cells (rowArr n fun _ => 0) 5)) wr.heap.size 5 (rowArr n fun j => if j < 0 then m j n else 0) ∧ At w1 (wr.alloc (.cells (rowArr n fun _ => 0) 5)) z b z n n R m m0) := by
    refine ⟨?_, ?_⟩
    ·have h := Blk.new wr 5 (rowArr n fun _ => 0)
     have e : rowArr n (fun _ => 0) = rowArr n (fun j => if j < 0 then m j n else 0) := rowArr_congr fun c _ => by rw [if_neg (by omega)]
     rw [← e]
     exact h
    ·have h := HM.out
     exact ⟨⟨h.mat.head.alloc _, fun i hi => (h.mat.row i hi).alloc _, h.mat.inj⟩, h.fld.alloc _, h.below.alloc (by have := h.below.size; rw [HZ.out] at this; exact this) _, h.hB, h.small, h.units, h.sol⟩
   have hg : Hid (z ≤ wr.heap.size) := by have := HM.out.below.size; rw [HZ.out] at this; exact this
   have HNE : Hid (∀ i, i < n → R i ≠ wr.heap.size) := fun i hi => by have := (HM.out.mat.row i hi).lt; omega
   have HNZ : Hid (z ≠ wr.heap.size ∧ b ≠ wr.heap.size) := ⟨by have := HM.out.mat.head.lt; omega, by have := HM.out.fld.lt; omega⟩
   go_wp2_with fail
   generalize wr.heap.size = g at *
   obtain ⟨wa, rfl⟩ : ∃ wa : World, wa = wr := ⟨_, rfl⟩
   go_loopw [58] (fun v wr => ∃ i : Nat, i ≤ n ∧ v = .int .i64 i ∧ Hid (Blk wr g 5 (rowArr n fun j => if j < i then m j n else 0) ∧ At w1 wr z b z n n R m m0)) (fun v _ => n - (intOf v).toNat)
   case atStart => exact ⟨0, by omega, rfl, HX0⟩
   case round =>
    obtain ⟨i, hi, rfl, H⟩ := hrel
    clear HX0 HM hmb
    by_cases hlt2 : i < n
    ·have c1 := H.out.2.mat.headCell hlt2
     have c2 := H.out.2.mat.cell (i := i) (j := n) hlt2 (Nat.le_refl _)
     have c3 : wr.cell? ⟨g, i, none⟩ = some (.int .u8 0) := by
      rw [H.out.1.cell, rowArr_get hlt2, if_neg (by omega)]; rfl
     have c4 := H.out.1.frozen i
     have HJ : Hid (Blk (wr.setCell ⟨g, i, none⟩ (.int .u8 ((m i n : Nat) : Int))) g 5 (rowArr n fun j => if j < i + 1 then m j n else 0) ∧ At w1 (wr.setCell ⟨g, i, none⟩ (.int .u8 ((m i n : Nat) : Int))) z b z n n R m m0) := by
      refine ⟨?_, ?_⟩
      ·have h := H.out.1.set_ i (.int .u8 ((m i n : Nat) : Int))
       rw [rowArr_set hlt2] at h
       have e : rowArr n (fun j => if j = i then m i n else if j < i then m j n else 0) = rowArr n (fun j => if j < i + 1 then m j n else 0) := rowArr_congr fun c _ => by
        by_cases e1 : c = i
        ·subst e1
         rw [if_pos rfl, if_pos (by omega)]
        ·rw [if_neg e1]
         by_cases e2 : c < i
         ·rw [if_pos e2, if_pos (by omega)]
         ·rw [if_neg e2, if_neg (by omega)]
       rw [← e]
       exact h
      ·have h := H.out.2
       exact ⟨⟨h.mat.head.far (p := ⟨g, i, none⟩) HNZ.out.1 _, fun j hj => (h.mat.row j hj).far (p := ⟨g, i, none⟩) (HNE.out j hj) _, h.mat.inj⟩, h.fld.far (p := ⟨g, i, none⟩) HNZ.out.2 _, h.below.setCell (p := ⟨g, i, none⟩) hg.out _, h.hB, h.small, h.units, h.sol⟩
     clear H
     generalize R i = r at *
     generalize m i n = v at *
     go_wp2_with fail
     go_roundw
     case rel => exact ⟨i + 1, by omega, by go_num, HJ⟩
     case measure => simp [intOf]; omega
    ·have HK : Hid (Solved w wr w.heap.size n m0 (.returned (.tuple #[.slice (some ⟨g, 0, none⟩) n n, .int .i64 0]))) := by
      refine .one g (fun j => m j n) (by have := hg.out; omega) ?_ (fun j hj => H.out.2.small j hj n (Nat.le_refl _)) (fun v hv => (H.out.2.sol v hv).symm.trans (M.sol_done H.out.2.units hv))
      have e : rowArr n (fun j => m j n) = rowArr n (fun j => if j < i then m j n else 0) := rowArr_congr fun c hc => by rw [if_pos (by omega)]
      rw [e]
      exact H.out.1
     have HF : Hid (Fld wr b) := .inr H.out.2.fld
     have HO : Hid (Only b w wr) := O1.out.trans (Only.of_below (by rw [HZ.out]; exact H.out.2.below) b)
     clear H
     go_wp2_with fail
     go_ret2
     exact ⟨by rw [HM0.out]; exact HK.out, HF.out, HO.out⟩
end Go.Proofs.YtkbndlnmbbbohaaGreatDoor
namespace Go.Proofs.YtkbndlnmbbbohaaGreatDoor
open Go.RowKit
set_option maxRecDepth 100000
set_option linter.unusedVariables false
def vec (n : Nat) (v : Nat → Nat) (t j : Nat) : Nat := if j < n then v j else t
theorem vec_small {n t : Nat} {v : Nat → Nat} (hv : ∀ j, j < n → v j < 256) (ht : t < 256) : M.SmallV n (vec n v t) := by
 intro j hj
 unfold vec
 split
 ·rename_i h; exact hv j h
 ·exact ht
theorem vec_last (n t : Nat) (v : Nat → Nat) : vec n v t n = t := if_neg (by omega)
theorem dot_vec (n i t : Nat) (x : Nat → Nat → Nat) (y v : Nat → Nat) : M.dot (n + 1) (joinM n x y i) (vec n v t) = M.xsum n (fun k => M.gmul (x i k) (v k)) ^^^ M.gmul (y i) t := by
 show M.xsum n _ ^^^ M.gmul (joinM n x y i n) (vec n v t n) = _
 rw [vec_last]
 have e1 : joinM n x y i n = y i := if_neg (by omega)
 rw [e1, M.xsum_congr (fun j hj => ?_)]
 show M.gmul (joinM n x y i j) (vec n v t j) = M.gmul (x i j) (v j)
 unfold joinM vec
 rw [if_pos hj, if_pos hj]
end Go.Proofs.YtkbndlnmbbbohaaGreatDoor
