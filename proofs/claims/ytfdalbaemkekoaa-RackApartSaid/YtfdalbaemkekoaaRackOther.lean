/-
  What befalls one drive touches no other one: the states of a rack, as mathematics. No conditions beyond those that each theorem types.
-/
import Derived.Test.YtfdalbaemkekoaaRackSays
import Derived.Test.YtfdalbaemkekoaaLawCalm
import Derived.Test.YtfdalbaemkekoaaRackLose
import Derived.Test.YtfdalbaemkekoaaRackRot
import Derived.Test.YtfdalbaemkekoaaRackCrash
namespace Go.Proofs.Ytfdalbaemkekoaa
open Go Go.RowKit
set_option linter.unusedVariables false
namespace rackApart

def nb (d a : Nat) : Int := ((d * 10 + a : Nat) : Int)
/-- the first n of the sixteen are written -/
structure PInv (s : RS) (n : Nat) : Prop where
  nd : s.nd = 4
  ns : s.ns = 4
  calm : s.calm
  gone : ∀ d, s.gone d = false
  cost : s.cost ≤ n
  says : ∀ d a, a < 4 → d * 4 + a < n → s.holds d a = bv 128 (nb d a)
theorem PInv.start : PInv (RS.new 4 4) 0 := ⟨rfl, rfl, ⟨rfl, rfl⟩, fun _ => rfl, Nat.le_refl _, fun d a _ h => absurd h (Nat.not_lt_zero _)⟩
theorem PInv.write {s : RS} {d a : Nat} (h : PInv s (d * 4 + a)) (ha : a < 4) : PInv (s.wrote d a (bv 128 (nb d a))) (d * 4 + a + 1) := by
  refine ⟨h.nd, h.ns, h.calm, h.gone, by have := h.cost; show s.cost + 1 ≤ _; omega, fun d' a' ha' hn => ?_⟩
  rw [holds_wrote]
  by_cases e : d' = d ∧ a' = a
  · rw [if_pos e, e.1, e.2]
  · rw [if_neg e]
    exact h.says d' a' ha' (by omega)
/-- whatever befell drive q -/
structure AInv (s : RS) (q i : Nat) : Prop where
  nd : s.nd = 4
  ns : s.ns = 4
  calm : s.calm
  gone : ∀ d, d ≠ q → s.gone d = false
  cost : s.cost ≤ 16 + i
  wait : ∀ k, k < s.nw → (s.W k).d = q
  last : ∀ d a, d < 4 → a < 4 → d ≠ q → s.last d a = bv 128 (nb d a)
theorem newIn_other {W : Nat → Wt} {d a q : Nat} (hd : d ≠ q) : ∀ k, (∀ j, j < k → (W j).d = q) → newIn W d a k = none
  | 0, _ => rfl
  | k + 1, h => by
    rw [newIn_succ, if_neg (fun x => hd (x.1.symm.trans (h k (Nat.lt_succ_self _))))]
    exact newIn_other hd k fun j hj => h j (by omega)
theorem lay_other {s : RS} {d a q : Nat} {P : Nat → Bool} (hd : d ≠ q) : ∀ k, (∀ j, j < k → (s.W j).d = q) → s.lay P k d a = s.last d a
  | 0, _ => rfl
  | k + 1, h => by
    unfold RS.lay
    rw [if_neg (fun x => hd (x.2.1.symm.trans (h k (Nat.lt_succ_self _))))]
    exact lay_other hd k fun j hj => h j (by omega)
theorem keptL_own {W : Nat → Wt} {q : Nat} : ∀ k, (∀ j, j < k → (W j).d = q) → keptL W q k = []
  | 0, _ => rfl
  | k + 1, h => by
    unfold keptL
    rw [if_pos (h k (Nat.lt_succ_self _))]
    exact keptL_own k fun j hj => h j (by omega)
theorem AInv.holds {s : RS} {q i d a : Nat} (h : AInv s q i) (hd : d < 4) (ha : a < 4) (hq : d ≠ q) : s.holds d a = bv 128 (nb d a) := by
  unfold RS.holds
  rw [newIn_other hq _ h.wait]
  exact h.last d a hd ha hq
theorem PInv.flushed {s : RS} (h : PInv s 16) (q : Nat) : AInv s.flushed q 0 :=
  ⟨h.nd, h.ns, h.calm, fun d _ => h.gone d, h.cost, fun k hk => absurd hk (Nat.not_lt_zero _), fun d a hd ha _ => by
    have e : s.flushed.last d a = s.holds d a := by rw [← holds_flushed]; rfl
    rw [e]
    exact h.says d a ha (by omega)⟩
section
variable {s : RS} {q i : Nat}
theorem AInv.more (h : AInv s q i) : AInv s q (i + 1) := ⟨h.nd, h.ns, h.calm, h.gone, by have := h.cost; omega, h.wait, h.last⟩
theorem AInv.wrote (h : AInv s q i) (a : Nat) (X : Nat → Nat) : AInv (s.wrote q a X) q (i + 1) := by
  refine ⟨h.nd, h.ns, h.calm, h.gone, by have := h.cost; show s.cost + 1 ≤ _; omega, fun k hk => ?_, h.last⟩
  show (if k = s.nw then (⟨q, a, X⟩ : Wt) else s.W k).d = q
  by_cases e : k = s.nw
  · rw [if_pos e]
  · rw [if_neg e]
    exact h.wait k (by have : k < s.nw + 1 := hk; omega)
theorem AInv.laid (h : AInv s q i) (P : Nat → Bool) : AInv (s.laid P) q (i + 1) :=
  ⟨h.nd, h.ns, h.calm, h.gone, by have := h.cost; show s.cost ≤ _; omega, fun k hk => absurd hk (Nat.not_lt_zero _), fun d a hd ha hq => (lay_other hq s.nw h.wait).trans (h.last d a hd ha hq)⟩
theorem AInv.flushed (h : AInv s q i) : AInv s.flushed q (i + 1) := h.laid _
theorem AInv.crashed (h : AInv s q i) (P : Nat → Bool) : AInv (s.crashed P) q (i + 1) := by
  have h1 := h.laid P
  exact ⟨h1.nd, h1.ns, ⟨rfl, rfl⟩, h1.gone, h1.cost, h1.wait, h1.last⟩
theorem AInv.wiped (h : AInv s q i) : AInv (s.wiped q) q (i + 1) := by
  have hk := keptL_own s.nw h.wait
  refine ⟨h.nd, h.ns, h.calm, h.gone, by have := h.cost; show s.cost ≤ _; omega, fun k hk' => ?_, fun d a hd ha hq => ?_⟩
  · have : k < (keptL s.W q s.nw).length := hk'
    rw [hk] at this
    exact absurd this (Nat.not_lt_zero _)
  · show (if d = q then zeros else s.last d a) = _
    rw [if_neg hq]
    exact h.last d a hd ha hq
theorem AInv.setGone (h : AInv s q i) (b : Bool) : AInv (s.setGone q b) q i :=
  ⟨h.nd, h.ns, h.calm, fun d hd => by
    show (if d = q then b else s.gone d) = false
    rw [if_neg hd]
    exact h.gone d hd, h.cost, h.wait, h.last⟩
theorem AInv.lost (h : AInv s q i) : AInv (s.lost q) q (i + 1) := h.wiped.setGone true
theorem AInv.anew (h : AInv s q i) : AInv (s.anew q) q (i + 1) := h.wiped.setGone false
theorem AInv.rotted (h : AInv s q i) (a n : Nat) : AInv (s.rotted q a n) q (i + 1) := by
  cases hi : newIn s.W q a s.nw with
  | some k0 =>
    rw [rotted_some hi]
    refine ⟨h.nd, h.ns, h.calm, h.gone, by have := h.cost; show s.cost + 1 ≤ _; omega, fun k hk => ?_, h.last⟩
    show (putW s.W k0 (rotF (s.W k0).x n) k).d = q
    unfold putW
    by_cases e : k = k0
    · rw [if_pos e]
      exact (newIn_lt hi).2.1
    · rw [if_neg e]
      exact h.wait k hk
  | none =>
    rw [rotted_none hi]
    refine ⟨h.nd, h.ns, h.calm, h.gone, by have := h.cost; show s.cost + 1 ≤ _; omega, h.wait, fun d a' hd ha hq => ?_⟩
    show (if d = q ∧ a' = a then rotF (s.last q a) n else s.last d a') = _
    rw [if_neg (fun x => hq x.1)]
    exact h.last d a' hd ha hq
end
end rackApart
end Go.Proofs.Ytfdalbaemkekoaa
