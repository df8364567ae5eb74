/-
  What a rack holds behind a write, a flush, a crash: plain words on its state. No conditions beyond those that each theorem types.
-/
import Derived.Test.YtfdalbaemkekoaaLawCalm
namespace Go.Proofs.Ytfdalbaemkekoaa
open Go Go.RowKit
set_option linter.unusedVariables false

theorem newIn_wrote (s : RS) (d a : Nat) (X : Nat → Nat) (d' a' : Nat) : ∀ k, k ≤ s.nw → newIn (s.wrote d a X).W d' a' k = newIn s.W d' a' k := fun k hk =>
  newIn_congr fun i hi => by
    have : (s.wrote d a X).W i = s.W i := if_neg (by omega)
    rw [this]
    exact ⟨rfl, rfl⟩
theorem newIn_succ (W : Nat → Wt) (d a k : Nat) : newIn W d a (k + 1) = if (W k).d = d ∧ (W k).a = a then some k else newIn W d a k := rfl
theorem holds_wrote (s : RS) (d a : Nat) (X : Nat → Nat) (d' a' : Nat) : (s.wrote d a X).holds d' a' = if d' = d ∧ a' = a then X else s.holds d' a' := by
  have e : (s.wrote d a X).W s.nw = ⟨d, a, X⟩ := if_pos rfl
  unfold RS.holds
  show (match newIn (s.wrote d a X).W d' a' (s.nw + 1) with | some i => ((s.wrote d a X).W i).x | none => s.last d' a') = _
  rw [newIn_succ, e]
  by_cases h : d = d' ∧ a = a'
  · obtain ⟨rfl, rfl⟩ := h
    rw [if_pos ⟨rfl, rfl⟩, if_pos ⟨rfl, rfl⟩]
    show ((s.wrote d a X).W s.nw).x = X
    rw [e]
  · rw [if_neg h, if_neg (fun x => h ⟨x.1.symm, x.2.symm⟩), newIn_wrote s d a X d' a' s.nw (Nat.le_refl _)]
    cases hi : newIn s.W d' a' s.nw with
    | none => rfl
    | some i =>
      have hlt := (newIn_lt hi).1
      have : (s.wrote d a X).W i = s.W i := if_neg (by omega)
      simp only [this]
theorem lay_all (s : RS) (d a : Nat) : ∀ k, s.lay (fun _ => true) k d a = match newIn s.W d a k with | some i => (s.W i).x | none => s.last d a
  | 0 => rfl
  | k + 1 => by
    rw [newIn_succ]
    unfold RS.lay
    by_cases h : (s.W k).d = d ∧ (s.W k).a = a
    · simp only [h.1, h.2, and_self, if_true]
    · rw [if_neg (fun x => h x.2), if_neg h]
      exact lay_all s d a k
theorem holds_flushed (s : RS) (d a : Nat) : s.flushed.holds d a = s.holds d a := by
  show s.lay (fun _ => true) s.nw d a = _
  rw [lay_all]
  rfl
theorem holds_crashed (s : RS) (P : Nat → Bool) (d a : Nat) : (s.crashed P).holds d a = s.lay P s.nw d a := rfl
theorem holds_new (nd ns d a : Nat) : (RS.new nd ns).holds d a = zeros := rfl
end Go.Proofs.Ytfdalbaemkekoaa
