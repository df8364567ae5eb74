/-
  The walk of 'RackArms': behind Arm(n) just n writes and flushes are carried out. Conditions: what the reading of the arguments gives.
-/
import Derived.Test.YtfdalbaemkekoaaLawArgs
import Derived.Test.YtfdalbaemkekoaaRackSays
import Derived.Test.YtfdalbaemkekoaaRackLose
namespace Go.Proofs.Ytfdalbaemkekoaa
open Go Go.RowKit
set_option linter.unusedVariables false
namespace rackArms

structure AInv (s : RS) (n i : Nat) : Prop where
  nd : s.nd = 3
  ns : s.ns = 4
  g0 : s.gone 0 = false
  g1 : s.gone 1 = true
  g2 : s.gone 2 = false
  cost : s.cost ≤ i
  on : i ≤ n → s.off = false ∧ s.armed = true ∧ s.left = n - i
  dead : n < i → s.off = true
theorem AInv.pow {s : RS} {n i : Nat} (h : AInv s n i) : s.pow = decide (i < n) := by
  unfold RS.pow
  by_cases h1 : i ≤ n
  · obtain ⟨e1, e2, e3⟩ := h.on h1
    rw [e1, e2, e3]
    by_cases h2 : i < n
    · have h3 : ¬ (n - i = 0) := by omega
      simp [h2, h3]
    · have h3 : n - i = 0 := by omega
      simp [h2, h3]
  · have h3 : ¬ i < n := by omega
    rw [h.dead (by omega)]
    simp [h3]
theorem AInv.spent {s : RS} {n i : Nat} (h : AInv s n i) : AInv s.spent n (i + 1) := by
  unfold RS.spent
  by_cases h1 : i ≤ n
  · obtain ⟨e1, e2, e3⟩ := h.on h1
    rw [e1, e2]
    by_cases h2 : s.left = 0
    · rw [if_neg (by simp), if_neg (by simp), if_pos h2]
      exact ⟨h.nd, h.ns, h.g0, h.g1, h.g2, by have := h.cost; show s.cost ≤ _; omega, fun h3 => by omega, fun _ => rfl⟩
    · rw [if_neg (by simp), if_neg (by simp), if_neg h2]
      exact ⟨h.nd, h.ns, h.g0, h.g1, h.g2, by have := h.cost; show s.cost ≤ _; omega, fun h3 => ⟨rfl, rfl, by show s.left - 1 = _; omega⟩, fun h3 => by omega⟩
  · have e := h.dead (by omega)
    rw [if_pos e]
    exact ⟨h.nd, h.ns, h.g0, h.g1, h.g2, by have := h.cost; omega, fun h3 => by omega, fun _ => e⟩
theorem AInv.flush {s : RS} {n i : Nat} (h : AInv s n i) : AInv (if s.pow then s.spent.flushed else s.spent) n (i + 1) := by
  have h1 := h.spent
  split
  · exact ⟨h1.nd, h1.ns, h1.g0, h1.g1, h1.g2, h1.cost, h1.on, h1.dead⟩
  · exact h1
theorem spent_cost (s : RS) : s.spent.cost = s.cost := (spent_same s).2.2.2.2.1
theorem AInv.write {s : RS} {n i : Nat} (h : AInv s n i) (d a : Nat) (X : Nat → Nat) : AInv (if s.pow then s.spent.wrote d a X else s.spent) n (i + 1) := by
  have h1 := h.spent
  split
  · exact ⟨h1.nd, h1.ns, h1.g0, h1.g1, h1.g2, by have := h.cost; have := spent_cost s; show s.spent.cost + 1 ≤ _; omega, h1.on, h1.dead⟩
  · exact h1
theorem AInv.start {n : Nat} (hn : n ≤ 30) : AInv (((RS.new 3 4).lost 1).arm (n : Int)) n 0 :=
  ⟨rfl, rfl, rfl, rfl, rfl, Nat.le_refl _, fun _ => ⟨rfl, by show decide (0 ≤ (n : Int)) = true; simp, by show (n : Int).toNat = _; omega⟩, fun h => absurd h (Nat.not_lt_zero _)⟩

theorem umod (a k : Int) (hk : 0 < k) (hk2 : k ≤ 1000000) : ∃ n : Nat, wrap64 ((IntKind.u64.wrap a).tmod k) = (n : Int) ∧ (n : Int) < k := by
  have h0 : 0 ≤ IntKind.u64.wrap a := by rw [IntKind.wrap_u64]; omega
  have h1 := Int.tmod_nonneg k h0
  have h2 := Int.tmod_lt_of_pos (IntKind.u64.wrap a) hk
  refine ⟨((IntKind.u64.wrap a).tmod k).toNat, ?_, by omega⟩
  generalize (IntKind.u64.wrap a).tmod k = y at *
  unfold wrap64
  omega
theorem write_row {B : Nat} (w : World) (r : Nat) (s S' : RS) (E D A : Int) (d a : Nat) (v : Value) (X : Nat → Nat) (h : RackAt B w r s) (hD : D = (d : Int)) (hA : A = (a : Int)) (hd : d < s.nd) (ha : a < s.ns) (hg : s.gone d = false) (hv : Row8 w v 128 X) (hX : ∀ j, j < 128 → X j < 256) (hcost : s.cost + 1 ≤ 1000000)
    (hE : E = if s.pow then 0 else 16) (hS : S' = if s.pow then s.spent.wrote d a X else s.spent) :
    Calls Try.prog 17 #[.pointer (some ⟨r, 0, none⟩), .int .i64 D, .int .i64 A, v] w fun e w' => e = .returned (.int .i64 E) ∧ RackAt B w' r S' ∧ Keep B w w' := by
  obtain ⟨g, c, cs, rfl, hb, hx⟩ := hv
  subst hD hA
  exact write_go w r s S' E d a g 0 c X _ cs h hd ha hg hb rfl (fun j hj => ⟨hx j hj, hX j hj⟩) hcost hE hS
theorem write_gone {B : Nat} (w : World) (r : Nat) (s : RS) (D A : Int) (d a : Nat) (v : Value) (X : Nat → Nat) (h : RackAt B w r s) (hD : D = (d : Int)) (hA : A = (a : Int)) (hd : d < s.nd) (ha : a < s.ns) (hg : s.gone d = true) (hv : Row8 w v 128 X) :
    Calls Try.prog 17 #[.pointer (some ⟨r, 0, none⟩), .int .i64 D, .int .i64 A, v] w fun e w' => e = .returned (.int .i64 3) ∧ RackAt B w' r s ∧ Keep B w w' := by
  obtain ⟨g, c, cs, rfl, hb, hx⟩ := hv
  subst hD hA
  have hw : s.why (d : Int) (a : Int) = 3 := by
    have e : s.isP (d : Int) (a : Int) = true := by simp [RS.isP, RS.isD]; omega
    unfold RS.why
    rw [if_pos e, Int.toNat_natCast, hg]
    rfl
  have h1 := write_why w r s (d : Int) (a : Int) (some ⟨g, 0, none⟩) c h (by rw [hw]; omega)
  rw [hw] at h1
  exact h1

end rackArms
end Go.Proofs.Ytfdalbaemkekoaa
