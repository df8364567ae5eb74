/-
  A rack and the document's rack beside it: what both are, kept by each pair of calls. No conditions beyond those that each theorem types.
-/
import Derived.Test.YtlbmeaioiiflkaaRefNew
import Derived.Test.YtlbmeaioiiflkaaRefRot
namespace Go.Proofs.Ytlbmeaioiiflkaa
open Go Go.RowKit
set_option linter.unusedVariables false
namespace refRack
/-- the document's rack t is what the rack s is, but for what a lost drive holds -/
structure Sim (s t : RS) : Prop where
  nd : t.nd = s.nd
  ns : t.ns = s.ns
  nw : t.nw = s.nw
  W : t.W = s.W
  gone : t.gone = s.gone
  off : t.off = s.off
  armed : t.armed = s.armed
  left : t.left = s.left
  last : ∀ d, s.gone d = false → t.last d = s.last d
theorem Sim.start (nd ns : Nat) : Sim (RS.new nd ns) (RS.new nd ns) := ⟨rfl, rfl, rfl, rfl, rfl, rfl, rfl, rfl, fun _ _ => rfl⟩
section
variable {s t : RS}
theorem Sim.isD (h : Sim s t) (D : Int) : t.isD D = s.isD D := by unfold RS.isD; rw [h.nd]
theorem Sim.isP (h : Sim s t) (D E : Int) : t.isP D E = s.isP D E := by unfold RS.isP; rw [h.isD, h.ns]
theorem Sim.why (h : Sim s t) (D E : Int) : t.why D E = s.why D E := by unfold RS.why; rw [h.isP, h.gone]
theorem Sim.deny (h : Sim s t) (D E : Int) : t.deny D E = s.deny D E := by unfold RS.deny; rw [h.why, h.off]
theorem Sim.pow (h : Sim s t) : t.pow = s.pow := by unfold RS.pow; rw [h.off, h.armed, h.left]
theorem Sim.holds (h : Sim s t) {d : Nat} (hg : s.gone d = false) (a : Nat) : t.holds d a = s.holds d a := by
  unfold RS.holds
  rw [h.W, h.nw, h.last d hg]
theorem Sim.spent (h : Sim s t) : Sim s.spent t.spent := by
  unfold RS.spent
  rw [h.off, h.armed, h.left]
  by_cases h1 : s.off = true
  · rw [if_pos h1, if_pos h1]; exact h
  · rw [if_neg h1, if_neg h1]
    by_cases h2 : (!s.armed) = true
    · rw [if_pos h2, if_pos h2]; exact h
    · rw [if_neg h2, if_neg h2]
      by_cases h3 : s.left = 0
      · rw [if_pos h3, if_pos h3]
        exact ⟨h.nd, h.ns, h.nw, h.W, h.gone, rfl, rfl, rfl, h.last⟩
      · rw [if_neg h3, if_neg h3]
        exact ⟨h.nd, h.ns, h.nw, h.W, h.gone, rfl, rfl, rfl, h.last⟩
theorem Sim.wrote (h : Sim s t) (d a : Nat) (X : Nat → Nat) : Sim (s.wrote d a X) (t.wrote d a X) := by
  refine ⟨h.nd, h.ns, ?_, ?_, h.gone, h.off, h.armed, h.left, h.last⟩
  · show t.nw + 1 = s.nw + 1
    rw [h.nw]
  · show (fun i => if i = t.nw then (⟨d, a, X⟩ : Wt) else t.W i) = fun i => if i = s.nw then (⟨d, a, X⟩ : Wt) else s.W i
    rw [h.nw, h.W]
theorem Sim.lay (h : Sim s t) (P : Nat → Bool) {d : Nat} (hg : s.gone d = false) : ∀ k, t.lay P k d = s.lay P k d
  | 0 => h.last d hg
  | k + 1 => by
    funext a
    show (if P k = true ∧ (t.W k).d = d ∧ (t.W k).a = a then (t.W k).x else t.lay P k d a) = if P k = true ∧ (s.W k).d = d ∧ (s.W k).a = a then (s.W k).x else s.lay P k d a
    rw [h.W, h.lay P hg k]
theorem Sim.laid (h : Sim s t) (P : Nat → Bool) : Sim (s.laid P) (t.laid P) :=
  ⟨h.nd, h.ns, rfl, h.W, h.gone, h.off, h.armed, h.left, fun d hg => by
    show t.lay P t.nw d = s.lay P s.nw d
    rw [h.nw]
    exact h.lay P hg s.nw⟩
theorem Sim.flushed (h : Sim s t) : Sim s.flushed t.flushed := h.laid _
theorem Sim.crashed (h : Sim s t) (P : Nat → Bool) : Sim (s.crashed P) (t.crashed P) := by
  have h1 := h.laid P
  exact ⟨h1.nd, h1.ns, h1.nw, h1.W, h1.gone, rfl, rfl, rfl, h1.last⟩
theorem Sim.arm (h : Sim s t) (n : Int) : Sim (s.arm n) (t.arm n) := ⟨h.nd, h.ns, h.nw, h.W, h.gone, h.off, rfl, rfl, h.last⟩
theorem Sim.lost (h : Sim s t) (d : Nat) : Sim (s.lost d) ((forgot t d).setGone d true) := by
  refine ⟨h.nd, h.ns, ?_, ?_, ?_, h.off, h.armed, h.left, fun d' hg => ?_⟩
  · show (keptL t.W d t.nw).length = (keptL s.W d s.nw).length
    rw [h.W, h.nw]
  · show (fun i => (keptL t.W d t.nw).getD i ⟨0, 0, zeros⟩) = fun i => (keptL s.W d s.nw).getD i ⟨0, 0, zeros⟩
    rw [h.W, h.nw]
  · show (fun i => if i = d then true else t.gone i) = fun i => if i = d then true else s.gone i
    rw [h.gone]
  · have hg' : (if d' = d then true else s.gone d') = false := hg
    by_cases e : d' = d
    · rw [if_pos e] at hg'; cases hg'
    · rw [if_neg e] at hg'
      show t.last d' = fun a' => if d' = d then zeros else s.last d' a'
      simp only [if_neg e, h.last d' hg']
theorem Sim.anew (h : Sim s t) (d : Nat) : Sim (s.anew d) { (forgot t d).setGone d false with last := fun d' a' => if d' = d then zeros else t.last d' a' } := by
  refine ⟨h.nd, h.ns, ?_, ?_, ?_, h.off, h.armed, h.left, fun d' hg => ?_⟩
  · show (keptL t.W d t.nw).length = (keptL s.W d s.nw).length
    rw [h.W, h.nw]
  · show (fun i => (keptL t.W d t.nw).getD i ⟨0, 0, zeros⟩) = fun i => (keptL s.W d s.nw).getD i ⟨0, 0, zeros⟩
    rw [h.W, h.nw]
  · show (fun i => if i = d then false else t.gone i) = fun i => if i = d then false else s.gone i
    rw [h.gone]
  · have hg' : (if d' = d then false else s.gone d') = false := hg
    show (fun a' => if d' = d then zeros else t.last d' a') = fun a' => if d' = d then zeros else s.last d' a'
    by_cases e : d' = d
    · simp only [if_pos e]
    · rw [if_neg e] at hg'
      simp only [if_neg e, h.last d' hg']
theorem Sim.rotted (h : Sim s t) (d a n : Nat) (hg : s.gone d = false) : Sim (s.rotted d a n) (t.rotted d a n) := by
  cases hi : newIn s.W d a s.nw with
  | some i =>
    rw [rotted_some hi, rotted_some (show newIn t.W d a t.nw = some i by rw [h.W, h.nw]; exact hi)]
    refine ⟨h.nd, h.ns, h.nw, ?_, h.gone, h.off, h.armed, h.left, h.last⟩
    show putW t.W i (rotF (t.W i).x n) = putW s.W i (rotF (s.W i).x n)
    rw [h.W]
  | none =>
    rw [rotted_none hi, rotted_none (show newIn t.W d a t.nw = none by rw [h.W, h.nw]; exact hi)]
    refine ⟨h.nd, h.ns, h.nw, h.W, h.gone, h.off, h.armed, h.left, fun d' hg' => ?_⟩
    show (fun a' => if d' = d ∧ a' = a then rotF (t.last d a) n else t.last d' a') = fun a' => if d' = d ∧ a' = a then rotF (s.last d a) n else s.last d' a'
    rw [h.last d hg, h.last d' hg']
end
end refRack
end Go.Proofs.Ytlbmeaioiiflkaa
