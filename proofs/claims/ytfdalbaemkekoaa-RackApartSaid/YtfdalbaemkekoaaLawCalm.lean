/-
  A rack whose power is on and that isn't armed: Write, Flush, Read by contracts. Conditions: the rack is one; the place is its own.
-/
import Derived.Test.YtfdalbaemkekoaaLawStr
namespace Go.Proofs.Ytfdalbaemkekoaa
open Go Go.RowKit
set_option linter.unusedVariables false

/-- the power is on, and stays -/
def RS.calm (s : RS) : Prop := s.off = false ∧ s.armed = false
theorem RS.calm.pow {s : RS} (h : s.calm) : s.pow = true := by unfold RS.pow; rw [h.1, h.2]; rfl
theorem RS.calm.spent {s : RS} (h : s.calm) : s.spent = s := by unfold RS.spent; rw [h.1, h.2]; rfl
theorem RS.calm.wrote {s : RS} (h : s.calm) (d a : Nat) (X : Nat → Nat) : (s.wrote d a X).calm := h
theorem RS.calm.laid {s : RS} (h : s.calm) (P : Nat → Bool) : (s.laid P).calm := h
theorem RS.calm.flushed {s : RS} (h : s.calm) : s.flushed.calm := h
theorem RS.crashed_calm (s : RS) (P : Nat → Bool) : (s.crashed P).calm := ⟨rfl, rfl⟩
section
variable {B : Nat} {w w' : World} {r : Nat} {s : RS}
theorem write_calm (w : World) (r : Nat) (s : RS) (D A : Int) (d a : Nat) (v : Value) (X : Nat → Nat) (h : RackAt B w r s) (hc : s.calm) (hD : D = (d : Int)) (hA : A = (a : Int)) (hd : d < s.nd) (ha : a < s.ns) (hg : s.gone d = false) (hv : Row8 w v 128 X) (hX : ∀ j, j < 128 → X j < 256) (hcost : s.cost + 1 ≤ 1000000) :
    Calls Try.prog 17 #[.pointer (some ⟨r, 0, none⟩), .int .i64 D, .int .i64 A, v] w fun e w' => e = .returned (.int .i64 0) ∧ RackAt B w' r (s.wrote d a X) ∧ Keep B w w' := by
  obtain ⟨g, c, cs, rfl, hb, hx⟩ := hv
  subst hD hA
  exact write_go w r s (s.wrote d a X) 0 d a g 0 c X _ cs h hd ha hg hb rfl (fun j hj => ⟨hx j hj, hX j hj⟩) hcost (by rw [hc.pow]; rfl) (by rw [hc.pow, hc.spent]; rfl)
theorem flush_calm (w : World) (r : Nat) (s : RS) (h : RackAt B w r s) (hc : s.calm) :
    Calls Try.prog 8 #[.pointer (some ⟨r, 0, none⟩)] w fun e w' => e = .returned (.int .i64 0) ∧ RackAt B w' r s.flushed ∧ Keep B w w' :=
  flush_any w r s s.flushed 0 h (by rw [hc.pow]; rfl) (by rw [hc.pow, hc.spent]; rfl)
theorem RackAt.ok (h : RackAt B w r s) : s.ok := h.1
theorem RS.holds_lt {s : RS} (h : s.ok) (d a j : Nat) (hj : j < 128) : s.holds d a j < 256 := by
  unfold RS.holds
  cases hi : newIn s.W d a s.nw with
  | some i => exact (h.wp i (newIn_lt hi).1).2.2 j hj
  | none => exact h.lp d a j hj
theorem read_calm (w : World) (r : Nat) (s : RS) (D A : Int) (d a : Nat) (h : RackAt B w r s) (hc : s.calm) (hD : D = (d : Int)) (hA : A = (a : Int)) (hd : d < s.nd) (ha : a < s.ns) (hg : s.gone d = false) :
    Calls Try.prog 19 #[.pointer (some ⟨r, 0, none⟩), .int .i64 D, .int .i64 A] w fun e w' => ∃ v, e = .returned (.tuple #[v, .int .i64 0]) ∧ Row8 w' v 128 (s.holds d a) ∧ RackAt B w' r s ∧ Keep B w w' := by
  subst hD hA
  exact (read_ok w r s d a h hd ha hg hc.1).mono fun e w' ⟨⟨v, h1, h2⟩, h3, h4⟩ => ⟨v, h1, Row8.of_own h2 (by omega), h3, h4⟩
theorem bytes_calm (f : Int) (w : World) (hf : -9223372036854775808 ≤ f ∧ f ≤ 9223372036854775807) :
    Calls Try.prog 18 #[.int .i64 f, .int .i64 0] w fun e w' => ∃ v, e = .returned v ∧ Row8 w' v 128 (bv 128 f) ∧ Below w.heap.size w w' :=
  (bytes_any f 0 128 w hf (by omega) (by omega)).mono fun e w' ⟨h1, h2, h3⟩ => ⟨_, h1, Row8.of_blk h2, h3⟩
end
end Go.Proofs.Ytfdalbaemkekoaa
