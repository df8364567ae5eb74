/-
  The table of roots as the rows lay it: what the walks read of it. No conditions.
-/
import Derived.Test.YtllglgkphlkopaaDoorRows
import Derived.Test.YtllglgkphlkopaaDoorChecked
import Derived.Test.YtllglgkphlkopaaDoorShaOpen
import Derived.ProofKit
import Derived.LaidMore
import Derived.OpenShut
import Derived.Stop.Joined
namespace Go.Proofs.YtllglgkphlkopaaDoor
open Go Go.ChangeShapes Go.WideShapes Go.ChangeAt Go.RowKit
set_option linter.unusedVariables false

def laidL : List (String × DataW Unit) := [("hoard/sha.roots", Rows.laid_hoard_sha_roots)]
theorem gRoots : Tryd.prog.globalNamed "hoard/sha.roots" = some 0 := by kernel_rfl
theorem tRoots : (Tryd.prog.globals[0]?).map (·.type) = some 59 := by kernel_rfl
theorem door_met (os : Os) (args : Array Value) : laidMetH Tryd.prog laidL ((World.doorLaid Tryd.prog 400 os).forCall (fun _ _ => 0) ⟨#[], args, []⟩).memory :=
  laidMetH_of_parts3 (fuel := 8) (laidMet_of_run' 8 (by kernel_rfl) (by kernel_rfl)) (by kernel_rfl) (by kernel_rfl)
theorem roots_lits : (Rows.laid_hoard_sha_roots : DataW Unit) = .agg ((List.range 64).map fun t => .lit (.int .u32 ((M.rt t : Nat) : Int))) := by kernel_rfl
theorem laid_of {W : World} (h : laidMetH Tryd.prog laidL W) : Laid W := by
  rw [MakeChecks.laidMetH_plain _ _ _ (by kernel_rfl)] at h
  obtain ⟨ps, ⟨g0, t0, cs0, f0, p0, q0, hg0, ht0, hv0, hd0, _, _⟩, _, _⟩ := h
  obtain rfl := Option.some.inj (gRoots.symm.trans hg0)
  obtain rfl := Option.some.inj (tRoots.symm.trans ht0)
  obtain ⟨xs, m1, rfl, hx1, hlen, hn3, hel⟩ := DataW.trod_array Tryd.underlying59 hd0
  have c1 : Tryd.prog.cellsOf 51 = 1 := by kernel_rfl
  rw [roots_lits] at hx1
  simp only [Prod.mk.injEq, DataW.agg.injEq] at hx1
  intro t ht
  have h0 := hel t ht
  have hlx : t < xs.length := by omega
  rw [List.getElem?_eq_getElem hlx] at h0
  obtain ⟨k, e1, e2, _⟩ := DataW.trod_int Tryd.underlying51 h0
  have hk : k = ((M.rt t : Nat) : Int) := by
    have h1 := congrArg (fun l => l[t]?) hx1.1
    simp [hlx, ht, e2] at h1
    first | exact h1 | exact h1.symm
  have h2 := World.var?_cell hg0 hv0 t
  rw [h2]
  rw [c1, Nat.mul_one] at e1
  have h3 := congrArg (fun l => l[0]?) e1
  simp at h3
  rw [h3, hk]
end Go.Proofs.YtllglgkphlkopaaDoor
