/-
  What comes in as a list of ints or of bools. Conditions: what the reading of an argument gives.
-/
import Derived.Test.YtfdalbaemkekoaaLawKnown
import Derived.ProofKit
import Derived.Deep.Grids
namespace Go.Proofs.Ytfdalbaemkekoaa
open Go.RowKit Go.ChangeShapes Go.WideShapes Go.ChangeAt
set_option linter.unusedVariables false

def I64 (x : Int) : Prop := -9223372036854775808 ≤ x ∧ x ≤ 9223372036854775807
/-- n ints, below block B -/
def RdI (w : World) (B : Nat) (A : Option Addr) (n : Nat) (x : Nat → Int) : Prop :=
  ∀ i, i < n → ∃ b o, A = some ⟨b, o, none⟩ ∧ b < B ∧ w.cell? ⟨b, o + i, none⟩ = some (.int .i64 (x i)) ∧ I64 (x i)
def RdO (w : World) (B : Nat) (A : Option Addr) (n : Nat) (x : Nat → Bool) : Prop :=
  ∀ i, i < n → ∃ b o, A = some ⟨b, o, none⟩ ∧ b < B ∧ w.cell? ⟨b, o + i, none⟩ = some (.bool (x i))
theorem RdI.below {w w' : World} {B : Nat} {A : Option Addr} {n : Nat} {x : Nat → Int} (h : RdI w B A n x) (hb : Below B w w') : RdI w' B A n x := fun i hi => by
  obtain ⟨b, o, h1, h2, h3, h4⟩ := h i hi
  exact ⟨b, o, h1, h2, (hb.cell (p := ⟨b, o + i, none⟩) h2).trans h3, h4⟩
theorem RdO.below {w w' : World} {B : Nat} {A : Option Addr} {n : Nat} {x : Nat → Bool} (h : RdO w B A n x) (hb : Below B w w') : RdO w' B A n x := fun i hi => by
  obtain ⟨b, o, h1, h2, h3⟩ := h i hi
  exact ⟨b, o, h1, h2, (hb.cell (p := ⟨b, o + i, none⟩) h2).trans h3⟩
theorem add_block (a : Addr) (j : Nat) : (a.add j).block = a.block := by unfold Addr.add; split <;> rfl
theorem rdi_of_cells {w : World} {a : Addr} {n : Nat} {zs : List Int} (hn : n ≤ zs.length) (hc : ∀ i, i < zs.length → w.cell? (a.add i) = some (.int .i64 (zs.getD i 0))) (hw : ∀ z ∈ zs, (Lit.int .i64 z).wf = true) :
    RdI w w.heap.size (some a) n (fun j => zs.getD j 0) := by
  intro j hj
  obtain ⟨b, o, sp⟩ := a
  have h0 := hc j (by omega)
  have hsp : sp = none := by
    have h1 := hc 0 (by omega)
    have h2 := World.cell?_spot h1
    simpa [Addr.add] using h2
  subst hsp
  rw [add_plain] at h0
  exact ⟨b, o, rfl, block_lt_of_cell h0, h0, bounds_i64 (hw _ (getD_mem (show j < zs.length by omega)))⟩
theorem rdo_of_cells {w : World} {a : Addr} {n c : Nat} {zs : Nat → Bool} (hn : n ≤ c) (hc : ∀ i, i < c → w.cell? (a.add i) = some (.bool (zs i))) :
    RdO w w.heap.size (some a) n zs := by
  intro j hj
  obtain ⟨b, o, sp⟩ := a
  have h0 := hc j (by omega)
  have hsp : sp = none := by
    have h1 := hc 0 (by omega)
    have h2 := World.cell?_spot h1
    simpa [Addr.add] using h2
  subst hsp
  rw [add_plain] at h0
  exact ⟨b, o, rfl, block_lt_of_cell h0, h0⟩
section
variable {H : Type} {enc : TypeId × Value → H} {P : Program} {W : World} {base : Nat} {held : Bool}
theorem rdi_of_trod {t e : TypeId} {fuel len cap : Nat} {a : Option Addr} {x : DataW H × List MemPlace} (ht : P.underlying t = some (.slice e)) (he : P.underlying e = some (.int .i64)) (hc : P.cellsOf e = 1)
    (h : DataW.trod enc P W base (fun _ => true) held fuel t (Value.slice a len cap).cells.toList = some x) : ∃ y, RdI W W.heap.size a len y ∧ len ≤ cap ∧ cap ≤ maxLen := by
  rcases open_ints ht he hc h with ⟨hcs, _⟩ | ⟨x, l, c, zs, hcs, _, hl, hm, hz, _, hcell, hwz⟩
  · simp [Value.cells] at hcs
    obtain ⟨rfl, rfl, rfl⟩ := hcs
    exact ⟨fun _ => 0, fun j hj => absurd hj (by omega), by omega, by omega⟩
  · simp [Value.cells] at hcs
    obtain ⟨rfl, rfl, rfl⟩ := hcs
    simp at hz
    exact ⟨_, rdi_of_cells (by omega) hcell hwz, hl, hm⟩
theorem rdo_of_trod {t e : TypeId} {fuel len cap : Nat} {a : Option Addr} {x : DataW H × List MemPlace} (ht : P.underlying t = some (.slice e)) (he : P.underlying e = some .bool) (hc : P.cellsOf e = 1)
    (h : DataW.trod enc P W base (fun _ => true) held fuel t (Value.slice a len cap).cells.toList = some x) : ∃ y, RdO W W.heap.size a len y ∧ len ≤ cap ∧ cap ≤ maxLen := by
  rcases Go.Deep.open_bools ht he hc h with ⟨hcs, _⟩ | ⟨x, l, c, zs, hcs, _, hl, hm, _, hcell⟩
  · simp [Value.cells] at hcs
    obtain ⟨rfl, rfl, rfl⟩ := hcs
    exact ⟨fun _ => false, fun j hj => absurd hj (by omega), by omega, by omega⟩
  · simp [Value.cells] at hcs
    obtain ⟨rfl, rfl, rfl⟩ := hcs
    exact ⟨_, rdo_of_cells hl hcell, hl, hm⟩
end
end Go.Proofs.Ytfdalbaemkekoaa
