/-
  What comes in as bytes, or as rows of bytes, as the field's contracts read it; texts of such bytes. Conditions: what the reading of an argument gives.
-/
import Derived.Test.YtoabhbmhjelplaaParDataM
import Derived.ProofKit
import Derived.Deep.Matrix
import Derived.Laws.BytesArg
namespace Go.Proofs.Ytoabhbmhjelplaa
open Go.RowKit Go.ChangeShapes Go.WideShapes Go.ChangeAt
set_option maxRecDepth 100000
set_option linter.unusedVariables false

section
variable {H : Type} {enc : TypeId × Value → H} {P : Program} {W : World} {base : Nat} {held : Bool}
theorem rdr_of_trod {t e q : TypeId} {fuel len cap : Nat} {a : Option Addr} {x : DataW H × List MemPlace} (ht : P.underlying t = some (.slice e)) (he : P.underlying e = some (.slice q)) (hq : P.underlying q = some (.int .u8))
    (ce : P.cellsOf e = 1) (cq : P.cellsOf q = 1)
    (h : DataW.trod enc P W base (fun _ => true) held fuel t (Value.slice a len cap).cells.toList = some x) :
    ∃ ra rl rc y, RdR W W.heap.size a len ra rl rc y ∧ len ≤ cap ∧ cap ≤ maxLen ∧ ∀ i, i < len → rl i ≤ rc i ∧ rc i ≤ maxLen := by
  rcases Go.Deep.open_int_rows ht he hq ce cq h with ⟨hcs, _⟩ | ⟨x, l, c, A, L, C, Z, hcs, _, hl, hm, _, hall⟩
  · simp [Value.cells] at hcs
    obtain ⟨rfl, rfl, rfl⟩ := hcs
    exact ⟨fun _ => none, fun _ => 0, fun _ => 0, fun _ _ => 0, fun j hj => absurd hj (by omega), by omega, by omega, fun i hi => absurd hi (by omega)⟩
  · simp [Value.cells] at hcs
    obtain ⟨rfl, rfl, rfl⟩ := hcs
    refine ⟨A, L, C, fun i j => ((Z i).getD j 0).toNat, ?_, hl, hm, fun i hi => ⟨(hall i (by omega)).2.1, (hall i (by omega)).2.2.1⟩⟩
    intro i hi
    obtain ⟨b, o, sp⟩ := x
    obtain ⟨h0, h1, h2, h3, h4, h5, h6⟩ := hall i (by omega)
    have hsp : sp = none := by
      have h1 := (hall 0 (by omega)).1
      have h2 := World.cell?_spot h1
      simpa [Addr.add] using h2
    subst hsp
    rw [add_plain] at h0
    refine ⟨b, o, rfl, block_lt_of_cell h0, h0, ?_⟩
    cases hA : A i with
    | none =>
      have := h5 hA
      exact fun j hj => absurd hj (by omega)
    | some a' =>
      exact rdb_of_cells (by omega) (fun c hc => (h6 a' hA).2 c (by omega)) h4
end

/-- The text of n bytes. -/
def txt (n : Nat) (x : Nat → Nat) : ByteArray := strOfNums ((List.range n).map fun j => ((x j : Nat) : Int))
theorem txt_congr {n : Nat} {x y : Nat → Nat} (h : ∀ j, j < n → x j = y j) : txt n x = txt n y := by
  unfold txt
  congr 1
  apply List.map_congr_left
  intro j hj
  rw [h j (by simpa using hj)]
theorem convert_rd {w : World} {B : Nat} {A : Option Addr} {n cap : Nat} {x : Nat → Nat} (h : RdB w B A n x) (h1 : 1 ≤ n) :
    (convert 31 9 (.slice A n cap)).run Try.prog w = .ok (.string (txt n x)) w := by
  obtain ⟨b, o, rfl, _⟩ := h 0 (by omega)
  refine run_convert_bytes_arg w 31 5 Try.underlying31 Try.underlying5 b o n cap _ (by simp) (fun i hi => ?_) _ Try.underlying9
  obtain ⟨b', o', e, _, h3, _⟩ := h i hi
  injection e with e
  injection e with e1 e2
  subst e1; subst e2
  rw [h3]
  simp [List.getD, hi]
theorem Fld.ne_u8 {w : World} {b g : Nat} {cs : Array Value} (h : Fld w b) (hg : Blk w g 5 cs) : g ≠ b := by
  rcases h with h | h
  · exact Blk.ne_ hg h (by decide)
  · exact Blk.ne_ hg h (by decide)
end Go.Proofs.Ytoabhbmhjelplaa
