/-
  What comes in as bytes, or as rows of bytes, as the field's contracts read it; texts of such bytes. Conditions: what the reading of an argument gives.
-/
import Derived.Test.YtmiedappfmlofaaFieldSolve
import Derived.ProofKit
import Derived.Deep.Matrix
import Derived.Laws.BytesArg
namespace Go.Proofs.Ytmiedappfmlofaa
open Go.RowKit Go.ChangeShapes Go.WideShapes Go.ChangeAt
set_option linter.unusedVariables false

theorem add_plain (b o j : Nat) : (⟨b, o, none⟩ : Addr).add j = ⟨b, o + j, none⟩ := by unfold Addr.add; split <;> simp_all
theorem block_lt_of_cell {w : World} {a : Addr} {v : Value} (h : w.cell? a = some v) : a.block < w.heap.size := by
  rcases Nat.lt_or_ge a.block w.heap.size with hlt | hge
  · exact hlt
  · unfold World.cell? at h; rw [Array.getElem?_eq_none hge] at h; cases h
theorem add_block (a : Addr) (j : Nat) : (a.add j).block = a.block := by unfold Addr.add; split <;> rfl
theorem byte_of_wf {a : Int} (h : (Lit.int .u8 a).wf = true) : a = ((a.toNat : Nat) : Int) ∧ a.toNat < 256 := by
  have hb := bounds_u8 h
  omega
theorem getD_mem {zs : List Int} {j : Nat} (h : j < zs.length) : zs.getD j 0 ∈ zs := by
  rw [List.getD_eq_getElem?_getD, List.getElem?_eq_getElem h]
  exact List.getElem_mem h

/-- A row of cells that came in, n bytes of them read. -/
theorem rdb_of_cells {w : World} {a : Addr} {n : Nat} {zs : List Int} (hn : n ≤ zs.length) (hc : ∀ i, i < zs.length → w.cell? (a.add i) = some (.int .u8 (zs.getD i 0))) (hw : ∀ z ∈ zs, (Lit.int .u8 z).wf = true) :
    RdB w w.heap.size (some a) n (fun j => (zs.getD j 0).toNat) := by
  intro j hj
  obtain ⟨b, o, sp⟩ := a
  have h0 := hc j (by omega)
  have hsp : sp = none := by
    have h1 := hc 0 (by omega)
    have h2 := World.cell?_spot h1
    simpa [Addr.add] using h2
  subst hsp
  rw [add_plain] at h0
  have hwf := byte_of_wf (hw _ (getD_mem (show j < zs.length by omega)))
  refine ⟨b, o, rfl, block_lt_of_cell h0, ?_, hwf.2⟩
  rw [h0, ← hwf.1]

section
variable {H : Type} {enc : TypeId × Value → H} {P : Program} {W : World} {base : Nat} {held : Bool}
theorem rdb_of_trod {t e : TypeId} {fuel len cap : Nat} {a : Option Addr} {x : DataW H × List MemPlace} (ht : P.underlying t = some (.slice e)) (he : P.underlying e = some (.int .u8)) (hc : P.cellsOf e = 1)
    (h : DataW.trod enc P W base (fun _ => true) held fuel t (Value.slice a len cap).cells.toList = some x) : ∃ y, RdB W W.heap.size a len y ∧ len ≤ cap ∧ cap ≤ maxLen := by
  rcases open_ints ht he hc h with ⟨hcs, _⟩ | ⟨x, l, c, zs, hcs, _, hl, hm, hz, _, hcell, hwz⟩
  · simp [Value.cells] at hcs
    obtain ⟨rfl, rfl, rfl⟩ := hcs
    exact ⟨fun _ => 0, fun j hj => absurd hj (by omega), by omega, by omega⟩
  · simp [Value.cells] at hcs
    obtain ⟨rfl, rfl, rfl⟩ := hcs
    simp at hz
    exact ⟨_, rdb_of_cells (by omega) hcell hwz, hl, hm⟩
theorem rdr_of_trod {t e q : TypeId} {fuel len cap : Nat} {a : Option Addr} {x : DataW H × List MemPlace} (ht : P.underlying t = some (.slice e)) (he : P.underlying e = some (.slice q)) (hq : P.underlying q = some (.int .u8))
    (ce : P.cellsOf e = 1) (cq : P.cellsOf q = 1)
    (h : DataW.trod enc P W base (fun _ => true) held fuel t (Value.slice a len cap).cells.toList = some x) :
    ∃ ra rl rc y, RdR W W.heap.size a len ra rl rc y ∧ len ≤ cap ∧ cap ≤ maxLen ∧ ∀ i, i < len → rl i ≤ rc i ∧ rc i ≤ maxLen := by
  rcases Go.Deep.open_int_rows ht he hq ce cq h with ⟨hcs, _⟩ | ⟨x, l, c, A, L, C, Z, hcs, _, hl, hm, _, hall⟩
  · simp [Value.cells] at hcs
    obtain ⟨rfl, rfl, rfl⟩ := hcs
    exact ⟨fun _ => none, fun _ => 0, fun _ => 0, fun _ _ => 0, fun j hj => absurd hj (by omega), by omega, by omega, fun i hi => absurd hi (by omega)⟩
  · simp [Value.cells] at hcs
    obtain ⟨rfl, rfl, rfl⟩ := hcs
    refine ⟨A, L, C, fun i j => ((Z i).getD j 0).toNat, ?_, hl, hm, fun i hi => ⟨(hall i (by omega)).2.1, (hall i (by omega)).2.2.1⟩⟩
    intro i hi
    obtain ⟨b, o, sp⟩ := x
    obtain ⟨h0, h1, h2, h3, h4, h5, h6⟩ := hall i (by omega)
    have hsp : sp = none := by
      have h1 := (hall 0 (by omega)).1
      have h2 := World.cell?_spot h1
      simpa [Addr.add] using h2
    subst hsp
    rw [add_plain] at h0
    refine ⟨b, o, rfl, block_lt_of_cell h0, h0, ?_⟩
    cases hA : A i with
    | none =>
      have := h5 hA
      exact fun j hj => absurd hj (by omega)
    | some a' =>
      exact rdb_of_cells (by omega) (fun c hc => (h6 a' hA).2 c (by omega)) h4
end

/-- The text of n bytes. -/
def txt (n : Nat) (x : Nat → Nat) : ByteArray := strOfNums ((List.range n).map fun j => ((x j : Nat) : Int))
theorem txt_congr {n : Nat} {x y : Nat → Nat} (h : ∀ j, j < n → x j = y j) : txt n x = txt n y := by
  unfold txt
  congr 1
  apply List.map_congr_left
  intro j hj
  rw [h j (by simpa using hj)]
theorem convert_rd {w : World} {B : Nat} {A : Option Addr} {n cap : Nat} {x : Nat → Nat} (h : RdB w B A n x) (h1 : 1 ≤ n) :
    (convert 37 9 (.slice A n cap)).run Try.prog w = .ok (.string (txt n x)) w := by
  obtain ⟨b, o, rfl, _⟩ := h 0 (by omega)
  refine run_convert_bytes_arg w 37 5 Try.underlying37 Try.underlying5 b o n cap _ (by simp) (fun i hi => ?_) _ Try.underlying9
  obtain ⟨b', o', e, _, h3, _⟩ := h i hi
  injection e with e
  injection e with e1 e2
  subst e1; subst e2
  rw [h3]
  simp [List.getD, hi]
theorem rdb_of_blk {w : World} {g n : Nat} {X : Nat → Nat} (h : Blk w g 5 (rowArr n X)) (hX : ∀ i, i < n → X i < 256) : RdB w (g + 1) (some ⟨g, 0, none⟩) n X := by
  intro j hj
  refine ⟨g, 0, rfl, by omega, ?_, hX j hj⟩
  rw [Nat.zero_add, h.cell, rowArr_get hj]

theorem Only.cell {g : Nat} {a w : World} (h : Only g a w) {p : Addr} {v : Value} (hc : a.cell? p = some v) (hne : p.block ≠ g) : w.cell? p = some v := by
  rw [← hc]
  exact World.cell?_of_block (h.block p.block (block_lt_of_cell hc) (fun e => hne (by injection e)))
theorem RdB.only {g : Nat} {w w' : World} {B : Nat} {A : Option Addr} {n : Nat} {x : Nat → Nat} (h : RdB w B A n x) (ho : Only g w w') (hne : ∀ b o, A = some ⟨b, o, none⟩ → 0 < n → b ≠ g) : RdB w' B A n x := by
  intro j hj
  obtain ⟨b, o, h1, h2, h3, h4⟩ := h j hj
  exact ⟨b, o, h1, h2, ho.cell h3 (hne b o h1 (by omega)), h4⟩
theorem Fld.ne_u8 {w : World} {b g : Nat} {cs : Array Value} (h : Fld w b) (hg : Blk w g 5 cs) : g ≠ b := by
  rcases h with h | h
  · exact Blk.ne_ hg h (by decide)
  · exact Blk.ne_ hg h (by decide)
end Go.Proofs.Ytmiedappfmlofaa
