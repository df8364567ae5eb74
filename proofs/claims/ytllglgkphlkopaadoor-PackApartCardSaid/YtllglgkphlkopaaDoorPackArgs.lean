/-
  What comes in as a list of items, and bytes as a list. Conditions: what the reading of an argument gives.
-/
import Derived.Test.YtllglgkphlkopaaDoorPackDec
import Derived.ProofKit
import Derived.Deep.Slices
import Derived.Deep.Strs
import Derived.Deep.Fields
namespace Go.Proofs.YtllglgkphlkopaaDoor
open Go Go.RowKit Go.ChangeShapes Go.WideShapes Go.ChangeAt
set_option linter.unusedVariables false

theorem rdb_list {w : World} {B n : Nat} {A : Option Addr} {x : Nat → Nat} (h : RdB w B A n x) : ∃ L : List Nat, n = L.length ∧ RdB w B A L.length (lst L) ∧ ∀ b ∈ L, b < 256 := by
  refine ⟨(List.range n).map x, by simp, ?_, ?_⟩
  · rw [show ((List.range n).map x).length = n by simp]
    intro j hj
    obtain ⟨b, o, h1, h2, h3, h4⟩ := h j hj
    have e : lst ((List.range n).map x) j = x j := by unfold lst; simp [List.getD_eq_getElem?_getD, hj]
    exact ⟨b, o, h1, h2, by rw [e]; exact h3, by rw [e]; exact h4⟩
  · intro b hb
    simp only [List.mem_map, List.mem_range] at hb
    obtain ⟨j, hj, rfl⟩ := hb
    obtain ⟨_, _, _, _, _, h4⟩ := h j hj
    exact h4
section
variable {H : Type} {enc : TypeId × Value → H} {P : Program} {W : World} {base : Nat} {held : Bool}
theorem items_of_trod {t e : TypeId} {f0 f1 f2 : Field} {fuel len cap : Nat} {a : Option Addr} {x : DataW H × List MemPlace} (ht : P.underlying t = some (.slice e)) (he : P.underlying e = some (.struct #[f0, f1, f2]))
    (hone : Go.Deep.oneCellFields P #[f0, f1, f2] = true) (hC : P.cellsOf e = 3) (u0 : P.underlying f0.type = some (.int .i64)) (u1 : P.underlying f1.type = some (.int .i64)) (u2 : P.underlying f2.type = some .string)
    (h : DataW.trod enc P W base (fun _ => true) held fuel t (Value.slice a len cap).cells.toList = some x) :
    ∃ l : List K.It, len = l.length ∧ RdI W W.heap.size a l ∧ (∀ y ∈ l, Good y) ∧ l.length ≤ cap ∧ cap ≤ maxLen ∧ (a = none → cap = 0) := by
  rcases Go.Deep.open_slice ht h with ⟨hcs, _⟩ | ⟨ad, l, c, m, n, D, Pl, hcs, _, hl, hm, hmm, _, hx⟩
  · simp [Value.cells] at hcs
    obtain ⟨rfl, rfl, rfl⟩ := hcs
    exact ⟨[], rfl, fun j y hj => by simp at hj, fun y hy => by simp at hy, by simp, by unfold maxLen; omega, fun _ => rfl⟩
  · simp [Value.cells] at hcs
    obtain ⟨rfl, rfl, rfl⟩ := hcs
    obtain ⟨o0, k0⟩ := Go.Deep.hone_of hone 0 f0 rfl
    obtain ⟨o1, k1⟩ := Go.Deep.hone_of hone 1 f1 rfl
    obtain ⟨o2, k2⟩ := Go.Deep.hone_of hone 2 f2 rfl
    simp at hmm
    have each : ∀ i, ∃ y : K.It, i < m → W.cell? (ad.add (i * 3)) = some (.int .i64 y.k) ∧ W.cell? (ad.add (i * 3 + 1)) = some (.int .i64 y.n) ∧ W.cell? (ad.add (i * 3 + 2)) = some (.string y.s) ∧ Good y := by
      intro i
      by_cases hi : i < m
      · obtain ⟨cs', h1, h2⟩ := hx i hi
        rw [hC] at h1
        obtain ⟨_, hlen, hcell⟩ := World.cells?_some h1
        obtain ⟨y0, y1, y2, n', _, _, g0, g1, g2⟩ := Go.Deep.trod_struct3 he h2
        match cs', hlen with
        | [v0, v1, v2], _ =>
          simp [o0, o1, o2, k0, k1, k2] at g0 g1 g2
          obtain ⟨z0, q0, _, r0⟩ := DataW.trod_int u0 g0
          obtain ⟨z1, q1, _, r1⟩ := DataW.trod_int u1 g1
          obtain ⟨z2, q2, _, r2⟩ := DataW.trod_string u2 g2
          simp at q0 q1 q2
          subst q0; subst q1; subst q2
          have e0 := hcell 0 (by omega)
          have e1 := hcell 1 (by omega)
          have e2 := hcell 2 (by omega)
          rw [Go.Deep.add_add] at e0 e1 e2
          have hb := bounds_i64 r1
          exact ⟨⟨z0, z1, z2⟩, fun _ => ⟨by simpa using e0, by simpa using e1, by simpa using e2, ⟨⟨by show -9223372036854775808 ≤ z1; omega, by show z1 ≤ 9223372036854775807; omega⟩, r2⟩⟩⟩
      · exact ⟨⟨0, 0, ⟨#[]⟩⟩, fun h => absurd h hi⟩
    obtain ⟨f, hf⟩ := Classical.skolem.1 each
    refine ⟨(List.range len).map f, by simp, ?_, ?_, by simpa using hl, hm, fun e => by cases e⟩
    · intro j y hj
      have hjl : j < len := by have := (List.getElem?_eq_some_iff.1 hj).1; simpa using this
      have e : f j = y := by simpa [hjl] using hj
      obtain ⟨c0, c1, c2, _⟩ := hf j (by omega)
      rw [e] at c0 c1 c2
      obtain ⟨b, o, sp⟩ := ad
      have hsp : sp = none := by
        have h2 := World.cell?_spot (hf 0 (by omega)).1
        simpa [Addr.add] using h2
      subst hsp
      rw [add_plain] at c0 c1 c2
      exact ⟨b, o, rfl, block_lt_of_cell c0, c0, by rw [Nat.add_assoc]; exact c1, by rw [Nat.add_assoc]; exact c2⟩
    · intro y hy
      simp only [List.mem_map, List.mem_range] at hy
      obtain ⟨j, hj, rfl⟩ := hy
      exact (hf j (by omega)).2.2.2
end
end Go.Proofs.YtllglgkphlkopaaDoor
