/-
  A call's own row of snapshots. No conditions beyond those that each theorem types.
-/
import Derived.Test.YtefgofoocabkkaaDeadSameM
namespace Go.Proofs.Ytefgofoocabkkaa
open Go Go.RowKit
set_option maxRecDepth 100000
set_option linter.unusedVariables false
namespace Dd
/-- a snapshot as it lies there: its list by its slice -/
structure SV where
  txg : Int
  A : Option Addr
  n : Nat
  c : Nat
def csV (x : SV) : List Value := [.int .i64 x.txg, .slice x.A x.n x.c]
theorem csV_one (x : SV) : ∀ u ∈ csV x, u.oneCell' = true := fun u hu => by simp [csV] at hu; rcases hu with rfl | rfl <;> rfl
/-- these are the snapshots S, their lists read in w -/
def Holds (w : World) (vs : List SV) (S : List Sn) : Prop := vs.length = S.length ∧ ∀ (i : Nat) (s : Sn), S[i]? = some s → ∃ x : SV, vs[i]? = some x ∧ x.txg = s.txg ∧ x.n = s.dead.length ∧ RdP w x.A s.dead ∧ (x.A = none → x.c = 0)
theorem Holds.nil (w : World) : Holds w [] [] := ⟨rfl, fun i s h => by cases h⟩
theorem Holds.below {w w' : World} {vs : List SV} {S : List Sn} (h : Holds w vs S) (hb : Below w.heap.size w w') : Holds w' vs S :=
  ⟨h.1, fun i s hs => by obtain ⟨x, h1, h2, h3, h4, h5⟩ := h.2 i s hs; exact ⟨x, h1, h2, h3, h4.below hb, h5⟩⟩
theorem Holds.snoc {w : World} {vs : List SV} {S : List Sn} {x : SV} {s : Sn} (h : Holds w vs S) (h2 : x.txg = s.txg) (h3 : x.n = s.dead.length) (h4 : RdP w x.A s.dead) (h5 : x.A = none → x.c = 0) : Holds w (vs ++ [x]) (S ++ [s]) := by
  refine ⟨by rw [List.length_append, List.length_append, h.1]; rfl, fun i s' hs => ?_⟩
  by_cases hi : i < S.length
  · rw [List.getElem?_append_left hi] at hs
    obtain ⟨y, e1, e2⟩ := h.2 i s' hs
    exact ⟨y, by rw [List.getElem?_append_left (by rw [h.1]; exact hi)]; exact e1, e2⟩
  · rw [List.getElem?_append_right (by omega)] at hs
    have e : i - S.length = 0 := by
      have := (List.getElem?_eq_some_iff.1 hs).1
      simp at this
      omega
    rw [e] at hs
    injection hs with hs
    subst hs
    exact ⟨x, by rw [List.getElem?_append_right (by rw [h.1]; omega), h.1, e]; rfl, h2, h3, h4, h5⟩
theorem rds_of {T : TypeId} {w : World} {base n c : Nat} {A : Option Addr} {vs : List SV} {S : List Sn} (h : Gr.OwnG T 2 csV w base (.slice A n c) vs) (hh : Holds w vs S) : RdS w A S := fun i s hs => by
  obtain ⟨x, h1, h2, h3, h4, h5⟩ := hh.2 i s hs
  obtain ⟨A1, c1, e1, e2, _⟩ := h.shape (fun _ => rfl)
  injection e1 with e1
  subst e1
  obtain ⟨b, o, e3, e4, e5⟩ := e2 i x h1
  refine ⟨b, o, x.A, x.c, e3, e4, ?_, ?_, h4, h5⟩
  · have := e5 0 _ rfl
    rw [Nat.add_zero, h2] at this
    exact this
  · have := e5 1 (.slice x.A x.n x.c) rfl
    rw [h3] at this
    exact this
theorem append_sv {T TS : TypeId} (hu : Try.prog.underlying TS = some (.slice T)) (hi : (Try.prog.info? T).map (fun i => (i.zero, i.size, i.bytes)) = some (some (.agg #[.int .i64 0, .slice none 0 0]), 2, 32)) {w : World} {base : Nat} {v : Value} {l : List SV} (h : Gr.OwnG T 2 csV w base v l) (x : SV) (hl : (l.length + 1) * 32 ≤ 140737488355328) (hb : base ≤ w.heap.size) (ty : TypeId) :
    ∃ v' w', (Builtin.append_ #[TS, TS] ty #[v, .slice (some ⟨w.heap.size, 0, none⟩) 1 1]).run Try.prog (w.alloc (.cells #[.int .i64 x.txg, .slice x.A x.n x.c] T)) = .ok v' w' ∧ Gr.OwnG T 2 csV w' base v' (l ++ [x]) ∧ Below base w w' ∧ w.heap.size ≤ w'.heap.size ∧ ∀ g, g < w.heap.size → v.ownBlock ≠ some g → w'.heap[g]? = w.heap[g]? := by
  have hb1 : Below w.heap.size w (w.alloc (.cells #[.int .i64 x.txg, .slice x.A x.n x.c] T)) := (Below.refl _ _).alloc (Nat.le_refl _) _
  have h1 := h.below hb1 (Nat.le_refl _)
  obtain ⟨v', w', e1, e2, e3, e4⟩ := Gr.run_append_b (E := T) (k := 2) (cs := csV) (z := .agg #[.int .i64 0, .slice none 0 0]) (bytes := 32) (m := [x]) (c := 1) (fun _ => rfl) csV_one hu hi rfl (by omega) ty h1 (Gr.one_cells x w T) (by simp; omega) (by simpa using hl) (Nat.le_trans hb hb1.size)
  exact ⟨v', w', e1, e2, ⟨e3.os.trans hb1.os, e3.tape.trans hb1.tape, e3.output.trans hb1.output, Nat.le_trans hb1.size e3.size, fun g hg => (e3.block g (by have := hb1.size; omega) (fun e => by have := (h.lt e.symm).2; omega)).trans (hb1.block g (by omega))⟩, Nat.le_trans hb1.size e3.size, fun g hg hne => (e3.block g (Nat.lt_of_lt_of_le hg hb1.size) (fun e => hne e.symm)).trans (hb1.block g hg)⟩
theorem info_ds : (Try.prog.info? 51).map (fun i => (i.zero, i.size, i.bytes)) = some (some (.agg #[.int .i64 0, .slice none 0 0]), 2, 32) := by kernel_rfl
theorem bs_ds (t : Int) (A : Option Addr) (n c : Nat) (w : World) : (Instr.buildSlice 25 1 #[(0, .agg #[.int .i64 t, .slice A n c])]).run Try.prog w = .ok (.slice (some ⟨w.heap.size, 0, none⟩) 1 1) (w.alloc (.cells #[.int .i64 t, .slice A n c] 51)) := by kernel_rfl
end Dd
end Go.Proofs.Ytefgofoocabkkaa
