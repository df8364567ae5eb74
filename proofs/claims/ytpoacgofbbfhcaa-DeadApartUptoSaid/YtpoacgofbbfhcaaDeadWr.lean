/-
  What may be written over: rows of blocks, and the transactions of rows of snapshots, from a block on. No conditions beyond those that each theorem types.
-/
import Derived.Test.YtpoacgofbbfhcaaDeadForm
namespace Go.Proofs.Ytpoacgofbbfhcaa
open Go Go.RowKit
set_option maxRecDepth 100000
set_option linter.unusedVariables false
namespace Dd
structure Wr (B : Nat) (w w' : World) : Prop where
  below : Below B w w'
  pt : ∀ (g : Nat) (cur : Array Value), Blk w g 27 cur → ∃ cur' : Array Value, Blk w' g 27 cur' ∧ cur'.size = cur.size
  ds : ∀ (g : Nat) (cur : Array Value), Blk w g 65 cur → ∃ cur' : Array Value, Blk w' g 65 cur' ∧ cur'.size = cur.size ∧ ∀ k, cur'[k * 2 + 1]? = cur[k * 2 + 1]?
  ln : ∀ (g : Nat) (cur : Array Value), Blk w g 33 cur → Blk w' g 33 cur
section
variable {B : Nat} {w w' w'' : World}
theorem Wr.refl (B : Nat) (w : World) : Wr B w w := ⟨Below.refl _ _, fun g cur h => ⟨cur, h, rfl⟩, fun g cur h => ⟨cur, h, rfl, fun _ => rfl⟩, fun _ _ h => h⟩
theorem Wr.trans (h : Wr B w w') (k : Wr B w' w'') : Wr B w w'' :=
  ⟨h.below.trans k.below, fun g cur hb => by
    obtain ⟨c1, h1, h2⟩ := h.pt g cur hb
    obtain ⟨c2, h3, h4⟩ := k.pt g c1 h1
    exact ⟨c2, h3, h4.trans h2⟩, fun g cur hb => by
    obtain ⟨c1, h1, h2, h5⟩ := h.ds g cur hb
    obtain ⟨c2, h3, h4, h6⟩ := k.ds g c1 h1
    exact ⟨c2, h3, h4.trans h2, fun i => (h6 i).trans (h5 i)⟩, fun g cur hb => k.ln g cur (h.ln g cur hb)⟩
theorem Wr.setPt {g : Nat} {cur : Array Value} (h : Wr B w w') (hb : Blk w' g 27 cur) (hg : B ≤ g) (i : Nat) (u : Value) : Wr B w (w'.setCell ⟨g, i, none⟩ u) :=
  h.trans ⟨(Below.refl _ _).setCell (p := ⟨g, i, none⟩) hg u, fun g' c' h' => by
    by_cases e : g' = g
    · subst e; exact ⟨_, h'.set_ i u, by simp⟩
    · exact ⟨c', h'.far (p := ⟨g, i, none⟩) e u, rfl⟩, fun g' c' h' => ⟨c', h'.far (p := ⟨g, i, none⟩) (Blk.ne_ h' hb (by decide)) u, rfl, fun _ => rfl⟩, fun g' c' h' => h'.far (p := ⟨g, i, none⟩) (Blk.ne_ h' hb (by decide)) u⟩
theorem Wr.setTxg {g : Nat} {cur : Array Value} (h : Wr B w w') (hb : Blk w' g 65 cur) (hg : B ≤ g) (i : Nat) (u : Value) : Wr B w (w'.setCell ⟨g, i * 2, none⟩ u) :=
  h.trans ⟨(Below.refl _ _).setCell (p := ⟨g, i * 2, none⟩) hg u, fun g' c' h' => ⟨c', h'.far (p := ⟨g, i * 2, none⟩) (Blk.ne_ h' hb (by decide)) u, rfl⟩, fun g' c' h' => by
    by_cases e : g' = g
    · subst e; exact ⟨_, h'.set_ (i * 2) u, by simp, fun k => by rw [Array.getElem?_setIfInBounds_ne (by omega)]⟩
    · exact ⟨c', h'.far (p := ⟨g, i * 2, none⟩) e u, rfl, fun _ => rfl⟩, fun g' c' h' => h'.far (p := ⟨g, i * 2, none⟩) (Blk.ne_ h' hb (by decide)) u⟩
theorem Wr.drew (h : Wr B w w') : Wr B w w'.drew := ⟨h.below.drew, h.pt, h.ds, h.ln⟩
/-- a block of a row that may be written -/
theorem Wr.can (h : Wr B w w') {n c : Nat} {A : Option Addr} {l : List Pt} (ho : OwnP w B (.slice A n c) l) (hn : n = l.length) {j : Nat} (hj : j < n) : ∃ (g : Nat) (cur : Array Value), A = some ⟨g, 0, none⟩ ∧ B ≤ g ∧ Blk w' g 27 cur ∧ j * 4 + 3 < cur.size := by
  rcases ho.2 with ⟨e1, e2⟩ | ⟨g, cap, cur, e1, e2, e3, e4, e5, e6, e7⟩
  · omega
  · injection e1 with e1 e8 e9
    obtain ⟨cur', h1, h2⟩ := h.pt g cur e3
    exact ⟨g, cur', e1, e2, h1, by rw [h2, e6]; omega⟩
theorem Wr.snap (h : Wr B w w') {n c : Nat} {A : Option Addr} {vs : List SV} (ho : Gr.OwnG 65 2 csV w B (.slice A n c) vs) {k : Nat} {x : SV} (hx : vs[k]? = some x) : ∃ (g : Nat) (cur : Array Value), A = some ⟨g, 0, none⟩ ∧ B ≤ g ∧ Blk w' g 65 cur ∧ k * 2 + 1 < cur.size ∧ w'.cell? ⟨g, k * 2 + 1, none⟩ = some (.slice x.A x.n x.c) := by
  have hk : k < vs.length := (List.getElem?_eq_some_iff.1 hx).1
  have hcell : ∀ g, A = some ⟨g, 0, none⟩ → w.cell? ⟨g, k * 2 + 1, none⟩ = some (.slice x.A x.n x.c) := fun g hA => by
    obtain ⟨g', c', e1, _, _, e4⟩ := own_at ho (fun _ => rfl) (fun e => by rw [e] at hk; simp at hk)
    injection e1 with e1
    rw [hA] at e1
    injection e1 with e1
    injection e1 with e1
    subst e1
    exact e4 k x hx 1 _ rfl
  rcases ho.2 with ⟨e1, e2⟩ | ⟨g, cap, cur, e1, e2, e3, e4, e5, e6, e7⟩
  · omega
  · injection e1 with e1 e8 e9
    obtain ⟨cur', h1, h2, h3⟩ := h.ds g cur e3
    have h4 := hcell g e1
    refine ⟨g, cur', e1, e2, h1, by rw [h2, e6]; omega, ?_⟩
    rw [h1.cell, h3, ← (show Blk w g 65 cur from e3).cell]
    exact h4
end
/-- the noughts behind a row's end -/
theorem spare_zero {w : World} {g n : Nat} {D : List Pt} (h : Blk w g 27 (D.flatMap csP ++ (zcs 2).toList).toArray) (hn : n = D.length) {i : Nat} (h1 : n ≤ i) (h2 : i < n + 2) :
    w.cell? ⟨g, i * 4, none⟩ = some (.int .i64 0) ∧ w.cell? ⟨g, i * 4 + 1, none⟩ = some (.int .i64 0) ∧ w.cell? ⟨g, i * 4 + 2, none⟩ = some (.int .i64 0) ∧ w.cell? ⟨g, i * 4 + 3, none⟩ = some (.string ⟨#[]⟩) := by
  have hl : (D.flatMap csP).length = n * 4 := by rw [Gr.flat_length (k := 4) (fun _ => rfl), hn]
  have hz : (zcs 2).toList = [.int .i64 0, .int .i64 0, .int .i64 0, .string ⟨#[]⟩, .int .i64 0, .int .i64 0, .int .i64 0, .string ⟨#[]⟩] := by kernel_rfl
  have get : ∀ j, w.cell? ⟨g, n * 4 + j, none⟩ = (zcs 2).toList[j]? := fun j => by
    rw [h.cell, List.getElem?_toArray, List.getElem?_append_right (by omega), hl, show n * 4 + j - n * 4 = j by omega]
  rcases Nat.lt_or_ge n i with h3 | h3
  · obtain rfl : i = n + 1 := by omega
    refine ⟨?_, ?_, ?_, ?_⟩
    · rw [show (n + 1) * 4 = n * 4 + 4 by omega, get, hz]; rfl
    · rw [show (n + 1) * 4 + 1 = n * 4 + 5 by omega, get, hz]; rfl
    · rw [show (n + 1) * 4 + 2 = n * 4 + 6 by omega, get, hz]; rfl
    · rw [show (n + 1) * 4 + 3 = n * 4 + 7 by omega, get, hz]; rfl
  · obtain rfl : i = n := by omega
    refine ⟨?_, ?_, ?_, ?_⟩
    · rw [show i * 4 = i * 4 + 0 by omega, get, hz]; rfl
    · rw [get, hz]; rfl
    · rw [get, hz]; rfl
    · rw [get, hz]; rfl
theorem neq_z (W : World) : (binOp .neq 27 (.agg #[.int .i64 0, .int .i64 0, .int .i64 0, .string ⟨#[]⟩]) (.agg #[.int .i64 0, .int .i64 0, .int .i64 0, .string ⟨#[]⟩])).run Try.prog W = .ok (.bool false) W := neq_pt ⟨0, 0, 0, ⟨#[]⟩⟩ W
end Dd
end Go.Proofs.Ytpoacgofbbfhcaa
