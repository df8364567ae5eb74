/-
  The document's rack in memory: its own rows (sectors' texts, which drives are lost, what waits). Its state is told as a rack's is (RS). No conditions beyond those that each theorem types.
-/
import Derived.Test.YtlbmeaioiiflkaaRackSaysM
import Derived.Test.YtlbmeaioiiflkaaRackLose
import Derived.Test.YtlbmeaioiiflkaaRackRot
import Derived.Laws.OwnMore
namespace Go.Proofs.Ytlbmeaioiiflkaa
open Go Go.RowKit
set_option maxRecDepth 100000
set_option linter.unusedVariables false
namespace refRack
def textV (x : Nat → Nat) : Value := .string (strB 128 x)
def textL (n : Nat) (X : Nat → Nat → Nat) : List Value := (List.range n).map fun a => textV (X a)
def headL (n : Nat) (H C : Nat → Nat) (m : Nat) : List Value := (List.range n).map fun d => .slice (some ⟨H d, 0, none⟩) m (C d)
def boolL (n : Nat) (G : Nat → Bool) : List Value := (List.range n).map fun d => .bool (G d)
def waitV (v : Wt) : List Value := [.int .i64 (v.d : Int), .int .i64 (v.a : Int), textV v.x]
def waitL (W : Nat → Wt) : Nat → List Value
  | 0 => []
  | n + 1 => waitL W n ++ waitV (W n)
theorem textL_get {n a : Nat} (X : Nat → Nat → Nat) (h : a < n) : (textL n X)[a]? = some (textV (X a)) := by simp [textL, h]
theorem headL_get {n d m : Nat} (H C : Nat → Nat) (h : d < n) : (headL n H C m)[d]? = some (.slice (some ⟨H d, 0, none⟩) m (C d)) := by simp [headL, h]
theorem boolL_get {n d : Nat} (G : Nat → Bool) (h : d < n) : (boolL n G)[d]? = some (.bool (G d)) := by simp [boolL, h]
theorem waitL_length (W : Nat → Wt) : ∀ n, (waitL W n).length = n * 3
  | 0 => rfl
  | n + 1 => by
    unfold waitL
    rw [List.length_append, waitL_length W n]
    show n * 3 + 3 = _
    omega
theorem waitL_get (W : Nat → Wt) {j : Nat} (hj : j < 3) : ∀ {n i : Nat}, i < n → (waitL W n)[i * 3 + j]? = (waitV (W i))[j]?
  | 0, i, h => absurd h (Nat.not_lt_zero _)
  | n + 1, i, h => by
    unfold waitL
    by_cases e : i = n
    · subst e
      rw [List.getElem?_append_right (by rw [waitL_length]; omega), waitL_length, show i * 3 + j - i * 3 = j by omega]
    · rw [List.getElem?_append_left (by rw [waitL_length]; omega)]
      exact waitL_get W hj (by omega)
theorem waitL_congr {W V : Nat → Wt} : ∀ {n : Nat}, (∀ i, i < n → W i = V i) → waitL W n = waitL V n
  | 0, _ => rfl
  | n + 1, h => by
    unfold waitL
    rw [waitL_congr fun i hi => h i (by omega), h n (by omega)]
theorem own_keep {w w' : World} {B n c : Nat} {e : TypeId} {v : Value} {xs : List Value} (h : w.ownsRow B e c v n xs) (hk : ∀ g, v.ownBlock = some g → w'.heap[g]? = w.heap[g]?) : w'.ownsRow B e c v n xs := by
  refine ⟨h.1, ?_⟩
  rcases h.2 with h2 | ⟨g, cap, cur, rfl, h2, h3, h4⟩
  · exact .inl h2
  · exact .inr ⟨g, cap, cur, rfl, h2, (hk g rfl).trans h3, h4⟩
theorem own_type {w : World} {B B' n n' c c' : Nat} {e e' : TypeId} {v v' : Value} {xs xs' : List Value} (h : w.ownsRow B e c v n xs) (h' : w.ownsRow B' e' c' v' n' xs') (hne : (e == e') = false) {g : Nat} (hg : v.ownBlock = some g) : v'.ownBlock ≠ some g := fun hg' => by
  rcases h.2 with ⟨rfl, _⟩ | ⟨g1, cap, cur, rfl, _, h3, _⟩
  · cases hg
  · rcases h'.2 with ⟨rfl, _⟩ | ⟨g2, cap2, cur2, rfl, _, h3', _⟩
    · cases hg'
    · simp [Value.ownBlock] at hg hg'
      subst hg
      subst hg'
      rw [h3] at h3'
      injection h3' with h3'
      injection h3' with _ h3' _
      rw [h3'] at hne
      simp at hne
theorem own_not_blk {w : World} {B n c g : Nat} {e t : TypeId} {v : Value} {xs : List Value} {cs : Array Value} (h : w.ownsRow B e c v n xs) (hb : Blk w g t cs) (hne : (e == t) = false) : v.ownBlock ≠ some g := fun hg => by
  rcases h.2 with ⟨rfl, _⟩ | ⟨g1, cap, cur, rfl, _, h3, _⟩
  · cases hg
  · simp [Value.ownBlock] at hg
    subst hg
    unfold Blk at hb
    rw [hb] at h3
    injection h3 with h3
    injection h3 with _ h3 _
    rw [h3] at hne
    simp at hne
theorem own_lt {w : World} {B n c g : Nat} {e : TypeId} {v : Value} {xs : List Value} (h : w.ownsRow B e c v n xs) (hg : v.ownBlock = some g) : g < w.heap.size ∧ B ≤ g := by
  rcases h.2 with ⟨rfl, _⟩ | ⟨g1, cap, cur, rfl, h2, h3, _⟩
  · cases hg
  · simp [Value.ownBlock] at hg
    subst hg
    exact ⟨(Array.getElem?_eq_some_iff.1 h3).1, h2⟩
/-- its power: how many writes are left, -1 where it isn't armed -/
def armI (s : RS) : Int := if s.armed then (s.left : Int) else -1
def cells (s : RS) (vL vG vW : Value) : Array Value := #[vL, vG, vW, .bool s.off, .int .i64 (armI s)]
/-- The document's rack at block g. -/
structure TK (B : Nat) (w : World) (g : Nat) (s : RS) (vL vG vW : Value) (H C : Nat → Nat) : Prop where
  blk : Blk w g 66 (cells s vL vG vW)
  hg : B ≤ g
  heads : w.ownsRow B 67 1 vL s.nd (headL s.nd H C s.ns)
  rows : ∀ d, d < s.nd → w.ownsRow B 9 1 (.slice (some ⟨H d, 0, none⟩) s.ns (C d)) s.ns (textL s.ns (s.last d))
  apart : ∀ d d', d < s.nd → d' < s.nd → d ≠ d' → H d ≠ H d'
  lost : w.ownsRow B 4 1 vG s.nd (boolL s.nd s.gone)
  waits : w.ownsRow B 75 3 vW s.nw (waitL s.W s.nw)
def TAt (B : Nat) (w : World) (g : Nat) (s : RS) : Prop := ∃ vL vG vW H C, TK B w g s vL vG vW H C
section
variable {B : Nat} {w w' : World} {g : Nat} {s : RS} {vL vG vW : Value} {H C : Nat → Nat}
/-- other memory may change -/
theorem TK.keep (h : TK B w g s vL vG vW H C) (hk : ∀ k, B ≤ k → k < w.heap.size → w'.heap[k]? = w.heap[k]?) : TK B w' g s vL vG vW H C := by
  have ok : ∀ {n c : Nat} {e : TypeId} {v : Value} {xs : List Value}, w.ownsRow B e c v n xs → w'.ownsRow B e c v n xs := fun h1 => own_keep h1 fun k hk1 => hk k (own_lt h1 hk1).2 (own_lt h1 hk1).1
  refine ⟨?_, h.hg, ok h.heads, fun d hd => ok (h.rows d hd), h.apart, ok h.lost, ok h.waits⟩
  have hb := h.blk
  have hl := hb.lt
  unfold Blk at hb ⊢
  exact (hk g h.hg hl).trans hb
theorem TK.below (h : TK B w g s vL vG vW H C) (hb : Below w.heap.size w w') : TK B w' g s vL vG vW H C := h.keep fun k _ hk => hb.block k hk
theorem TAt.below (h : TAt B w g s) (hb : Below w.heap.size w w') : TAt B w' g s := by
  obtain ⟨vL, vG, vW, H, C, h⟩ := h
  exact ⟨vL, vG, vW, H, C, h.below hb⟩
theorem TK.c0 (h : TK B w g s vL vG vW H C) : w.cell? ⟨g, 0, none⟩ = some vL := h.blk.cell 0
theorem TK.c1 (h : TK B w g s vL vG vW H C) : w.cell? ⟨g, 1, none⟩ = some vG := h.blk.cell 1
theorem TK.c2 (h : TK B w g s vL vG vW H C) : w.cell? ⟨g, 2, none⟩ = some vW := h.blk.cell 2
theorem TK.c3 (h : TK B w g s vL vG vW H C) : w.cell? ⟨g, 3, none⟩ = some (.bool s.off) := h.blk.cell 3
theorem TK.c4 (h : TK B w g s vL vG vW H C) : w.cell? ⟨g, 4, none⟩ = some (.int .i64 (armI s)) := h.blk.cell 4
theorem TK.shapeL (h : TK B w g s vL vG vW H C) (hn : 0 < s.nd) : ∃ l c, vL = .slice (some ⟨l, 0, none⟩) s.nd c := by
  rcases h.heads.2 with ⟨_, e⟩ | ⟨l, cap, cur, e, _⟩
  · omega
  · exact ⟨l, cap, e⟩
theorem TK.shapeG (h : TK B w g s vL vG vW H C) (hn : 0 < s.nd) : ∃ l c, vG = .slice (some ⟨l, 0, none⟩) s.nd c := by
  rcases h.lost.2 with ⟨_, e⟩ | ⟨l, cap, cur, e, _⟩
  · omega
  · exact ⟨l, cap, e⟩
theorem TK.shapeW (h : TK B w g s vL vG vW H C) : ∃ A c, vW = .slice A s.nw c ∧ (0 < s.nw → ∃ l, A = some ⟨l, 0, none⟩) := by
  rcases h.waits.2 with ⟨e, e2⟩ | ⟨l, cap, cur, e, _⟩
  · exact ⟨none, 0, by rw [e, e2], fun h => by omega⟩
  · exact ⟨_, cap, e, fun _ => ⟨l, rfl⟩⟩
end
end refRack
end Go.Proofs.Ytlbmeaioiiflkaa
