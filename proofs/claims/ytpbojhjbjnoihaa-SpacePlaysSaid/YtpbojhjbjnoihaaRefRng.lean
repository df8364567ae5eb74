/-
  The ranges of the cells that have a state, told one by one: plain mathematics. No conditions beyond those that each theorem types.
-/
import Derived.Test.YtpbojhjbjnoihaaSpcHeld
namespace Go.Proofs.Ytpbojhjbjnoihaa
open Go Go.RowKit
set_option maxRecDepth 100000
set_option linter.unusedVariables false
namespace Sp
structure RngOk (f : Nat → Int) (k : Int) (i : Nat) (L : List Rg) : Prop where
  ris : Ris 0 L
  iff : ∀ c, mem L c ↔ c < i ∧ f c = k
theorem Ris.snoc {lo : Nat} : ∀ {L : List Rg} {r : Rg}, Ris lo L → (∀ q ∈ L, q.2 < r.1) → lo ≤ r.1 → r.1 < r.2 → Ris lo (L ++ [r])
  | [], r, _, _, h1, h2 => ⟨h1, h2, trivial⟩
  | q :: L, r, h, hq, _, h2 => ⟨h.1, h.2.1, Ris.snoc h.2.2 (fun p hp => hq p (by simp [hp])) (hq q (by simp)) h2⟩
theorem Ris.init {lo : Nat} : ∀ {L : List Rg} {r : Rg}, Ris lo (L ++ [r]) → Ris lo L ∧ (∀ q ∈ L, q.2 < r.1) ∧ lo ≤ r.1 ∧ r.1 < r.2
  | [], r, h => ⟨trivial, (fun q hq => by cases hq), h.1, h.2.1⟩
  | q :: L, r, h => by
    obtain ⟨h1, h2, h3, h4⟩ := Ris.init h.2.2
    refine ⟨⟨h.1, h.2.1, h1⟩, fun p hp => ?_, ?_, h4⟩
    · rcases List.mem_cons.1 hp with rfl | hp
      · exact h3
      · exact h2 p hp
    · have := h.1; have := h.2.1; omega
theorem mem_snoc (L : List Rg) (r : Rg) (c : Nat) : mem (L ++ [r]) c ↔ mem L c ∨ (r.1 ≤ c ∧ c < r.2) := by
  constructor
  · rintro ⟨q, hq, h⟩
    rcases List.mem_append.1 hq with hq | hq
    · exact .inl ⟨q, hq, h⟩
    · simp at hq; subst hq; exact .inr h
  · rintro (⟨q, hq, h⟩ | h)
    · exact ⟨q, by simp [hq], h⟩
    · exact ⟨r, by simp, h⟩
section
variable {f : Nat → Int} {k : Int} {i : Nat} {L : List Rg}
theorem RngOk.start (f : Nat → Int) (k : Int) : RngOk f k 0 [] := ⟨trivial, fun c => ⟨fun h => absurd h (mem_nil c), fun h => by omega⟩⟩
theorem RngOk.skip (h : RngOk f k i L) (hi : f i ≠ k) : RngOk f k (i + 1) L := ⟨h.ris, fun c => by
  rw [h.iff]
  constructor
  · rintro ⟨h1, h2⟩; exact ⟨by omega, h2⟩
  · rintro ⟨h1, h2⟩
    refine ⟨?_, h2⟩
    by_cases e : c = i
    · subst e; exact absurd h2 hi
    · omega⟩
theorem RngOk.grow {a : Nat} (h : RngOk f k i (L ++ [(a, i)])) (hi : f i = k) : RngOk f k (i + 1) (L ++ [(a, i + 1)]) := by
  obtain ⟨h1, h2, h3, h4⟩ := h.ris.init
  refine ⟨Ris.snoc h1 h2 h3 (by show a < i + 1; have : a < i := h4; omega), fun c => ?_⟩
  rw [mem_snoc]
  have h5 := h.iff c
  rw [mem_snoc] at h5
  dsimp only at h5 h4 ⊢
  constructor
  · rintro (h6 | h6)
    · have := h5.1 (.inl h6); exact ⟨by omega, this.2⟩
    · by_cases e : c = i
      · subst e; exact ⟨by omega, hi⟩
      · have := h5.1 (.inr ⟨h6.1, by omega⟩); exact ⟨by omega, this.2⟩
  · rintro ⟨h6, h7⟩
    by_cases e : c = i
    · subst e; exact .inr ⟨by omega, by omega⟩
    · rcases h5.2 ⟨by omega, h7⟩ with h8 | h8
      · exact .inl h8
      · exact .inr ⟨h8.1, by omega⟩
theorem RngOk.ends (h : RngOk f k i L) : ∀ q ∈ L, q.2 ≤ i := fun q hq => by
  have hl := h.ris.lt_ q hq
  have := ((h.iff (q.2 - 1)).1 ⟨q, hq, by omega, by omega⟩).1
  omega
theorem RngOk.new (h : RngOk f k i L) (hi : f i = k) (hne : ∀ q ∈ L, q.2 ≠ i) : RngOk f k (i + 1) (L ++ [(i, i + 1)]) := by
  refine ⟨Ris.snoc h.ris (fun q hq => ?_) (Nat.zero_le _) (by show i < i + 1; omega), fun c => ?_⟩
  · have h1 := h.ends q hq
    have h2 := hne q hq
    show q.2 < i
    omega
  · rw [mem_snoc, h.iff]
    dsimp only
    constructor
    · rintro (h6 | h6)
      · exact ⟨by omega, h6.2⟩
      · have e : c = i := by omega
        subst e; exact ⟨by omega, hi⟩
    · rintro ⟨h6, h7⟩
      by_cases e : c = i
      · exact .inr (by omega)
      · exact .inl ⟨by omega, h7⟩
/-- only the last one can end at i -/
theorem RngOk.last {r : Rg} (h : RngOk f k i (L ++ [r])) (hr : r.2 ≠ i) : ∀ q ∈ L ++ [r], q.2 ≠ i := fun q hq => by
  obtain ⟨h1, h2, h3, h4⟩ := h.ris.init
  have hre := h.ends r (by simp)
  rcases List.mem_append.1 hq with hq | hq
  · have := h2 q hq; omega
  · simp at hq; subst hq; exact hr
theorem RngOk.is {s : SS} {k : Nat} (h : RngOk f (k : Int) s.cells L) (hg : Sp.Good s) (ht : Tells f s) (hk : k < 3) : L = s.S k :=
  Ris.uniq h.ris (hg.ris k hk) fun c => by
    rw [h.iff]
    constructor
    · rintro ⟨h1, h2⟩; exact (ht.iff hg h1 hk).1 h2
    · intro h1
      have h2 := hg.in_ k hk c h1
      exact ⟨h2, (ht.iff hg h2 hk).2 h1⟩
end
end Sp
end Go.Proofs.Ytpbojhjbjnoihaa
