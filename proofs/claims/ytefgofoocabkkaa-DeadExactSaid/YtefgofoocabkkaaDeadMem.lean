/-
  Blocks, snapshots and lines: what they are, and how they lie in memory. No conditions beyond those that each theorem types.
-/
import Derived.Test.YtefgofoocabkkaaGenRow
namespace Go.Proofs.Ytefgofoocabkkaa
open Go Go.RowKit
set_option maxRecDepth 100000
set_option linter.unusedVariables false
namespace Dd
/-- a block's pointer -/
structure Pt where
  addr : Int
  size : Int
  birth : Int
  sum : ByteArray
structure Sn where
  txg : Int
  dead : List Pt
structure Ln where
  base : Int
  snaps : List Sn
  dead : List Pt
def csP (p : Pt) : List Value := [.int .i64 p.addr, .int .i64 p.size, .int .i64 p.birth, .string p.sum]
def valP (p : Pt) : Value := .agg #[.int .i64 p.addr, .int .i64 p.size, .int .i64 p.birth, .string p.sum]
abbrev RdP (w : World) (A : Option Addr) (l : List Pt) : Prop := Gr.RdG 4 csP w A l
/-- snapshots that can be read -/
def RdS (w : World) (A : Option Addr) (S : List Sn) : Prop := ∀ i s, S[i]? = some s → ∃ b o A' c, A = some ⟨b, o, none⟩ ∧ b < w.heap.size ∧ w.cell? ⟨b, o + i * 2, none⟩ = some (.int .i64 s.txg) ∧ w.cell? ⟨b, o + i * 2 + 1, none⟩ = some (.slice A' s.dead.length c) ∧ RdP w A' s.dead ∧ (A' = none → c = 0)
def big : Nat := 4611686018427387904
/-- the bytes that a row may take -/
def room : Nat := 140737488351432
def Z64 (x : Int) : Prop := -9223372036854775808 ≤ x ∧ x ≤ 9223372036854775807
/-- lengths that an int can count on, numbers that are ints -/
structure Fit (L : Ln) : Prop where
  rs : L.snaps.length * 32 ≤ room
  rd : L.dead.length * 40 ≤ room
  rp : ∀ s ∈ L.snaps, s.dead.length * 40 ≤ room
  zb : Z64 L.base
  zt : ∀ s ∈ L.snaps, Z64 s.txg
  zp : ∀ p ∈ L.dead, Z64 p.birth
  zs : ∀ s ∈ L.snaps, ∀ p ∈ s.dead, Z64 p.birth
theorem Fit.ns {L : Ln} (h : Fit L) : L.snaps.length ≤ big := by have := h.rs; unfold room at this; unfold big; omega
theorem Fit.nd {L : Ln} (h : Fit L) : L.dead.length ≤ big := by have := h.rd; unfold room at this; unfold big; omega
theorem Fit.sd {L : Ln} (h : Fit L) : ∀ s ∈ L.snaps, s.dead.length ≤ big := fun s hs => by have := h.rp s hs; unfold room at this; unfold big; omega
def RdLn (w : World) (v : Value) (L : Ln) : Prop := ∃ A c A' c', v = .agg #[.int .i64 L.base, .slice A L.snaps.length c, .slice A' L.dead.length c'] ∧ RdS w A L.snaps ∧ RdP w A' L.dead ∧ (A = none → c = 0) ∧ (A' = none → c' = 0)
section
variable {w w' : World} {A : Option Addr} {S : List Sn} {v : Value} {L : Ln}
theorem RdS.below (h : RdS w A S) (hb : Below w.heap.size w w') : RdS w' A S := fun i s hs => by
  obtain ⟨b, o, A', c, h1, h2, h3, h4, h5⟩ := h i s hs
  exact ⟨b, o, A', c, h1, Nat.lt_of_lt_of_le h2 hb.size, (hb.cell (p := ⟨b, o + i * 2, none⟩) h2).trans h3, (hb.cell (p := ⟨b, o + i * 2 + 1, none⟩) h2).trans h4, h5.1.below hb, h5.2⟩
theorem RdLn.below (h : RdLn w v L) (hb : Below w.heap.size w w') : RdLn w' v L := by
  obtain ⟨A, c, A', c', h1, h2, h3⟩ := h
  exact ⟨A, c, A', c', h1, h2.below hb, h3.1.below hb, h3.2⟩
end
/-- the transaction ahead of a snapshot -/
def aheadL (L : Ln) : Nat → Int
  | 0 => L.base
  | i + 1 => match L.snaps[i]? with | some s => s.txg | none => 0
def youngL (t : Int) (D : List Pt) : Bool := D.all fun p => decide (p.birth ≤ t)
/-- the first i snapshots are in form -/
def formTo (L : Ln) : Nat → Bool
  | 0 => decide (0 ≤ L.base)
  | i + 1 => formTo L i && match L.snaps[i]? with | some s => decide (aheadL L i < s.txg) && youngL (aheadL L i) s.dead | none => false
def rightL (L : Ln) : Bool := formTo L L.snaps.length && youngL (aheadL L L.snaps.length) L.dead
theorem formTo_mono {L : Ln} : ∀ {n i : Nat}, i ≤ n → formTo L i = false → formTo L n = false
  | 0, i, hi, h => by obtain rfl : i = 0 := by omega
                      exact h
  | n + 1, i, hi, h => by
    by_cases e : i = n + 1
    · subst e; exact h
    · have := formTo_mono (n := n) (i := i) (by omega) h
      show (formTo L n && _) = false
      rw [this, Bool.false_and]
theorem formTo_step {L : Ln} {i : Nat} {s : Sn} (hs : L.snaps[i]? = some s) : formTo L (i + 1) = (formTo L i && (decide (aheadL L i < s.txg) && youngL (aheadL L i) s.dead)) := by
  show (formTo L i && _) = _
  rw [hs]
theorem rightL_no {L : Ln} {i : Nat} (hi : i ≤ L.snaps.length) (h : formTo L i = false) : rightL L = false := by
  unfold rightL
  rw [formTo_mono hi h, Bool.false_and]
theorem youngL_no {t : Int} {D : List Pt} {i : Nat} {p : Pt} (hp : D[i]? = some p) (h : t < p.birth) : youngL t D = false := by
  unfold youngL
  rw [List.all_eq_false]
  exact ⟨p, List.mem_of_getElem? hp, by simp; exact h⟩
theorem youngL_take {t : Int} {D : List Pt} {i : Nat} {p : Pt} (hi : youngL t (D.take i) = true) (hp : D[i]? = some p) (h : p.birth ≤ t) : youngL t (D.take (i + 1)) = true := by
  obtain ⟨h1, h2⟩ := List.getElem?_eq_some_iff.1 hp
  rw [List.take_succ_eq_append_getElem h1, h2]
  unfold youngL at hi ⊢
  rw [List.all_append, hi]
  simp [h]
end Dd
end Go.Proofs.Ytefgofoocabkkaa
