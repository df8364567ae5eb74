/-
  The calls of a space told by what it keeps: each by one contract, for all numbers of 64 bits.
-/
import Derived.Test.YtpbojhjbjnoihaaSpcKnown
import Derived.IntWalk
namespace Go.Proofs.Ytpbojhjbjnoihaa
open Go Go.RowKit
set_option maxRecDepth 100000
set_option linter.unusedVariables false
namespace Sp
theorem umodN (a : Int) (k : Nat) (hk : 0 < k) (hk2 : k ≤ 1000000) : ∃ n : Nat, wrap64 ((IntKind.u64.wrap a).tmod (k : Int)) = (n : Int) ∧ n < k := by
  have h0 : 0 ≤ IntKind.u64.wrap a := by rw [IntKind.wrap_u64]; omega
  have h1 := Int.tmod_nonneg (k : Int) h0
  have h2 := Int.tmod_lt_of_pos (IntKind.u64.wrap a) (show (0 : Int) < (k : Int) by omega)
  refine ⟨((IntKind.u64.wrap a).tmod (k : Int)).toNat, ?_, by omega⟩
  generalize (IntKind.u64.wrap a).tmod (k : Int) = y at *
  unfold wrap64
  omega
/-- the space at block b keeps s; all that it has lies from block B on -/
def SpA (B : Nat) (w : World) (b m : Nat) (s : SS) : Prop := B ≤ w.heap.size ∧ ∃ F V, Spc w B b m 3 F V s
section
variable {B : Nat} {w w' : World} {b m : Nat} {s : SS}
theorem SpA.good (h : SpA B w b m s) : Good s := by obtain ⟨_, F, V, h⟩ := h; exact h.good
theorem SpA.keep (h : SpA B w b m s) (hb : Below w.heap.size w w') : SpA B w' b m s := by
  obtain ⟨h0, F, V, h⟩ := h
  exact ⟨Nat.le_trans h0 hb.size, F, V, h.mem.below hb (Nat.le_refl _), h.good⟩
theorem SpA.blk (h : SpA B w b m s) : B ≤ b ∧ b < w.heap.size := by obtain ⟨_, F, V, h⟩ := h; exact ⟨h.mem.lo.1, h.mem.blk.lt⟩
theorem SpA.of (h0 : B ≤ w.heap.size) {n : Nat} {F : Nat → Option Value} {V : Nat → Value} (h : Spc w B b m n F V s) : SpA B w b m s := ⟨h0, F, V, h.three⟩
end
/-- what a take answers, and leaves -/
def takeS (s : SS) (j : Int) : (Int × Int) × SS :=
  if j < 1 then ((0, 1), s) else match rowL j.toNat (s.S 0) with
    | none => ((0, 5), s)
    | some x => if j.toNat + s.kept ≤ cnt (s.S 0) then (((x : Int), 0), s.mv 0 1 x (x + j.toNat)) else ((0, 5), s)
def giveS (s : SS) (a j : Int) : Int × SS :=
  if j < 1 ∨ a < 0 ∨ (s.cells : Int) - j < a then (1, s) else if hasL a.toNat (a.toNat + j.toNat) (s.S 1) then (0, s.mv 1 2 a.toNat (a.toNat + j.toNat)) else (7, s)
def resS (s : SS) (k : Int) : Int × SS :=
  if (s.kept : Int) + k < 0 then (1, s) else if (cnt (s.S 0) : Int) - (s.kept : Int) < k then (5, s) else (0, { s with kept := ((s.kept : Int) + k).toNat })
section
variable {B : Nat} {w : World} {b m : Nat} {s : SS}
theorem free_at (h : SpA B w b m s) : Calls Try.prog 8 #[.pointer (some ⟨b, 0, none⟩)] w fun e w' => e = .returned (.int .i64 ((cnt (s.S 0) : Int) - (s.kept : Int))) ∧ SpA B w' b m s ∧ Below w.heap.size w w' := by
  obtain ⟨h0, F, V, hs⟩ := h
  exact (free_rg hs).mono fun e w' ⟨h1, h2⟩ => ⟨h1, SpA.keep ⟨h0, F, V, hs⟩ h2, h2⟩
theorem take_at (h : SpA B w b m s) (j : Int) (hj : j ≤ 9223372036854775807) : Calls Try.prog 15 #[.pointer (some ⟨b, 0, none⟩), .int .i64 j] w fun e w' => e = .returned (.tuple #[.int .i64 (takeS s j).1.1, .int .i64 (takeS s j).1.2]) ∧ SpA B w' b m (takeS s j).2 ∧ Below B w w' := by
  obtain ⟨h0, F, V, hs⟩ := h
  by_cases hj1 : j < 1
  · refine (take_arg hs j hj1).mono fun e w' ⟨h1, h2⟩ => ?_
    have e1 : takeS s j = ((0, 1), s) := if_pos hj1
    rw [e1]
    subst h2
    exact ⟨h1, ⟨h0, F, V, hs⟩, Below.refl _ _⟩
  · obtain ⟨k, hk⟩ : ∃ k, k = j.toNat := ⟨_, rfl⟩
    have ej : j = (k : Int) := by omega
    have e1 : takeS s j = match rowL k (s.S 0) with | none => ((0, 5), s) | some x => if k + s.kept ≤ cnt (s.S 0) then (((x : Int), 0), s.mv 0 1 x (x + k)) else ((0, 5), s) := by
      unfold takeS
      rw [if_neg hj1, ← hk]
    rw [e1, ej]
    cases hr : rowL k (s.S 0) with
    | none =>
      refine (take_no hs k (by omega) (fun x hx => by rw [hr] at hx; cases hx)).mono fun e w' ⟨h1, h2⟩ => ?_
      exact ⟨h1, SpA.keep ⟨h0, F, V, hs⟩ h2, h2.mono h0⟩
    | some x =>
      dsimp only
      by_cases hc : k + s.kept ≤ cnt (s.S 0)
      · rw [if_pos hc]
        refine (take_yes hs h0 (by decide) k x (by omega) hr hc).mono fun e w' ⟨h1, F', V', h2, h3⟩ => ?_
        have hb := h3.below hs.mem h0
        exact ⟨h1, SpA.of (Nat.le_trans h0 h3.size) h2, hb⟩
      · rw [if_neg hc]
        refine (take_no hs k (by omega) (fun x _ => by omega)).mono fun e w' ⟨h1, h2⟩ => ?_
        exact ⟨h1, SpA.keep ⟨h0, F, V, hs⟩ h2, h2.mono h0⟩
theorem give_at (h : SpA B w b m s) (a j : Int) (ha1 : -9223372036854775808 ≤ a) (ha2 : a ≤ 9223372036854775807) (hj1 : -9223372036854775808 ≤ j) (hj2 : j ≤ 9223372036854775807) : Calls Try.prog 9 #[.pointer (some ⟨b, 0, none⟩), .int .i64 a, .int .i64 j] w fun e w' => e = .returned (.int .i64 (giveS s a j).1) ∧ SpA B w' b m (giveS s a j).2 ∧ Below B w w' := by
  obtain ⟨h0, F, V, hs⟩ := h
  by_cases hno : j < 1 ∨ a < 0 ∨ (s.cells : Int) - j < a
  · have e1 : giveS s a j = (1, s) := if_pos hno
    rw [e1]
    exact (give_no hs a j ha1 ha2 hj1 hj2 hno).mono fun e w' ⟨h1, h2⟩ => ⟨h1, SpA.keep ⟨h0, F, V, hs⟩ h2, h2.mono h0⟩
  · obtain ⟨x, hx⟩ : ∃ x, x = a.toNat := ⟨_, rfl⟩
    obtain ⟨k, hk⟩ : ∃ k, k = j.toNat := ⟨_, rfl⟩
    have ea : a = (x : Int) := by omega
    have ej : j = (k : Int) := by omega
    have e1 : giveS s a j = if hasL x (x + k) (s.S 1) then (0, s.mv 1 2 x (x + k)) else (7, s) := by
      unfold giveS
      rw [if_neg hno, ← hx, ← hk]
    rw [e1, ea, ej]
    refine (give_sp hs h0 (by decide) x k (by omega) (by omega)).mono fun e w' ⟨h1, F', V', h2, h3⟩ => ?_
    have hb := h3.below hs.mem h0
    cases hh : hasL x (x + k) (s.S 1) with
    | true => rw [hh] at h1 h2; exact ⟨h1, SpA.of (Nat.le_trans h0 h3.size) h2, hb⟩
    | false => rw [hh] at h1 h2; exact ⟨h1, SpA.of (Nat.le_trans h0 h3.size) h2, hb⟩
theorem settle_at (h : SpA B w b m s) : Calls Try.prog 11 #[.pointer (some ⟨b, 0, none⟩)] w fun e w' => e = .returned (.int .i64 (cnt (s.S 2) : Int)) ∧ SpA B w' b m s.settled ∧ Below B w w' := by
  obtain ⟨h0, F, V, hs⟩ := h
  exact (settle_sp hs h0).mono fun e w' ⟨h1, F', V', h2, h3⟩ => ⟨h1, ⟨Nat.le_trans h0 h3.size, F', V', h2⟩, h3.below hs.mem h0⟩
theorem res_at (h : SpA B w b m s) (k : Int) (hk1 : -9223372036854775808 ≤ k) (hk2 : k ≤ 9223372036854775807) : Calls Try.prog 19 #[.pointer (some ⟨b, 0, none⟩), .int .i64 k] w fun e w' => e = .returned (.int .i64 (resS s k).1) ∧ SpA B w' b m (resS s k).2 ∧ Below B w w' := by
  obtain ⟨h0, F, V, hs⟩ := h
  have hkp := hs.good.kp
  by_cases h1 : (s.kept : Int) + k < 0
  · have e1 : resS s k = (1, s) := if_pos h1
    rw [e1]
    refine (res_arg hs k hk1 h1).mono fun e w' ⟨h2, h3⟩ => ?_
    subst h3
    exact ⟨h2, ⟨h0, F, V, hs⟩, Below.refl _ _⟩
  · by_cases h2 : (cnt (s.S 0) : Int) - (s.kept : Int) < k
    · have e1 : resS s k = (5, s) := by unfold resS; rw [if_neg h1, if_pos h2]
      rw [e1]
      exact (res_no hs k hk2 h2 (by omega)).mono fun e w' ⟨h3, h4⟩ => ⟨h3, SpA.keep ⟨h0, F, V, hs⟩ h4, h4.mono h0⟩
    · have e1 : resS s k = (0, { s with kept := ((s.kept : Int) + k).toNat }) := by unfold resS; rw [if_neg h1, if_neg h2]
      rw [e1]
      exact (res_yes hs k ((s.kept : Int) + k).toNat (by omega) (by omega)).mono fun e w' ⟨h3, h4, h5⟩ => ⟨h3, SpA.of (Nat.le_trans h0 h5.size) h4, h5.below hs.mem h0⟩
theorem dup_at (h : SpA B w b m s) : Calls Try.prog 10 #[.pointer (some ⟨b, 0, none⟩)] w fun e w' => ∃ b2 m2, e = .returned (.pointer (some ⟨b2, 0, none⟩)) ∧ SpA w.heap.size w' b2 m2 s ∧ SpA B w' b m s ∧ Below w.heap.size w w' := by
  obtain ⟨h0, F, V, hs⟩ := h
  exact (dup_sp hs h0).mono fun e w' ⟨b2, m2, F2, V2, h1, h2, h3⟩ => ⟨b2, m2, h1, ⟨h3.size, F2, V2, h2⟩, SpA.keep ⟨h0, F, V, hs⟩ h3, h3⟩
theorem used_at (h : SpA B w b m s) : Calls Try.prog 39 #[.pointer (some ⟨b, 0, none⟩)] w fun e w' => ∃ v', e = .returned v' ∧ Own w' w.heap.size v' (s.S 1) ∧ SpA B w' b m s ∧ Below w.heap.size w w' := by
  obtain ⟨h0, F, V, hs⟩ := h
  exact (used_rg hs h0).mono fun e w' ⟨v', h1, h2, h3⟩ => ⟨v', h1, h2, SpA.keep ⟨h0, F, V, hs⟩ h3, h3⟩
theorem ranges_at (h : SpA B w b m s) : Calls Try.prog 38 #[.pointer (some ⟨b, 0, none⟩)] w fun e w' => ∃ v', e = .returned v' ∧ Own w' w.heap.size v' (s.S 0) ∧ SpA B w' b m s ∧ Below w.heap.size w w' := by
  obtain ⟨h0, F, V, hs⟩ := h
  exact (ranges_rg hs h0).mono fun e w' ⟨v', h1, h2, h3⟩ => ⟨v', h1, h2, SpA.keep ⟨h0, F, V, hs⟩ h3, h3⟩
end
theorem newnil_at (w : World) (C : Nat) (h1 : 1 ≤ C) (h2 : C ≤ 40000) :
    Calls Try.prog 13 #[.int .i64 (C : Int), .slice none 0 0] w fun er w' => ∃ b m, er = .returned (.tuple #[.pointer (some ⟨b, 0, none⟩), .int .i64 0]) ∧ SpA w.heap.size w' b m (allFree C) ∧ Below w.heap.size w w' :=
  (new_nil w C h1 h2).mono fun e w' ⟨b, m, F, V, h3, h4, h5⟩ => ⟨b, m, h3, SpA.of h5.size h4, h5⟩
theorem new_at (w : World) (C : Int) (A : Option Addr) (l : List (Int × Int)) (c : Nat) (hl : l.length ≤ 4611686018427387904) (hrd : RdZ2 w A l) (hz : ∀ r ∈ l, Z64 r.1 ∧ Z64 r.2) :
    Calls Try.prog 13 #[.int .i64 C, .slice A l.length c] w fun er w' => (match newS C l with
      | .error x => er = .returned (.tuple #[.pointer none, .int .i64 x])
      | .ok s => ∃ b m, er = .returned (.tuple #[.pointer (some ⟨b, 0, none⟩), .int .i64 0]) ∧ SpA w.heap.size w' b m s) ∧ Below w.heap.size w w' := by
  by_cases hC : C < 1 ∨ 40000 < C
  · have e1 : newS C l = .error 1 := if_pos hC
    rw [e1]
    exact new_arg w C A l.length c hC
  · obtain ⟨D, hD⟩ : ∃ D : Nat, C = (D : Int) := ⟨C.toNat, by omega⟩
    subst hD
    refine (new_in w D A l c (by omega) (by omega) hl hrd hz).mono fun e w' hp => ?_
    unfold NewPost at hp
    cases hn : newS (D : Int) l with
    | error x => rw [hn] at hp; exact hp
    | ok s =>
      rw [hn] at hp
      obtain ⟨b, m, F, V, h3, h4, h5⟩ := hp
      exact ⟨⟨b, m, h3, SpA.of h5.size h4⟩, h5⟩
end Sp
end Go.Proofs.Ytpbojhjbjnoihaa
