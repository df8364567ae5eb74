/-
  Two spaces beside one another: what a call of the one may have changed. No conditions beyond those that each theorem types.
-/
import Derived.Test.YtpbojhjbjnoihaaSpcAt
import Derived.Test.YtpbojhjbjnoihaaRackMem
import Derived.Laws.MakeOwn
namespace Go.Proofs.Ytpbojhjbjnoihaa
open Go Go.RowKit
set_option maxRecDepth 100000
set_option linter.unusedVariables false
namespace Sp
/-- only blocks of O, and what is new, may have changed -/
structure Frm (O : Nat → Prop) (w w' : World) : Prop where
  os : w'.os = w.os
  tape : w'.tape = w.tape
  output : w'.output = w.output
  size : w.heap.size ≤ w'.heap.size
  block : ∀ g, g < w.heap.size → ¬ O g → w'.heap[g]? = w.heap[g]?
/-- the space lies in blocks of O -/
def SpO (O : Nat → Prop) (w : World) (b m : Nat) (s : SS) : Prop := (∀ g, O g → g < w.heap.size) ∧ O b ∧ O m ∧ ∃ F V, Spc w 0 b m 3 F V s ∧ ∀ k, k < 3 → ∀ g, (V k).ownBlock = some g → O g
section
variable {O O2 : Nat → Prop} {B : Nat} {w w' : World} {b m b2 m2 : Nat} {s s2 : SS}
theorem Spc.zero {n : Nat} {F : Nat → Option Value} {V : Nat → Value} (h : Spc w B b m n F V s) : Spc w 0 b m n F V s :=
  ⟨⟨h.mem.blk, h.mem.map, h.mem.val, fun k hk => (h.mem.own k hk).base_ (Nat.zero_le _), h.mem.apart, ⟨Nat.zero_le _, Nat.zero_le _⟩⟩, h.good⟩
theorem SpA.o (h : SpA B w b m s) : SpO (fun g => B ≤ g ∧ g < w.heap.size) w b m s := by
  obtain ⟨h0, F, V, hs⟩ := h
  exact ⟨fun g hg => hg.2, ⟨hs.mem.lo.1, hs.mem.blk.lt⟩, ⟨hs.mem.lo.2, hs.mem.map.lt⟩, F, V, hs.zero, fun k hk g hg => ⟨((hs.mem.own k hk).lt hg).2, ((hs.mem.own k hk).lt hg).1⟩⟩
theorem SpO.keep (h : SpO O w b m s) (hz : w.heap.size ≤ w'.heap.size) (hf : ∀ g, O g → w'.heap[g]? = w.heap[g]?) : SpO O w' b m s := by
  obtain ⟨h0, h1, h2, F, V, hs, hv⟩ := h
  exact ⟨fun g hg => Nat.lt_of_lt_of_le (h0 g hg) hz, h1, h2, F, V, ⟨hs.mem.keep (hf b h1) (hf m h2) (fun k hk g hg => hf g (hv k hk g hg)), hs.good⟩, hv⟩
/-- what stands in other blocks stays -/
theorem SpO.beside (h : SpO O w b m s) (hf : Frm O2 w w') (hd : ∀ g, O g → ¬ O2 g) : SpO O w' b m s :=
  h.keep hf.size fun g hg => hf.block g (h.1 g hg) (hd g hg)
theorem SpO.a (h : SpO O w b m s) (hB : ∀ g, O g → B ≤ g) (hs : B ≤ w.heap.size) : SpA B w b m s := by
  obtain ⟨h0, h1, h2, F, V, hs', hv⟩ := h
  refine ⟨hs, F, V, ⟨⟨hs'.mem.blk, hs'.mem.map, hs'.mem.val, fun k hk => ?_, hs'.mem.apart, ⟨hB b h1, hB m h2⟩⟩, hs'.good⟩⟩
  rcases hs'.mem.own k hk with ⟨e1, e2⟩ | ⟨q, c, cur, e1, e2, e3, e4⟩
  · exact .inl ⟨e1, e2⟩
  · exact .inr ⟨q, c, cur, e1, hB q (hv k hk q (by rw [e1]; rfl)), e3, e4⟩
theorem Chg.frm {n : Nat} {F F' : Nat → Option Value} {V V' : Nat → Value} {s' : SS} {n' : Nat} (c : Chg w w' b m V V') (h1 : O b) (h2 : O m) (hv : ∀ k, k < 3 → ∀ g, (V k).ownBlock = some g → O g) (h0 : ∀ g, O g → g < w.heap.size) (hs' : Spc w' 0 b m n' F' V' s') :
    Frm O w w' ∧ SpO (fun g => O g ∨ (w.heap.size ≤ g ∧ g < w'.heap.size)) w' b m s' := by
  refine ⟨⟨c.os, c.tape, c.output, c.size, fun g hg ho => c.block g hg (fun e => ho (e ▸ h1)) (fun e => ho (e ▸ h2)) fun k hk e => ho (hv k hk g e)⟩, fun g hg => ?_, .inl h1, .inl h2, F', V', hs'.three, fun k hk g hg => ?_⟩
  · rcases hg with hg | hg
    · exact Nat.lt_of_lt_of_le (h0 g hg) c.size
    · exact hg.2
  · rcases c.own k hk g hg with h3 | ⟨j, hj, h3⟩
    · exact .inr ⟨h3, ((hs'.mem.own k hk).lt hg).1⟩
    · exact .inl (hv j hj g h3)
def More (O : Nat → Prop) (w w' : World) (g : Nat) : Prop := O g ∨ (w.heap.size ≤ g ∧ g < w'.heap.size)
theorem Frm.refl (O : Nat → Prop) (w : World) : Frm O w w := ⟨rfl, rfl, rfl, Nat.le_refl _, fun _ _ _ => rfl⟩
theorem Frm.of (h : Below w.heap.size w w') (O : Nat → Prop) : Frm O w w' := ⟨h.os, h.tape, h.output, h.size, fun g hg _ => h.block g hg⟩
theorem SpO.more (h : SpO O w b m s) (hz : w.heap.size ≤ w'.heap.size) (hf : ∀ g, O g → w'.heap[g]? = w.heap[g]?) : SpO (More O w w') w' b m s := by
  obtain ⟨h0, h1, h2, F, V, hs, hv⟩ := h.keep hz hf
  refine ⟨fun g hg => ?_, .inl h1, .inl h2, F, V, hs, fun k hk g hg => .inl (hv k hk g hg)⟩
  rcases hg with hg | hg
  · exact h0 g hg
  · exact hg.2
theorem takeS_nat (s : SS) (k : Nat) (hk : 1 ≤ k) : takeS s (k : Int) = match rowL k (s.S 0) with | none => ((0, 5), s) | some x => if k + s.kept ≤ cnt (s.S 0) then (((x : Int), 0), s.mv 0 1 x (x + k)) else ((0, 5), s) := by
  unfold takeS
  rw [if_neg (by omega), Int.toNat_natCast]
  rfl
theorem take_o (h : SpO O w b m s) (j : Int) (hj : j ≤ 9223372036854775807) : Calls Try.prog 15 #[.pointer (some ⟨b, 0, none⟩), .int .i64 j] w fun e w' => e = .returned (.tuple #[.int .i64 (takeS s j).1.1, .int .i64 (takeS s j).1.2]) ∧ SpO (More O w w') w' b m (takeS s j).2 ∧ Frm O w w' := by
  have hO := h
  obtain ⟨h0, h1, h2, F, V, hs, hv⟩ := h
  have same : ∀ w', Below w.heap.size w w' → SpO (More O w w') w' b m s ∧ Frm O w w' := fun w' hb => ⟨hO.more hb.size fun g hg => hb.block g (h0 g hg), .of hb O⟩
  by_cases hj1 : j < 1
  · refine (take_arg hs j hj1).mono fun e w' ⟨h1, h2⟩ => ?_
    have e1 : takeS s j = ((0, 1), s) := if_pos hj1
    rw [e1]
    subst h2
    exact ⟨h1, same _ (Below.refl _ _)⟩
  · obtain ⟨k, hk⟩ : ∃ k, k = j.toNat := ⟨_, rfl⟩
    have ej : j = (k : Int) := by omega
    have e1 := takeS_nat s k (by omega)
    rw [ej, e1]
    cases hr : rowL k (s.S 0) with
    | none =>
      refine (take_no hs k (by omega) (fun x hx => by rw [hr] at hx; cases hx)).mono fun e w' ⟨h1, h2⟩ => ?_
      exact ⟨h1, same _ h2⟩
    | some x =>
      dsimp only
      by_cases hc : k + s.kept ≤ cnt (s.S 0)
      · rw [if_pos hc]
        refine (take_yes hs (Nat.zero_le _) (by decide) k x (by omega) hr hc).mono fun e w' ⟨h3, F', V', h4, h5⟩ => ?_
        have := h5.frm (n := 3) (F := F) h1 h2 hv h0 h4
        exact ⟨h3, this.2, this.1⟩
      · rw [if_neg hc]
        refine (take_no hs k (by omega) (fun x _ => by omega)).mono fun e w' ⟨h1, h2⟩ => ?_
        exact ⟨h1, same _ h2⟩
theorem settle_o (h : SpO O w b m s) : Calls Try.prog 11 #[.pointer (some ⟨b, 0, none⟩)] w fun e w' => e = .returned (.int .i64 (cnt (s.S 2) : Int)) ∧ SpO (More O w w') w' b m s.settled ∧ Frm O w w' := by
  obtain ⟨h0, h1, h2, F, V, hs, hv⟩ := h
  refine (settle_sp hs (Nat.zero_le _)).mono fun e w' ⟨h3, F', V', h4, h5⟩ => ?_
  have := h5.frm (n := 3) (F := F) h1 h2 hv h0 h4
  exact ⟨h3, this.2, this.1⟩
theorem res_o (h : SpO O w b m s) (k : Int) (hk1 : -9223372036854775808 ≤ k) (hk2 : k ≤ 9223372036854775807) : Calls Try.prog 19 #[.pointer (some ⟨b, 0, none⟩), .int .i64 k] w fun e w' => e = .returned (.int .i64 (resS s k).1) ∧ SpO (More O w w') w' b m (resS s k).2 ∧ Frm O w w' := by
  have hO := h
  obtain ⟨h0, h1', h2', F, V, hs, hv⟩ := h
  have hkp := hs.good.kp
  have same : ∀ w', Below w.heap.size w w' → SpO (More O w w') w' b m s ∧ Frm O w w' := fun w' hb => ⟨hO.more hb.size fun g hg => hb.block g (h0 g hg), .of hb O⟩
  by_cases h1 : (s.kept : Int) + k < 0
  · have e1 : resS s k = (1, s) := if_pos h1
    rw [e1]
    refine (res_arg hs k hk1 h1).mono fun e w' ⟨h2, h3⟩ => ?_
    subst h3
    exact ⟨h2, same _ (Below.refl _ _)⟩
  · by_cases h2 : (cnt (s.S 0) : Int) - (s.kept : Int) < k
    · have e1 : resS s k = (5, s) := by unfold resS; rw [if_neg h1, if_pos h2]
      rw [e1]
      exact (res_no hs k hk2 h2 (by omega)).mono fun e w' ⟨h3, h4⟩ => ⟨h3, same _ h4⟩
    · have e1 : resS s k = (0, { s with kept := ((s.kept : Int) + k).toNat }) := by unfold resS; rw [if_neg h1, if_neg h2]
      rw [e1]
      refine (res_yes hs k ((s.kept : Int) + k).toNat (by omega) (by omega)).mono fun e w' ⟨h3, h4, h5⟩ => ?_
      have := h5.frm (n := 3) (F := F) h1' h2' hv h0 h4
      exact ⟨h3, this.2, this.1⟩
theorem Frm.below (h : Frm O w w') (hB : ∀ g, O g → B ≤ g) (hs : B ≤ w.heap.size) : Below B w w' :=
  ⟨h.os, h.tape, h.output, h.size, fun g hg => h.block g (by omega) (fun ho => by have := hB g ho; omega)⟩
end
end Sp
end Go.Proofs.Ytpbojhjbjnoihaa
namespace Go.Proofs.Ytpbojhjbjnoihaa
open Go Go.RowKit
set_option maxRecDepth 100000
set_option linter.unusedVariables false
namespace Ir
theorem info_int : (Try.prog.info? 3).map (fun i => (i.zero, i.size, i.bytes)) = some (some (.int .i64 0), 1, 8) := by kernel_rfl
def intA (n : Nat) (f : Nat → Int) : Array Value := Array.ofFn (n := n) fun c => .int .i64 (f c.val)
theorem intA_get {n : Nat} {f : Nat → Int} {c : Nat} (h : c < n) : (intA n f)[c]? = some (.int .i64 (f c)) := by simp [intA, h]
theorem intA_set {n : Nat} {f : Nat → Int} {c : Nat} {v : Int} (h : c < n) : (intA n f).setIfInBounds c (.int .i64 v) = intA n (fun j => if j = c then v else f j) := by
  apply Array.ext_getElem?
  intro j
  rw [Array.getElem?_setIfInBounds]
  have hs : (intA n f).size = n := by simp [intA]
  rw [hs]
  by_cases hj : j < n
  · rw [intA_get hj, intA_get hj]
    by_cases e : c = j
    · rw [if_pos e, if_pos h, if_pos e.symm]
    · rw [if_neg e, if_neg (fun x => e x.symm)]
  · rw [if_neg (by omega), Array.getElem?_eq_none (by rw [hs]; omega), Array.getElem?_eq_none (by simp [intA]; omega)]
theorem replicate_ints (n : Nat) : Array.replicate n (Value.int .i64 0) = intA n (fun _ => 0) := by
  apply Array.ext_getElem?
  intro i
  by_cases h : i < n
  · rw [intA_get h]; simp [h]
  · rw [Array.getElem?_eq_none (by simp; omega), Array.getElem?_eq_none (by simp [intA]; omega)]
theorem make_ints (n : Nat) (hn : n ≤ 70000) (w : World) (l : Int) (hl : l = (n : Int)) :
    (Instr.makeSlice 71 (.int .i64 l) (.int .i64 l)).run Try.prog w = .ok (.slice (some ⟨w.heap.size, 0, none⟩) n n) (w.alloc (.cells (intA n (fun _ => 0)) 3)) := by
  subst hl
  obtain ⟨i0, hi, hz0, hz1, hz2⟩ := info_parts info_int
  have h := run_make (P := Try.prog) (w := w) 71 3 i0 (.int .i64 0) Try.underlying71 hi hz0 .i64 .i64 (n : Int) (n : Int) (by omega) (by omega) (by rw [hz2]; omega) (by omega)
  rw [h, hz1, Int.toNat_natCast, Nat.mul_one]
  show _ = _
  rw [show (Value.int .i64 0).cells = #[.int .i64 0] from rfl, madeCells_one, replicate_ints]

end Ir
end Go.Proofs.Ytpbojhjbjnoihaa
