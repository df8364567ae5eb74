/-
  A rack and the document's rack beside it: what both are, kept by each pair of calls. No conditions beyond those that each theorem types.
-/
import Derived.Test.YthioanenljpclaaGreatDoorRefRottenM
import Derived.Test.YthioanenljpclaaGreatDoorRefRot
import Derived.Test.YthioanenljpclaaGreatDoorLabLookM
namespace Go.Proofs.YthioanenljpclaaGreatDoor
set_option maxRecDepth 100000
open Go Go.RowKit
set_option linter.unusedVariables false
namespace refRack
/-- the document's rack t is what the rack s is, but for what a lost drive holds -/
structure Sim (s t : RS) : Prop where
  nd : t.nd = s.nd
  ns : t.ns = s.ns
  nw : t.nw = s.nw
  W : t.W = s.W
  gone : t.gone = s.gone
  off : t.off = s.off
  armed : t.armed = s.armed
  left : t.left = s.left
  last : ∀ d, s.gone d = false → t.last d = s.last d
theorem Sim.start (nd ns : Nat) : Sim (RS.new nd ns) (RS.new nd ns) := ⟨rfl, rfl, rfl, rfl, rfl, rfl, rfl, rfl, fun _ _ => rfl⟩
section
variable {s t : RS}
theorem Sim.isD (h : Sim s t) (D : Int) : t.isD D = s.isD D := by unfold RS.isD; rw [h.nd]
theorem Sim.isP (h : Sim s t) (D E : Int) : t.isP D E = s.isP D E := by unfold RS.isP; rw [h.isD, h.ns]
theorem Sim.why (h : Sim s t) (D E : Int) : t.why D E = s.why D E := by unfold RS.why; rw [h.isP, h.gone]
theorem Sim.deny (h : Sim s t) (D E : Int) : t.deny D E = s.deny D E := by unfold RS.deny; rw [h.why, h.off]
theorem Sim.pow (h : Sim s t) : t.pow = s.pow := by unfold RS.pow; rw [h.off, h.armed, h.left]
theorem Sim.holds (h : Sim s t) {d : Nat} (hg : s.gone d = false) (a : Nat) : t.holds d a = s.holds d a := by
  unfold RS.holds
  rw [h.W, h.nw, h.last d hg]
theorem Sim.spent (h : Sim s t) : Sim s.spent t.spent := by
  unfold RS.spent
  rw [h.off, h.armed, h.left]
  by_cases h1 : s.off = true
  · rw [if_pos h1, if_pos h1]; exact h
  · rw [if_neg h1, if_neg h1]
    by_cases h2 : (!s.armed) = true
    · rw [if_pos h2, if_pos h2]; exact h
    · rw [if_neg h2, if_neg h2]
      by_cases h3 : s.left = 0
      · rw [if_pos h3, if_pos h3]
        exact ⟨h.nd, h.ns, h.nw, h.W, h.gone, rfl, rfl, rfl, h.last⟩
      · rw [if_neg h3, if_neg h3]
        exact ⟨h.nd, h.ns, h.nw, h.W, h.gone, rfl, rfl, rfl, h.last⟩
theorem Sim.wrote (h : Sim s t) (d a : Nat) (X : Nat → Nat) : Sim (s.wrote d a X) (t.wrote d a X) := by
  refine ⟨h.nd, h.ns, ?_, ?_, h.gone, h.off, h.armed, h.left, h.last⟩
  · show t.nw + 1 = s.nw + 1
    rw [h.nw]
  · show (fun i => if i = t.nw then (⟨d, a, X⟩ : Wt) else t.W i) = fun i => if i = s.nw then (⟨d, a, X⟩ : Wt) else s.W i
    rw [h.nw, h.W]
theorem Sim.lay (h : Sim s t) (P : Nat → Bool) {d : Nat} (hg : s.gone d = false) : ∀ k, t.lay P k d = s.lay P k d
  | 0 => h.last d hg
  | k + 1 => by
    funext a
    show (if P k = true ∧ (t.W k).d = d ∧ (t.W k).a = a then (t.W k).x else t.lay P k d a) = if P k = true ∧ (s.W k).d = d ∧ (s.W k).a = a then (s.W k).x else s.lay P k d a
    rw [h.W, h.lay P hg k]
theorem Sim.laid (h : Sim s t) (P : Nat → Bool) : Sim (s.laid P) (t.laid P) :=
  ⟨h.nd, h.ns, rfl, h.W, h.gone, h.off, h.armed, h.left, fun d hg => by
    show t.lay P t.nw d = s.lay P s.nw d
    rw [h.nw]
    exact h.lay P hg s.nw⟩
theorem Sim.flushed (h : Sim s t) : Sim s.flushed t.flushed := h.laid _
theorem Sim.crashed (h : Sim s t) (P : Nat → Bool) : Sim (s.crashed P) (t.crashed P) := by
  have h1 := h.laid P
  exact ⟨h1.nd, h1.ns, h1.nw, h1.W, h1.gone, rfl, rfl, rfl, h1.last⟩
theorem Sim.arm (h : Sim s t) (n : Int) : Sim (s.arm n) (t.arm n) := ⟨h.nd, h.ns, h.nw, h.W, h.gone, h.off, rfl, rfl, h.last⟩
theorem Sim.lost (h : Sim s t) (d : Nat) : Sim (s.lost d) ((forgot t d).setGone d true) := by
  refine ⟨h.nd, h.ns, ?_, ?_, ?_, h.off, h.armed, h.left, fun d' hg => ?_⟩
  · show (keptL t.W d t.nw).length = (keptL s.W d s.nw).length
    rw [h.W, h.nw]
  · show (fun i => (keptL t.W d t.nw).getD i ⟨0, 0, zeros⟩) = fun i => (keptL s.W d s.nw).getD i ⟨0, 0, zeros⟩
    rw [h.W, h.nw]
  · show (fun i => if i = d then true else t.gone i) = fun i => if i = d then true else s.gone i
    rw [h.gone]
  · have hg' : (if d' = d then true else s.gone d') = false := hg
    by_cases e : d' = d
    · rw [if_pos e] at hg'; cases hg'
    · rw [if_neg e] at hg'
      show t.last d' = fun a' => if d' = d then zeros else s.last d' a'
      simp only [if_neg e, h.last d' hg']
theorem Sim.anew (h : Sim s t) (d : Nat) : Sim (s.anew d) { (forgot t d).setGone d false with last := fun d' a' => if d' = d then zeros else t.last d' a' } := by
  refine ⟨h.nd, h.ns, ?_, ?_, ?_, h.off, h.armed, h.left, fun d' hg => ?_⟩
  · show (keptL t.W d t.nw).length = (keptL s.W d s.nw).length
    rw [h.W, h.nw]
  · show (fun i => (keptL t.W d t.nw).getD i ⟨0, 0, zeros⟩) = fun i => (keptL s.W d s.nw).getD i ⟨0, 0, zeros⟩
    rw [h.W, h.nw]
  · show (fun i => if i = d then false else t.gone i) = fun i => if i = d then false else s.gone i
    rw [h.gone]
  · have hg' : (if d' = d then false else s.gone d') = false := hg
    show (fun a' => if d' = d then zeros else t.last d' a') = fun a' => if d' = d then zeros else s.last d' a'
    by_cases e : d' = d
    · simp only [if_pos e]
    · rw [if_neg e] at hg'
      simp only [if_neg e, h.last d' hg']
theorem Sim.rotted (h : Sim s t) (d a n : Nat) (hg : s.gone d = false) : Sim (s.rotted d a n) (t.rotted d a n) := by
  cases hi : newIn s.W d a s.nw with
  | some i =>
    rw [rotted_some hi, rotted_some (show newIn t.W d a t.nw = some i by rw [h.W, h.nw]; exact hi)]
    refine ⟨h.nd, h.ns, h.nw, ?_, h.gone, h.off, h.armed, h.left, h.last⟩
    show putW t.W i (rotF (t.W i).x n) = putW s.W i (rotF (s.W i).x n)
    rw [h.W]
  | none =>
    rw [rotted_none hi, rotted_none (show newIn t.W d a t.nw = none by rw [h.W, h.nw]; exact hi)]
    refine ⟨h.nd, h.ns, h.nw, h.W, h.gone, h.off, h.armed, h.left, fun d' hg' => ?_⟩
    show (fun a' => if d' = d ∧ a' = a then rotF (t.last d a) n else t.last d' a') = fun a' => if d' = d ∧ a' = a then rotF (s.last d a) n else s.last d' a'
    rw [h.last d hg, h.last d' hg']
end
end refRack
end Go.Proofs.YthioanenljpclaaGreatDoor
namespace Go.Proofs.YthioanenljpclaaGreatDoor
open Go Go.RowKit
set_option maxRecDepth 100000
set_option linter.unusedVariables false
namespace refRack
/-- both racks, after at most c calls -/
structure Both (B : Nat) (w : World) (r g : Nat) (s t : RS) (c : Nat) : Prop where
  rack : RackAt B w r s
  ref : TAt B w g t
  sim : Sim s t
  cost : s.cost ≤ c
section
variable {B : Nat} {w w' : World} {r g c : Nat} {s t : RS}
theorem Both.below (h : Both B w r g s t c) (hb : Below w.heap.size w w') : Both B w' r g s t c := ⟨h.rack.below hb, h.ref.below hb, h.sim, h.cost⟩
theorem Both.left (h : Both B w r g s t c) : t.left ≤ 9223372036854775807 := by rw [h.sim.left]; exact h.rack.1.left
theorem Both.nw (h : Both B w r g s t c) : t.nw ≤ c := by
  obtain ⟨_, m1, m2, v, hk⟩ := h.rack
  have h1 := hk.nw_le
  rw [h.sim.nw]
  exact Nat.le_trans h1 h.cost
theorem Both.places (h : Both B w r g s t c) : Places t := fun i hi => by
  have hw := h.rack.1.wp i (by rw [← h.sim.nw]; exact hi)
  rw [h.sim.W, h.sim.nd, h.sim.ns]
  exact ⟨hw.1, hw.2.1⟩
theorem Both.le (h : Both B w r g s t c) : B ≤ w.heap.size := h.rack.le
end
end refRack
end Go.Proofs.YthioanenljpclaaGreatDoor
namespace Go.Proofs.YthioanenljpclaaGreatDoor
open Go Go.RowKit
set_option maxRecDepth 100000
set_option linter.unusedVariables false
namespace refRack
def loseT (t : RS) (D : Int) : RS := if t.isD D = true then (forgot t D.toNat).setGone D.toNat true else t
def anewT (t : RS) (D : Int) : RS := if t.isD D = true then { (forgot t D.toNat).setGone D.toNat false with last := fun d' a' => if d' = D.toNat then zeros else t.last d' a' } else t
section
variable {B : Nat} {w w' : World} {r g : Nat} {s t : RS}
theorem Sim.loseE (h : Sim s t) (D : Int) : loseE t D = loseE s D := by unfold refRack.loseE; rw [h.isD]
theorem Sim.loseS (h : Sim s t) (D : Int) : Sim (loseS s D) (loseT t D) := by
  unfold refRack.loseS loseT
  rw [h.isD]
  by_cases hd : s.isD D = true
  · rw [if_pos hd, if_pos hd]; exact h.lost _
  · rw [if_neg hd, if_neg hd]; exact h
theorem Sim.anewS (h : Sim s t) (D : Int) : Sim (anewS s D) (anewT t D) := by
  unfold refRack.anewS anewT
  rw [h.isD]
  by_cases hd : s.isD D = true
  · rw [if_pos hd, if_pos hd]; exact h.anew _
  · rw [if_neg hd, if_neg hd]; exact h
theorem Sim.rotE (h : Sim s t) (D A n : Int) : rotE t D A n = rotE s D A n := by unfold refRack.rotE; rw [h.why]
theorem Sim.rotS (h : Sim s t) (D A n : Int) : Sim (rotS s D A n) (rotS t D A n) := by
  unfold refRack.rotS
  rw [h.why]
  by_cases hd : n < 0 ∨ s.why D A ≠ 0
  · rw [if_pos hd, if_pos hd]; exact h
  · rw [if_neg hd, if_neg hd]
    obtain ⟨d, a, rfl, rfl, h1, h2, h3⟩ := why_some (by omega : s.why D A = 0)
    exact h.rotted _ _ _ h3
theorem Sim.wrE (h : Sim s t) (D A : Int) (m : Nat) : wrE t D A m = wrE s D A m := by unfold refRack.wrE; rw [h.why, h.pow]
theorem Sim.wrS (h : Sim s t) (D A : Int) (m : Nat) (X : Nat → Nat) : Sim (wrS s D A m X) (wrS t D A m X) := by
  unfold refRack.wrS
  rw [h.why, h.pow]
  by_cases hd : m = 128 ∧ s.why D A = 0
  · rw [if_pos hd, if_pos hd]
    by_cases hp : s.pow = true
    · rw [if_pos hp, if_pos hp]; exact h.spent.wrote _ _ _
    · rw [if_neg hp, if_neg hp]; exact h.spent
  · rw [if_neg hd, if_neg hd]; exact h
theorem lose_tot_k (w : World) (g : Nat) (t : RS) (D : Int) (hn : t.nw ≤ 1000000) (h : TAt B w g t) :
    Calls Tryz.prog 15 #[.pointer (some ⟨g, 0, none⟩), .int .i64 D] w fun e w' => e = .returned (.int .i64 (loseE t D)) ∧ TAt B w' g (loseT t D) ∧ KeepR B w w' := by
  obtain ⟨vL, vG, vW, H, C, hk⟩ := h
  cases hd : t.isD D with
  | true =>
    obtain ⟨d, rfl, hd2⟩ := isD_some hd
    unfold refRack.loseE loseT
    rw [if_pos hd, if_pos hd, Int.toNat_natCast]
    exact lose_k w g t d hn hd2 hk
  | false =>
    unfold refRack.loseE loseT
    rw [if_neg (by rw [hd]; decide), if_neg (by rw [hd]; decide)]
    exact (lose_no_k w g t D hd hk).mono fun e w' ⟨h1, h2⟩ => ⟨h1, by rw [h2]; exact ⟨vL, vG, vW, H, C, hk⟩, by rw [h2]; exact KeepR.refl B w⟩
theorem anew_tot_k (w : World) (g : Nat) (t : RS) (D : Int) (hn : t.nw ≤ 1000000) (hns0 : 0 < t.ns) (hns : t.ns ≤ 2000) (h : TAt B w g t) :
    Calls Tryz.prog 17 #[.pointer (some ⟨g, 0, none⟩), .int .i64 D] w fun e w' => e = .returned (.int .i64 (loseE t D)) ∧ TAt B w' g (anewT t D) ∧ KeepR B w w' := by
  obtain ⟨vL, vG, vW, H, C, hk⟩ := h
  cases hd : t.isD D with
  | true =>
    obtain ⟨d, rfl, hd2⟩ := isD_some hd
    unfold refRack.loseE anewT
    rw [if_pos hd, if_pos hd, Int.toNat_natCast]
    exact replace_k w g t d hn hd2 hns0 hns hk
  | false =>
    unfold refRack.loseE anewT
    rw [if_neg (by rw [hd]; decide), if_neg (by rw [hd]; decide)]
    exact (replace_no_k w g t D hd hk).mono fun e w' ⟨h1, h2⟩ => ⟨h1, by rw [h2]; exact ⟨vL, vG, vW, H, C, hk⟩, by rw [h2]; exact KeepR.refl B w⟩
theorem rot_tot_k (w : World) (g : Nat) (t : RS) (D A n : Int) (hn : n ≤ 9223372036854775807) (hX : ∀ d a j, t.gone d = false → j < 128 → t.holds d a j < 256) (h : TAt B w g t) :
    Calls Tryz.prog 19 #[.pointer (some ⟨g, 0, none⟩), .int .i64 D, .int .i64 A, .int .i64 n] w fun e w' => e = .returned (.int .i64 (rotE t D A n)) ∧ TAt B w' g (rotS t D A n) ∧ KeepR B w w' := by
  obtain ⟨vL, vG, vW, H, C, hk⟩ := h
  unfold refRack.rotE refRack.rotS
  by_cases h0 : n < 0
  · rw [if_pos h0, if_pos (.inl h0)]
    exact (rot_neg_k w g t D A n h0 hk).mono fun e w' ⟨h1, h2⟩ => ⟨h1, by rw [h2]; exact ⟨vL, vG, vW, H, C, hk⟩, by rw [h2]; exact KeepR.refl B w⟩
  · rw [if_neg h0]
    by_cases h1 : t.why D A = 0
    · rw [if_neg (by omega)]
      rw [h1]
      obtain ⟨d, a, rfl, rfl, h2, h3, h4⟩ := why_some h1
      obtain ⟨m, rfl⟩ : ∃ m : Nat, n = (m : Int) := ⟨n.toNat, by omega⟩
      rw [Int.toNat_natCast, Int.toNat_natCast, Int.toNat_natCast]
      exact rot_k w g t d a m h2 h3 h4 (by omega) (fun j hj => hX d a j h4 hj) hk
    · rw [if_pos (.inr h1)]
      exact (rot_why_k w g t D A n (by omega) h1 hk).mono fun e w' ⟨h1, h2⟩ => ⟨h1, by rw [h2]; exact ⟨vL, vG, vW, H, C, hk⟩, by rw [h2]; exact KeepR.refl B w⟩
theorem wr_tot_k (w : World) (g : Nat) (t : RS) (D A : Int) (m : Nat) (X : Nat → Nat) (hl : t.left ≤ 9223372036854775807) (hn : t.nw + 1 ≤ 2000000) (h : TAt B w g t) :
    Calls Tryz.prog 22 #[.pointer (some ⟨g, 0, none⟩), .int .i64 D, .int .i64 A, .string (strB m X)] w fun e w' => e = .returned (.int .i64 (wrE t D A m)) ∧ TAt B w' g (wrS t D A m X) ∧ KeepR B w w' := by
  obtain ⟨vL, vG, vW, H, C, hk⟩ := h
  unfold refRack.wrE refRack.wrS
  by_cases hm : m = 128
  · subst hm
    rw [if_pos rfl]
    by_cases h1 : t.why D A = 0
    · rw [if_pos h1, if_pos (show 128 = 128 ∧ t.why D A = 0 from ⟨rfl, h1⟩)]
      obtain ⟨d, a, rfl, rfl, h2, h3, h4⟩ := why_some h1
      rw [Int.toNat_natCast, Int.toNat_natCast]
      exact write_go_k w g t d a X hl h2 h3 h4 hn hk
    · rw [if_neg h1, if_neg (show ¬(128 = 128 ∧ t.why D A = 0) from fun q => h1 q.2)]
      exact (write_why_k w g t D A _ (strB_sizeR 128 X) h1 hk).mono fun e w' ⟨h1, h2⟩ => ⟨h1, by rw [h2]; exact ⟨vL, vG, vW, H, C, hk⟩, by rw [h2]; exact KeepR.refl B w⟩
  · rw [if_neg hm, if_neg (show ¬(m = 128 ∧ t.why D A = 0) from fun q => hm q.1)]
    exact (write_size_k w g t D A _ (by rw [strB_sizeR]; exact hm) hk).mono fun e w' ⟨h1, h2⟩ => ⟨h1, by rw [h2]; exact ⟨vL, vG, vW, H, C, hk⟩, by rw [h2]; exact KeepR.refl B w⟩
theorem read_tot_k (w : World) (g : Nat) (t : RS) (D A : Int) (h : TAt B w g t) :
    Calls Tryz.prog 66 #[.pointer (some ⟨g, 0, none⟩), .int .i64 D, .int .i64 A] w fun e w' => e = .returned (.tuple #[.string (strB (rdN t D A) (t.holds D.toNat A.toNat)), .int .i64 (t.deny D A)]) ∧ w' = w := by
  obtain ⟨vL, vG, vW, H, C, hk⟩ := h
  unfold rdN
  by_cases h1 : t.deny D A = 0
  · rw [if_pos h1, h1]
    obtain ⟨h2, h3⟩ := deny_some h1
    obtain ⟨d, a, rfl, rfl, h4, h5, h6⟩ := why_some h2
    rw [Int.toNat_natCast, Int.toNat_natCast]
    exact read_ok_k w g t d a h4 h5 h6 h3 hk
  · rw [if_neg h1]
    exact read_no_k w g t D A h1 hk
theorem Sim.rdN (h : Sim s t) (D A : Int) : rdN t D A = rdN s D A := by unfold refRack.rdN; rw [h.deny]
/-- the document's rack, told from lower down -/
theorem TAt.base {B' : Nat} (h : TAt B w g t) (hb : B' ≤ B) : TAt B' w g t := by
  obtain ⟨vL, vG, vW, H, C, h⟩ := h
  exact ⟨vL, vG, vW, H, C, h.blk, Nat.le_trans hb h.hg, own_base h.heads hb, fun d hd => own_base (h.rows d hd) hb, h.apart, own_base h.lost hb, own_base h.waits hb⟩
theorem TAt.keepRack {B' : Nat} (h : TAt B w g t) (k : Keep B' w w') : TAt B w' g t := by
  obtain ⟨vL, vG, vW, H, C, h⟩ := h
  exact ⟨vL, vG, vW, H, C, h.keepRack k⟩
theorem TAt.keep (h : TAt B w g t) (hk : ∀ k, B ≤ k → k < w.heap.size → w'.heap[k]? = w.heap[k]?) : TAt B w' g t := by
  obtain ⟨vL, vG, vW, H, C, h⟩ := h
  exact ⟨vL, vG, vW, H, C, h.keep hk⟩
end
end refRack
end Go.Proofs.YthioanenljpclaaGreatDoor
