/-
  A rack and the document's rack side by side under labels: each pair of calls, told as what the first leaves and what the second answers. Conditions: those that each theorem types.
-/
import Derived.Test.YthioanenljpclaaGreatDoorLabKnownM
import Derived.Test.YthioanenljpclaaGreatDoorLabNewestM
namespace Go.Proofs.YthioanenljpclaaGreatDoor
open Go Go.RowKit refRack
set_option maxRecDepth 100000
set_option linter.unusedVariables false
namespace Lab
/-- whatever is no part of either rack is as it was -/
structure KeepZ (B : Nat) (w w' : World) : Prop where
  below : Below B w w'
  kept : ∀ (k : Nat) (o : Obj), w.heap[k]? = some o → rackObj o = false → refObj o = false → w'.heap[k]? = some o
section
variable {B : Nat} {a w w' : World}
theorem KeepZ.refl (B : Nat) (w : World) : KeepZ B w w := ⟨Below.refl B w, fun _ _ h _ _ => h⟩
theorem KeepZ.trans (h : KeepZ B a w) (k : KeepZ B w w') : KeepZ B a w' := ⟨h.below.trans k.below, fun i o h1 h2 h3 => k.kept i o (h.kept i o h1 h2 h3) h2 h3⟩
theorem KeepZ.of (h : Keep B w w') : KeepZ B w w' := ⟨h.below, fun k o h1 h2 _ => h.kept k o h1 h2⟩
theorem KeepZ.ofR (h : KeepR B w w') : KeepZ B w w' := ⟨h.below, fun k o h1 _ h2 => h.kept k o h1 h2⟩
theorem KeepZ.new (hb : Below w.heap.size w w') (hs : B ≤ w.heap.size) : KeepZ B w w' := ⟨hb.mono hs, fun k o h1 _ _ => (hb.block k (Array.getElem?_eq_some_iff.1 h1).1).trans h1⟩
end
/-- behind the first call of a pair -/
structure Mid (B : Nat) (W0 W : World) (r g : Nat) (s t : RS) : Prop where
  rack : RackAt B W r s
  ref : TAt B W g t
  kp : KeepZ B W0 W
section
variable {B : Nat} {w w' : World} {r g c : Nat} {s t : RS}
theorem Mid.of (h : Both B w r g s t c) {s' : RS} (hr : RackAt B w' r s') (hk : Keep B w w') : Mid B w w' r g s' t := ⟨hr, h.ref.keepRack hk, KeepZ.of hk⟩
theorem Mid.then {w0 : World} {s' t' : RS} {c' : Nat} (h : Mid B w0 w r g s' t) (ht : TAt B w' g t') (hk : KeepR B w w') (hs : Sim s' t') (hc : s'.cost ≤ c') : Both B w' r g s' t' c' ∧ KeepZ B w0 w' := ⟨⟨h.rack.keepR hk, ht, hs, hc⟩, h.kp.trans (KeepZ.ofR hk)⟩
theorem _root_.Go.Proofs.YthioanenljpclaaGreatDoor.refRack.Both.more (h : Both B w r g s t c) {c' : Nat} (hc : c ≤ c') : Both B w r g s t c' := ⟨h.rack, h.ref, h.sim, Nat.le_trans h.cost hc⟩
theorem _root_.Go.Proofs.YthioanenljpclaaGreatDoor.refRack.Both.nw2 (h : Both B w r g s t c) (hc : c ≤ 100000) : t.nw ≤ 1000000 := by have := h.nw; omega
theorem _root_.Go.Proofs.YthioanenljpclaaGreatDoor.refRack.Both.nd2 (h : Both B w r g s t c) : s.nd ≤ 16 := h.rack.1.nd2
theorem _root_.Go.Proofs.YthioanenljpclaaGreatDoor.refRack.Both.bytes (h : Both B w r g s t c) : ∀ d a j, t.gone d = false → j < 128 → t.holds d a j < 256 := fun d a j hg hj => by
  rw [h.sim.gone] at hg
  rw [h.sim.holds hg]
  exact RS.holds_lt h.rack.1 d a j hj
/- what both tell -/
theorem sec_same (h : Sim s t) {d a : Nat} (hg : s.gone d = false) : sec t d a = sec s d a := by
  unfold sec
  rw [h.holds hg]
theorem found_same (h : Sim s t) {d a : Nat} (hg : s.gone d = false) : found t d a = found s d a := by
  have he : ∀ u, Has t d a u ↔ Has s d a u := fun u => by unfold Has; rw [sec_same h hg]
  by_cases hx : ∃ u, Has s d a u
  · obtain ⟨u, hu⟩ := hx
    rw [found_some hu, found_some ((he u).2 hu)]
  · rw [found_none fun u hu => hx ⟨u, hu⟩, found_none fun u hu => hx ⟨u, (he u).1 hu⟩]
theorem deny_gone {d a : Nat} (h : s.deny (d : Int) (a : Int) = 0) : s.gone d = false := by
  obtain ⟨d', a', e1, e2, h4, h5, h6⟩ := why_some (deny_some h).1
  have : d = d' := by omega
  rw [this]; exact h6
theorem lookU_same (h : Sim s t) (d a : Nat) : lookU t d a = lookU s d a := by
  unfold lookU
  rw [h.deny]
  split
  · next hy => rw [found_same h (deny_gone hy)]
  · rfl
theorem lookE_same (h : Sim s t) (d a : Nat) : lookE t d a = lookE s d a := by
  unfold lookE
  rw [h.deny]
  split
  · next hy => rw [found_same h (deny_gone hy)]
  · rfl
theorem nrow_same (h : Sim s t) (d : Nat) : ∀ (f a : Nat) (b : U), NRow t d f a b = NRow s d f a b
  | 0, _, _ => rfl
  | f + 1, a, b => by
    show (if lookE t d a = 16 then none else NRow t d f (a + 1) (stepU b (lookU t d a))) = if lookE s d a = 16 then none else NRow s d f (a + 1) (stepU b (lookU s d a))
    rw [lookE_same h, lookU_same h, nrow_same h d f (a + 1)]
theorem nall_same (h : Sim s t) : ∀ (f d : Nat) (b : U), NAll t f d b = NAll s f d b
  | 0, _, _ => rfl
  | f + 1, d, b => by
    show (NRow t d 8 0 b).bind (NAll t f (d + 1)) = (NRow s d 8 0 b).bind (NAll s f (d + 1))
    rw [nrow_same h]
    congr 1
    funext b
    exact nall_same h f (d + 1) b
theorem newU_same (h : Sim s t) : newU t = newU s := by
  unfold newU
  rw [h.ns, h.nd, nall_same h]
theorem slot_same (h : Sim s t) {d : Nat} (hy : s.deny (d : Int) 0 = 0) (h8 : 8 < s.ns) {a : Nat} (ha : a < 8) : (wslot t d a).t = slotI s d a := by
  have hd : s.deny (d : Int) (a : Int) = 0 := (deny_ind (d := d) (a := a) (by omega) (by omega)).trans hy
  unfold wslot slotI lookU
  rw [found_same h (deny_gone hd), if_pos hd]
  cases found s d a <;> rfl
theorem wr_same (q : Int) (X : Nat → Nat) : ∀ (f k n : Nat) {s t : RS}, Sim s t → (WR q X f k t n).2 = (WR q X f k s n).2 ∧ Sim (WR q X f k s n).1 (WR q X f k t n).1
  | 0, k, n, s, t, h => ⟨rfl, h⟩
  | f + 1, k, n, s, t, h => by
    show (if wrE t (k : Int) q 128 = 16 then (wrS t (k : Int) q 128 X, (0 : Int), (16 : Int)) else WR q X f (k + 1) (wrS t (k : Int) q 128 X) (if wrE t (k : Int) q 128 = 0 then n + 1 else n)).2 = (if wrE s (k : Int) q 128 = 16 then (wrS s (k : Int) q 128 X, (0 : Int), (16 : Int)) else WR q X f (k + 1) (wrS s (k : Int) q 128 X) (if wrE s (k : Int) q 128 = 0 then n + 1 else n)).2 ∧
      Sim (if wrE s (k : Int) q 128 = 16 then (wrS s (k : Int) q 128 X, (0 : Int), (16 : Int)) else WR q X f (k + 1) (wrS s (k : Int) q 128 X) (if wrE s (k : Int) q 128 = 0 then n + 1 else n)).1 (if wrE t (k : Int) q 128 = 16 then (wrS t (k : Int) q 128 X, (0 : Int), (16 : Int)) else WR q X f (k + 1) (wrS t (k : Int) q 128 X) (if wrE t (k : Int) q 128 = 0 then n + 1 else n)).1
    rw [h.wrE (k : Int) q 128]
    have hs := h.wrS (k : Int) q 128 X
    split
    · exact ⟨rfl, hs⟩
    · exact wr_same q X f (k + 1) _ hs
theorem wr_cost (q : Int) (X : Nat → Nat) : ∀ (f k n : Nat) (s : RS), (WR q X f k s n).1.cost ≤ s.cost + f
  | 0, k, n, s => Nat.le_refl _
  | f + 1, k, n, s => by
    show (if wrE s (k : Int) q 128 = 16 then (wrS s (k : Int) q 128 X, (0 : Int), (16 : Int)) else WR q X f (k + 1) (wrS s (k : Int) q 128 X) (if wrE s (k : Int) q 128 = 0 then n + 1 else n)).1.cost ≤ s.cost + (f + 1)
    have h1 := wrS_cost s (k : Int) q 128 X
    split
    · show (wrS s (k : Int) q 128 X).cost ≤ _
      omega
    · have h2 := wr_cost q X f (k + 1) (if wrE s (k : Int) q 128 = 0 then n + 1 else n) (wrS s (k : Int) q 128 X)
      omega
theorem wroteL_same (h : Sim s t) (u : U) : (wroteL t u).2 = (wroteL s u).2 ∧ Sim (wroteL s u).1 (wroteL t u).1 := by
  unfold wroteL
  rw [h.ns, h.nd]
  split
  · split
    · exact wr_same _ _ _ _ _ h
    · exact ⟨rfl, h⟩
  · exact ⟨rfl, h⟩
theorem wroteL_cost (s : RS) (u : U) : (wroteL s u).1.cost ≤ s.cost + s.nd := by
  unfold wroteL
  split
  · split
    · exact wr_cost _ _ _ _ _ _
    · exact Nat.le_add_right _ _
  · exact Nat.le_add_right _ _
/- the pairs -/
theorem lab_write (w : World) (h : Both B w r g s t c) (hl : Laid w) (hB : 0 < B) (u : U) (hf : FitU u) (hc : c ≤ 100000) :
    Calls Tryz.prog 7 #[.pointer (some ⟨r, 0, none⟩), .agg (uA u)] w fun e w' => e = .returned (.tuple #[.int .i64 (wroteL s u).2.1, .int .i64 (wroteL s u).2.2]) ∧ Mid B w w' r g (wroteL s u).1 t :=
  (write_lab w r s u h.rack hf hl hB (by have := h.cost; have := h.nd2; omega)).mono fun e w' ⟨h1, h2, h3⟩ => ⟨h1, Mid.of h h2 h3⟩
theorem doc_write {w0 : World} (h0 : Both B w0 r g s t c) (u : U) (hf : FitU u) (hc : c ≤ 100000) (hnd : 0 < s.nd) (h : Mid B w0 w r g (wroteL s u).1 t) :
    Calls Tryz.prog 9 #[.pointer (some ⟨g, 0, none⟩), .agg (uA u)] w fun e w' => e = .returned (.tuple #[.int .i64 (wroteL s u).2.1, .int .i64 (wroteL s u).2.2]) ∧ Both B w' r g (wroteL s u).1 (wroteL t u).1 (c + 16) ∧ KeepZ B w0 w' := by
  have hs := wroteL_same h0.sim u
  refine (write_k8 w g t u h.ref (Nat.le_trans h0.le h.kp.below.size) (by rw [h0.sim.nd]; exact hnd) (by rw [h0.sim.nd]; exact h0.nd2) hf h0.left (h0.nw2 hc)).mono fun e w' ⟨h1, h2, h3⟩ => ⟨by rw [h1, hs.1], h.then h2 h3 hs.2 ?_⟩
  have h4 := wroteL_cost s u
  have := h0.cost
  have := h0.nd2
  omega
def flE (s : RS) : Int := if s.pow = true then 0 else 16
def flS (s : RS) : RS := if s.pow then s.spent.flushed else s.spent
theorem lab_flush (w : World) (h : Both B w r g s t c) :
    Calls Tryz.prog 10 #[.pointer (some ⟨r, 0, none⟩)] w fun e w' => e = .returned (.int .i64 (flE s)) ∧ Mid B w w' r g (flS s) t :=
  (flush_any w r s (flS s) (flE s) h.rack rfl rfl).mono fun e w' ⟨h1, h2, h3⟩ => ⟨h1, Mid.of h h2 h3⟩
theorem flS_cost (s : RS) : (flS s).cost = s.cost := by
  unfold flS
  split
  · exact spent_costs s
  · exact spent_costs s
theorem doc_flush {w0 : World} (h0 : Both B w0 r g s t c) (h : Mid B w0 w r g (flS s) t) :
    Calls Tryz.prog 11 #[.pointer (some ⟨g, 0, none⟩)] w fun e w' => e = .returned (.int .i64 (flE s)) ∧ Both B w' r g (flS s) (flS t) c ∧ KeepZ B w0 w' := by
  obtain ⟨vL, vG, vW, H, C, hk⟩ := h.ref
  have hp : t.pow = s.pow := h0.sim.pow
  have hs : Sim (flS s) (flS t) := by
    unfold flS
    rw [hp]
    split
    · exact h0.sim.spent.flushed
    · exact h0.sim.spent
  refine (flush_k w g t h0.left h0.places hk).mono fun e w' ⟨h1, h2, h3⟩ => ⟨by rw [h1, hp]; rfl, h.then h2 h3 hs ?_⟩
  rw [flS_cost]
  exact h0.cost
theorem lab_lose (w : World) (h : Both B w r g s t c) (D : Int) :
    Calls Tryz.prog 14 #[.pointer (some ⟨r, 0, none⟩), .int .i64 D] w fun e w' => e = .returned (.int .i64 (loseE s D)) ∧ Mid B w w' r g (loseS s D) t :=
  (lose_tot w r s D h.rack).mono fun e w' ⟨h1, h2, h3⟩ => ⟨h1, Mid.of h h2 h3⟩
theorem doc_lose {w0 : World} (h0 : Both B w0 r g s t c) (D : Int) (hc : c ≤ 100000) (h : Mid B w0 w r g (loseS s D) t) :
    Calls Tryz.prog 15 #[.pointer (some ⟨g, 0, none⟩), .int .i64 D] w fun e w' => e = .returned (.int .i64 (loseE s D)) ∧ Both B w' r g (loseS s D) (loseT t D) c ∧ KeepZ B w0 w' :=
  (lose_tot_k w g t D (h0.nw2 hc) h.ref).mono fun e w' ⟨h1, h2, h3⟩ => ⟨by rw [h1, h0.sim.loseE], h.then h2 h3 (h0.sim.loseS D) (by rw [loseS_cost]; exact h0.cost)⟩
theorem lab_anew (w : World) (h : Both B w r g s t c) (D : Int) :
    Calls Tryz.prog 16 #[.pointer (some ⟨r, 0, none⟩), .int .i64 D] w fun e w' => e = .returned (.int .i64 (loseE s D)) ∧ Mid B w w' r g (anewS s D) t :=
  (anew_tot w r s D h.rack).mono fun e w' ⟨h1, h2, h3⟩ => ⟨h1, Mid.of h h2 h3⟩
theorem doc_anew {w0 : World} (h0 : Both B w0 r g s t c) (D : Int) (hc : c ≤ 100000) (h : Mid B w0 w r g (anewS s D) t) :
    Calls Tryz.prog 17 #[.pointer (some ⟨g, 0, none⟩), .int .i64 D] w fun e w' => e = .returned (.int .i64 (loseE s D)) ∧ Both B w' r g (anewS s D) (anewT t D) c ∧ KeepZ B w0 w' :=
  (anew_tot_k w g t D (h0.nw2 hc) (by rw [h0.sim.ns]; exact h0.rack.1.ns1) (by rw [h0.sim.ns]; exact h0.rack.1.ns2) h.ref).mono fun e w' ⟨h1, h2, h3⟩ => ⟨by rw [h1, h0.sim.loseE], h.then h2 h3 (h0.sim.anewS D) (by rw [anewS_cost]; exact h0.cost)⟩
theorem lab_rot (w : World) (h : Both B w r g s t c) (D A n : Int) (hn : n ≤ 9223372036854775807) (hc : c ≤ 100000) :
    Calls Tryz.prog 18 #[.pointer (some ⟨r, 0, none⟩), .int .i64 D, .int .i64 A, .int .i64 n] w fun e w' => e = .returned (.int .i64 (rotE s D A n)) ∧ Mid B w w' r g (rotS s D A n) t :=
  (rot_tot w r s D A n hn (by have := h.cost; omega) h.rack).mono fun e w' ⟨h1, h2, h3⟩ => ⟨h1, Mid.of h h2 h3⟩
theorem doc_rot {w0 : World} (h0 : Both B w0 r g s t c) (D A n : Int) (hn : n ≤ 9223372036854775807) (h : Mid B w0 w r g (rotS s D A n) t) :
    Calls Tryz.prog 19 #[.pointer (some ⟨g, 0, none⟩), .int .i64 D, .int .i64 A, .int .i64 n] w fun e w' => e = .returned (.int .i64 (rotE s D A n)) ∧ Both B w' r g (rotS s D A n) (rotS t D A n) (c + 1) ∧ KeepZ B w0 w' :=
  (rot_tot_k w g t D A n hn h0.bytes h.ref).mono fun e w' ⟨h1, h2, h3⟩ => ⟨by rw [h1, h0.sim.rotE], h.then h2 h3 (h0.sim.rotS D A n) (Nat.le_trans (rotS_cost s D A n) (by have := h0.cost; omega))⟩
theorem lab_arm (w : World) (h : Both B w r g s t c) (n : Int) (hn : n ≤ 9223372036854775807) :
    Calls Tryz.prog 23 #[.pointer (some ⟨r, 0, none⟩), .int .i64 n] w fun e w' => e = .returned (.tuple #[]) ∧ Mid B w w' r g (s.arm n) t :=
  (arm_any w r s n hn h.rack).mono fun e w' ⟨h1, h2, h3⟩ => ⟨h1, Mid.of h h2 h3⟩
theorem doc_arm {w0 : World} (h0 : Both B w0 r g s t c) (n : Int) (h : Mid B w0 w r g (s.arm n) t) :
    Calls Tryz.prog 24 #[.pointer (some ⟨g, 0, none⟩), .int .i64 n] w fun e w' => e = .returned (.tuple #[]) ∧ Both B w' r g (s.arm n) (t.arm n) c ∧ KeepZ B w0 w' := by
  obtain ⟨vL, vG, vW, H, C, hk⟩ := h.ref
  exact (arm_k w g t n hk).mono fun e w' ⟨h1, h2, h3⟩ => ⟨h1, h.then ⟨_, _, _, _, _, h2⟩ h3 (h0.sim.arm n) h0.cost⟩
theorem lab_newest (w : World) (h : Both B w r g s t c) (hl : Laid w) (hB : 0 < B) :
    Calls Tryz.prog 25 #[.pointer (some ⟨r, 0, none⟩)] w fun e w' => e = .returned (.tuple #[.agg (uA (newU s).1), .int .i64 (newU s).2]) ∧ Both B w' r g s t c ∧ KeepZ B w w' :=
  (newest_lab w r s h.rack hl hB).mono fun e w' ⟨h1, h2, h3⟩ => ⟨h1, ⟨h2, h.ref.keepRack h3, h.sim, h.cost⟩, KeepZ.of h3⟩
theorem doc_newest (w : World) (h : Both B w r g s t c) (hnd : 0 < s.nd) :
    Calls Tryz.prog 26 #[.pointer (some ⟨g, 0, none⟩)] w fun e w' => e = .returned (.tuple #[.agg (uA (newU s).1), .int .i64 (newU s).2]) ∧ Both B w' r g s t c ∧ KeepZ B w w' :=
  (newest_k8 w g t h.ref (by rw [h.sim.nd]; exact hnd) (by rw [h.sim.nd]; exact h.nd2) h.bytes).mono fun e w' ⟨h1, h2⟩ => ⟨by rw [h1, newU_same h.sim], h.below h2, KeepZ.new h2 h.le⟩
end
end Lab
end Go.Proofs.YthioanenljpclaaGreatDoor
namespace Go.Proofs.YthioanenljpclaaGreatDoor
open Go Go.RowKit refRack
set_option maxRecDepth 100000
set_option linter.unusedVariables false
namespace Lab
section
variable {B : Nat}
set_option maxHeartbeats 1600000 in
theorem lookI_no (w : World) (r : Nat) (s : RS) (D A : Int) (h : RackAt B w r s) (h0 : s.deny D A ≠ 0) :
    Calls Tryz.prog 52 #[.pointer (some ⟨r, 0, none⟩), .int .i64 D, .int .i64 A] w fun e w' => e = .returned (.tuple #[.agg #[.int .i64 0, .int .i64 0, .int .i64 0, .int .i64 0, .string ⟨#[]⟩], .int .i64 (s.deny D A)]) ∧ RackAt B w' r s ∧ Keep B w w' := by
  have hle := h.le
  have K0 : Hid (Keep B w (w.alloc (.cells #[.int .i64 0, .int .i64 0, .int .i64 0, .int .i64 0, .string ⟨#[]⟩] 41))) := Lib.hid ((Keep.refl B w).alloc hle _)
  have X0 : Hid (Blk (w.alloc (.cells #[.int .i64 0, .int .i64 0, .int .i64 0, .int .i64 0, .string ⟨#[]⟩] 41)) w.heap.size 41 #[.int .i64 0, .int .i64 0, .int .i64 0, .int .i64 0, .string ⟨#[]⟩]) := Lib.hid (Blk.new _ _ _)
  have HR := Lib.hid (read_tot _ r s D A (h.alloc (.cells #[.int .i64 0, .int .i64 0, .int .i64 0, .int .i64 0, .string ⟨#[]⟩] 41)))
  obtain ⟨y, hy⟩ : ∃ y, y = s.deny D A := ⟨_, rfl⟩
  rw [← hy] at HR h0 ⊢
  have t1 : (y != 0) = true := by simpa using h0
  clear hy h0 h
  go_enter Tryz.func52, Tryz.ntmps52
  go_wp2_with fail
  refine HR.out.mono ?_
  rintro e w2 ⟨⟨v, rfl, ho⟩, h2, k2⟩
  have R2 := Lib.hid h2
  have K2 := Lib.hid (K0.out.trans k2)
  have X2 := Lib.hid (k2.block X0.out rfl)
  obtain ⟨⟨d0, d1, d2, d3, d4⟩, e0, e1, e2, e3, e4⟩ := uber_facts X2.out
  obtain ⟨A1, c, rfl⟩ : ∃ A1 c, v = .slice A1 (rdN s D A) c := by
    rcases ho.2 with ⟨e, e2⟩ | ⟨l, cap, cur, e, _⟩
    · exact ⟨none, 0, by rw [e, e2]⟩
    · exact ⟨_, cap, e⟩
  clear ho h2 k2 K0 X0 HR
  go_wp2_with fail
  refine bodyPost_ret (results_cell2 rfl rfl (set5_load X2.out _ _ _ _ _) rfl) rfl ?_
  exact ⟨rfl, R2.out.set5 X2.out _ _ _ _ _, K2.out.set5 hle (Nat.le_trans hle K2.out.below.size) (Nat.le_refl _) _ _ _ _ _⟩
set_option maxHeartbeats 1600000 in
theorem slots_fit (w : World) (r : Nat) (s : RS) (D : Int) (h : RackAt B w r s) (h8 : ¬ 8 < s.ns) :
    Calls Tryz.prog 28 #[.pointer (some ⟨r, 0, none⟩), .int .i64 D] w fun e w' => e = .returned (.tuple #[.slice none 0 0, .int .i64 1]) ∧ RackAt B w' r s ∧ Keep B w w' := by
  have HF := Lib.hid (fits_any w r s h)
  rw [show decide (8 < s.ns) = false by simpa using h8] at HF
  have HR := Lib.hid h
  clear h h8
  go_enter Tryz.func28, Tryz.ntmps28
  go_wp2_with fail
  refine HF.out.mono ?_
  rintro e w' ⟨rfl, rfl⟩
  go_wp2_with fail
  go_ret2
  exact ⟨rfl, HR.out, Keep.refl _ _⟩
set_option maxHeartbeats 3200000 in
theorem slotsI_no (w : World) (r : Nat) (s : RS) (D : Int) (h : RackAt B w r s) (h8 : 8 < s.ns) (hy : s.deny D 0 ≠ 0) :
    Calls Tryz.prog 28 #[.pointer (some ⟨r, 0, none⟩), .int .i64 D] w fun e w' => e = .returned (.tuple #[.slice none 0 0, .int .i64 (s.deny D 0)]) ∧ RackAt B w' r s ∧ Keep B w w' := by
  have HF := Lib.hid (fits_any w r s h)
  rw [show decide (8 < s.ns) = true by simpa using h8] at HF
  have R1 := Lib.hid (h.alloc (.cells (intR 8 fun _ => 0) 3))
  have K1 := Lib.hid ((Keep.refl B w).alloc h.le (.cells (intR 8 fun _ => 0) 3))
  have HLK := Lib.hid (lookI_no _ r s D 0 R1.out hy)
  have hv := deny_vals s D 0
  obtain ⟨y, hyy⟩ : ∃ y, y = s.deny D 0 := ⟨_, rfl⟩
  rw [← hyy] at hy HLK hv ⊢
  have t0 : (y == 0) = false := by simpa using hy
  have t7 : (y == 7) = false := by simp; omega
  have hmk := make_ints8 w
  clear h h8 hv hyy hy
  go_enter Tryz.func28, Tryz.ntmps28
  go_wp2_with fail
  refine HF.out.mono ?_
  rintro e w' ⟨rfl, rfl⟩
  go_wp2_with fail
  clear hmk
  go_loopw [16] (fun x wr => x = .int .i64 0 ∧ wr = w.alloc (.cells (intR 8 fun _ => 0) 3)) (fun _ _ => 0)
  case atStart => exact ⟨rfl, rfl⟩
  case round =>
    obtain ⟨rfl, rfl⟩ := hrel
    go_wp2_with fail
    refine HLK.out.mono ?_
    rintro e w5 ⟨rfl, h5, k5⟩
    have bV : Below w5.heap.size w5 (w5.alloc (.cells #[.int .i64 0, .int .i64 0, .int .i64 0, .int .i64 0, .string ⟨#[]⟩] 41)) := (Below.refl _ _).alloc (Nat.le_refl _) _
    have R5 := Lib.hid (h5.below bV)
    have K5 := Lib.hid ((K1.out.trans k5).new bV h5.le)
    clear h5 k5 bV HLK R1 K1
    go_wp2_with fail
    go_ret2
    exact ⟨rfl, R5.out, K5.out⟩
/-- the error of 'Slots' -/
def slE (s : RS) (D : Int) : Int := if 8 < s.ns then s.deny D 0 else 1
variable {r g c : Nat} {s t : RS}
theorem lab_slots (w : World) (h : Both B w r g s t c) (hl : Laid w) (hB : 0 < B) (D : Int) :
    Calls Tryz.prog 28 #[.pointer (some ⟨r, 0, none⟩), .int .i64 D] w fun e w' => ((slE s D ≠ 0 ∧ e = .returned (.tuple #[.slice none 0 0, .int .i64 (slE s D)])) ∨ (slE s D = 0 ∧ ∃ (q d : Nat), D = (d : Int) ∧ e = .returned (.tuple #[.slice (some ⟨q, 0, none⟩) 8 8, .int .i64 0]) ∧ w.heap.size ≤ q ∧ Blk w' q 3 (intR 8 (slotI s d)))) ∧ Both B w' r g s t c ∧ KeepZ B w w' := by
  have hb : ∀ w', RackAt B w' r s → Keep B w w' → Both B w' r g s t c ∧ KeepZ B w w' := fun w' h2 h3 => ⟨⟨h2, h.ref.keepRack h3, h.sim, h.cost⟩, KeepZ.of h3⟩
  by_cases h8 : 8 < s.ns
  · have he : slE s D = s.deny D 0 := if_pos h8
    by_cases hy : s.deny D 0 = 0
    · obtain ⟨d, a, rfl, _⟩ := why_some (deny_some hy).1
      exact (slots_yes w r s d h.rack hl hB h8 hy).mono fun e w' ⟨⟨q, h1, h2, h3⟩, h4, h5⟩ => ⟨.inr ⟨he.trans hy, q, d, rfl, h1, h2, h3⟩, hb w' h4 h5⟩
    · exact (slotsI_no w r s D h.rack h8 hy).mono fun e w' ⟨h1, h4, h5⟩ => ⟨.inl ⟨by rw [he]; exact hy, by rw [he]; exact h1⟩, hb w' h4 h5⟩
  · have he : slE s D = 1 := if_neg h8
    exact (slots_fit w r s D h.rack h8).mono fun e w' ⟨h1, h4, h5⟩ => ⟨.inl ⟨by rw [he]; omega, by rw [he]; exact h1⟩, hb w' h4 h5⟩
theorem doc_slots (w : World) (h : Both B w r g s t c) (hnd : 0 < s.nd) (D : Int) :
    Calls Tryz.prog 29 #[.pointer (some ⟨g, 0, none⟩), .int .i64 D] w fun e w' => ((slE s D ≠ 0 ∧ e = .returned (.tuple #[.slice none 0 0, .int .i64 (slE s D)])) ∨ (slE s D = 0 ∧ ∃ (v : Value) (d : Nat), D = (d : Int) ∧ e = .returned (.tuple #[v, .int .i64 0]) ∧ OwnI w' w.heap.size v ((List.range 8).map (slotI s d)))) ∧ Below w.heap.size w w' := by
  have hnd2 : 0 < t.nd := by rw [h.sim.nd]; exact hnd
  by_cases h8 : 8 < s.ns
  · have he : slE s D = s.deny D 0 := if_pos h8
    have h8t : 8 < t.ns := by rw [h.sim.ns]; exact h8
    by_cases hD : s.isD D = true
    · obtain ⟨d, rfl, hd⟩ := isD_some hD
      have hdt : d < t.nd := by rw [h.sim.nd]; exact hd
      by_cases hy : s.deny (d : Int) 0 = 0
      · have hyt : t.deny (d : Int) 0 = 0 := by rw [h.sim.deny]; exact hy
        refine (dslots_yes w g t d h.ref hdt h8t hyt (fun a j hj => h.bytes d a j (by rw [h.sim.gone]; exact deny_gone (a := 0) hy) hj)).mono fun e w' ⟨⟨v, h1, h2⟩, h3⟩ => ⟨.inr ⟨he.trans hy, v, d, rfl, h1, ?_⟩, h3⟩
        have hsl : slL t d = (List.range 8).map (slotI s d) := by
          unfold slL
          exact List.map_congr_left fun a ha => slot_same h.sim hy h8 (List.mem_range.1 ha)
        rw [← hsl]
        exact h2
      · have hyt : t.deny (d : Int) 0 ≠ 0 := by rw [h.sim.deny]; exact hy
        exact (dslots_no w g t d h.ref hdt h8t hyt).mono fun e w' ⟨h1, h2⟩ => ⟨.inl ⟨by rw [he]; exact hy, by rw [he, ← h.sim.deny]; exact h1⟩, by rw [h2]; exact Below.refl _ _⟩
    · have hD2 : s.isD D = false := by simpa using hD
      have hd1 : s.deny D 0 = 1 := by
        have hp : s.isP D 0 = false := by unfold RS.isP; rw [hD2]; rfl
        have hw : s.why D 0 = 1 := by unfold RS.why; rw [hp]; rfl
        unfold RS.deny
        rw [hw, if_neg (by omega)]
      exact (dslots_bad w g t D h.ref hnd2 (.inr (by rw [h.sim.isD]; exact hD2))).mono fun e w' ⟨h1, h2⟩ => ⟨.inl ⟨by rw [he, hd1]; omega, by rw [he, hd1]; exact h1⟩, by rw [h2]; exact Below.refl _ _⟩
  · have he : slE s D = 1 := if_neg h8
    exact (dslots_bad w g t D h.ref hnd2 (.inl (by rw [h.sim.ns]; exact h8))).mono fun e w' ⟨h1, h2⟩ => ⟨.inl ⟨by rw [he]; omega, by rw [he]; exact h1⟩, by rw [h2]; exact Below.refl _ _⟩
end
end Lab
end Go.Proofs.YthioanenljpclaaGreatDoor
