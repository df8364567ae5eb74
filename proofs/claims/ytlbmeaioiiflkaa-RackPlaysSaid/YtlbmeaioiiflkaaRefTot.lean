/-
  Each call of a rack, and of the document's rack, by one contract for all arguments. Conditions: both are racks.
-/
import Derived.Test.YtlbmeaioiiflkaaRefBoth
namespace Go.Proofs.Ytlbmeaioiiflkaa
open Go Go.RowKit
set_option maxRecDepth 100000
set_option linter.unusedVariables false
namespace refRack
theorem new_noR (w : World) (D S : Int) (hbad : D < 1 ∨ 16 < D ∨ S < 1 ∨ 2000 < S) :
    Calls Try.prog 10 #[.int .i64 D, .int .i64 S] w fun e w' => e = .returned (.tuple #[.pointer none, .int .i64 1]) ∧ w' = w := by
  rcases (by omega : D < 1 ∨ (1 ≤ D ∧ 16 < D) ∨ (1 ≤ D ∧ D ≤ 16 ∧ S < 1) ∨ (1 ≤ D ∧ D ≤ 16 ∧ 1 ≤ S ∧ 2000 < S)) with h | ⟨h1, h2⟩ | ⟨h1, h2, h3⟩ | ⟨h1, h2, h3, h4⟩
  all_goals
    clear hbad
    go_enter Try.func10, Try.ntmps10
    go_wp2_with fail
    go_ret2
    exact ⟨rfl, rfl⟩
set_option maxHeartbeats 800000 in
theorem rot_whyR {B : Nat} (w : World) (r : Nat) (s : RS) (D A : Int) (n : Int) (h : RackAt B w r s) (hn : 0 ≤ n) (hw : s.why D A ≠ 0) :
    Calls Try.prog 33 #[.pointer (some ⟨r, 0, none⟩), .int .i64 D, .int .i64 A, .int .i64 n] w fun e w' => e = .returned (.int .i64 (s.why D A)) ∧ RackAt B w' r s ∧ Keep B w w' := by
  have H1 := Lib.hid (h.alloc (.cells #[.int .i64 D, .int .i64 A] 54))
  have K1 := Lib.hid ((Keep.refl B w).alloc h.le (.cells #[.int .i64 D, .int .i64 A] 54))
  have hz := zero_sector
  clear h
  go_enter Try.func33, Try.ntmps33
  go_wp2_with fail
  refine (reach_any _ r s D A H1.out).mono ?_
  rintro e w2 ⟨rfl, h2, k2, _, _⟩
  have H2 := Lib.hid h2
  have K2 := Lib.hid (K1.out.trans k2)
  clear h2 k2
  generalize hy : s.why D A = y at *
  have HY := Lib.hid hy
  clear hy
  have t1 : (y = 0) = False := by simp [hw]
  go_wp2_with fail
  go_ret
  rw [HY.out]
  exact ⟨rfl, H2.out, K2.out⟩
theorem rot_negR {B : Nat} (w : World) (r : Nat) (s : RS) (D A N : Int) (hN : N < 0) :
    Calls Try.prog 33 #[.pointer (some ⟨r, 0, none⟩), .int .i64 D, .int .i64 A, .int .i64 N] w fun e w' => e = .returned (.int .i64 1) ∧ w' = w := by
  go_enter Try.func33, Try.ntmps33
  go_wp2_with fail
  go_ret
  exact ⟨rfl, rfl⟩
theorem isD_some {s : RS} {D : Int} (h : s.isD D = true) : ∃ d : Nat, D = (d : Int) ∧ d < s.nd := by
  unfold RS.isD at h
  rw [Bool.and_eq_true] at h
  have h1 := of_decide_eq_true h.1
  have h2 := of_decide_eq_true h.2
  exact ⟨D.toNat, by omega, by omega⟩
theorem why_some {s : RS} {D A : Int} (h : s.why D A = 0) : ∃ d a : Nat, D = (d : Int) ∧ A = (a : Int) ∧ d < s.nd ∧ a < s.ns ∧ s.gone d = false := by
  unfold RS.why at h
  by_cases hp : s.isP D A = true
  · rw [if_pos hp] at h
    unfold RS.isP at hp
    rw [Bool.and_eq_true, Bool.and_eq_true] at hp
    obtain ⟨d, rfl, hd⟩ := isD_some hp.1
    have h1 := of_decide_eq_true hp.2.1
    have h2 := of_decide_eq_true hp.2.2
    refine ⟨d, A.toNat, rfl, by omega, hd, by omega, ?_⟩
    cases hg : s.gone d with
    | false => rfl
    | true => rw [Int.toNat_natCast, hg] at h; simp at h
  · rw [if_neg hp] at h; simp at h
def loseE (s : RS) (D : Int) : Int := if s.isD D = true then 0 else 1
def loseS (s : RS) (D : Int) : RS := if s.isD D = true then s.lost D.toNat else s
def loseT (t : RS) (D : Int) : RS := if t.isD D = true then (forgot t D.toNat).setGone D.toNat true else t
def anewS (s : RS) (D : Int) : RS := if s.isD D = true then s.anew D.toNat else s
def anewT (t : RS) (D : Int) : RS := if t.isD D = true then { (forgot t D.toNat).setGone D.toNat false with last := fun d' a' => if d' = D.toNat then zeros else t.last d' a' } else t
def rotE (s : RS) (D A n : Int) : Int := if n < 0 then 1 else s.why D A
def rotS (s : RS) (D A n : Int) : RS := if n < 0 ∨ s.why D A ≠ 0 then s else s.rotted D.toNat A.toNat n.toNat
def wrE (s : RS) (D A : Int) (m : Nat) : Int := if m = 128 then (if s.why D A = 0 then (if s.pow = true then 0 else 16) else s.why D A) else 1
def wrS (s : RS) (D A : Int) (m : Nat) (X : Nat → Nat) : RS := if m = 128 ∧ s.why D A = 0 then (if s.pow = true then s.spent.wrote D.toNat A.toNat X else s.spent) else s
section
variable {B : Nat} {w w' : World} {r g : Nat} {s t : RS}
theorem Sim.loseE (h : Sim s t) (D : Int) : loseE t D = loseE s D := by unfold refRack.loseE; rw [h.isD]
theorem Sim.loseS (h : Sim s t) (D : Int) : Sim (loseS s D) (loseT t D) := by
  unfold refRack.loseS loseT
  rw [h.isD]
  by_cases hd : s.isD D = true
  · rw [if_pos hd, if_pos hd]; exact h.lost _
  · rw [if_neg hd, if_neg hd]; exact h
theorem Sim.anewS (h : Sim s t) (D : Int) : Sim (anewS s D) (anewT t D) := by
  unfold refRack.anewS anewT
  rw [h.isD]
  by_cases hd : s.isD D = true
  · rw [if_pos hd, if_pos hd]; exact h.anew _
  · rw [if_neg hd, if_neg hd]; exact h
theorem Sim.rotE (h : Sim s t) (D A n : Int) : rotE t D A n = rotE s D A n := by unfold refRack.rotE; rw [h.why]
theorem Sim.rotS (h : Sim s t) (D A n : Int) : Sim (rotS s D A n) (rotS t D A n) := by
  unfold refRack.rotS
  rw [h.why]
  by_cases hd : n < 0 ∨ s.why D A ≠ 0
  · rw [if_pos hd, if_pos hd]; exact h
  · rw [if_neg hd, if_neg hd]
    obtain ⟨d, a, rfl, rfl, h1, h2, h3⟩ := why_some (by omega : s.why D A = 0)
    exact h.rotted _ _ _ h3
theorem Sim.wrE (h : Sim s t) (D A : Int) (m : Nat) : wrE t D A m = wrE s D A m := by unfold refRack.wrE; rw [h.why, h.pow]
theorem Sim.wrS (h : Sim s t) (D A : Int) (m : Nat) (X : Nat → Nat) : Sim (wrS s D A m X) (wrS t D A m X) := by
  unfold refRack.wrS
  rw [h.why, h.pow]
  by_cases hd : m = 128 ∧ s.why D A = 0
  · rw [if_pos hd, if_pos hd]
    by_cases hp : s.pow = true
    · rw [if_pos hp, if_pos hp]; exact h.spent.wrote _ _ _
    · rw [if_neg hp, if_neg hp]; exact h.spent
  · rw [if_neg hd, if_neg hd]; exact h
theorem loseS_cost (s : RS) (D : Int) : (loseS s D).cost = s.cost := by
  unfold refRack.loseS
  by_cases hd : s.isD D = true
  · rw [if_pos hd]; rfl
  · rw [if_neg hd]
theorem anewS_cost (s : RS) (D : Int) : (anewS s D).cost = s.cost := by
  unfold refRack.anewS
  by_cases hd : s.isD D = true
  · rw [if_pos hd]; rfl
  · rw [if_neg hd]
theorem rotS_cost (s : RS) (D A n : Int) : (rotS s D A n).cost ≤ s.cost + 1 := by
  unfold refRack.rotS
  by_cases hd : n < 0 ∨ s.why D A ≠ 0
  · rw [if_pos hd]; omega
  · rw [if_neg hd]
    cases hi : newIn s.W D.toNat A.toNat s.nw with
    | some i => rw [rotted_some hi]; exact Nat.le_refl _
    | none => rw [rotted_none hi]; exact Nat.le_refl _
theorem wrS_cost (s : RS) (D A : Int) (m : Nat) (X : Nat → Nat) : (wrS s D A m X).cost ≤ s.cost + 1 := by
  unfold refRack.wrS
  have e : s.spent.cost = s.cost := spent_costs s
  by_cases hd : m = 128 ∧ s.why D A = 0
  · rw [if_pos hd]
    by_cases hp : s.pow = true
    · rw [if_pos hp]; show s.spent.cost + 1 ≤ _; omega
    · rw [if_neg hp]; omega
  · rw [if_neg hd]; omega
theorem lose_tot (w : World) (r : Nat) (s : RS) (D : Int) (h : RackAt B w r s) :
    Calls Try.prog 7 #[.pointer (some ⟨r, 0, none⟩), .int .i64 D] w fun e w' => e = .returned (.int .i64 (loseE s D)) ∧ RackAt B w' r (loseS s D) ∧ Keep B w w' := by
  cases hd : s.isD D with
  | true =>
    obtain ⟨d, rfl, hd2⟩ := isD_some hd
    unfold refRack.loseE refRack.loseS
    rw [if_pos hd, if_pos hd, Int.toNat_natCast]
    exact lose_ok w r s d h hd2
  | false =>
    unfold refRack.loseE refRack.loseS
    rw [if_neg (by rw [hd]; decide), if_neg (by rw [hd]; decide)]
    exact (lose_no w r s D h hd).mono fun e w' ⟨h1, h2⟩ => ⟨h1, by rw [h2]; exact h, by rw [h2]; exact Keep.refl B w⟩
theorem lose_tot_k (w : World) (g : Nat) (t : RS) (D : Int) (hn : t.nw ≤ 1000000) (h : TAt B w g t) :
    Calls Try.prog 30 #[.pointer (some ⟨g, 0, none⟩), .int .i64 D] w fun e w' => e = .returned (.int .i64 (loseE t D)) ∧ TAt B w' g (loseT t D) ∧ KeepR B w w' := by
  obtain ⟨vL, vG, vW, H, C, hk⟩ := h
  cases hd : t.isD D with
  | true =>
    obtain ⟨d, rfl, hd2⟩ := isD_some hd
    unfold refRack.loseE loseT
    rw [if_pos hd, if_pos hd, Int.toNat_natCast]
    exact lose_k w g t d hn hd2 hk
  | false =>
    unfold refRack.loseE loseT
    rw [if_neg (by rw [hd]; decide), if_neg (by rw [hd]; decide)]
    exact (lose_no_k w g t D hd hk).mono fun e w' ⟨h1, h2⟩ => ⟨h1, by rw [h2]; exact ⟨vL, vG, vW, H, C, hk⟩, by rw [h2]; exact KeepR.refl B w⟩
theorem anew_tot (w : World) (r : Nat) (s : RS) (D : Int) (h : RackAt B w r s) :
    Calls Try.prog 31 #[.pointer (some ⟨r, 0, none⟩), .int .i64 D] w fun e w' => e = .returned (.int .i64 (loseE s D)) ∧ RackAt B w' r (anewS s D) ∧ Keep B w w' := by
  cases hd : s.isD D with
  | true =>
    obtain ⟨d, rfl, hd2⟩ := isD_some hd
    unfold refRack.loseE refRack.anewS
    rw [if_pos hd, if_pos hd, Int.toNat_natCast]
    exact replace_ok w r s d h hd2
  | false =>
    unfold refRack.loseE refRack.anewS
    rw [if_neg (by rw [hd]; decide), if_neg (by rw [hd]; decide)]
    exact (replace_no w r s D h hd).mono fun e w' ⟨h1, h2⟩ => ⟨h1, by rw [h2]; exact h, by rw [h2]; exact Keep.refl B w⟩
theorem anew_tot_k (w : World) (g : Nat) (t : RS) (D : Int) (hn : t.nw ≤ 1000000) (hns0 : 0 < t.ns) (hns : t.ns ≤ 2000) (h : TAt B w g t) :
    Calls Try.prog 32 #[.pointer (some ⟨g, 0, none⟩), .int .i64 D] w fun e w' => e = .returned (.int .i64 (loseE t D)) ∧ TAt B w' g (anewT t D) ∧ KeepR B w w' := by
  obtain ⟨vL, vG, vW, H, C, hk⟩ := h
  cases hd : t.isD D with
  | true =>
    obtain ⟨d, rfl, hd2⟩ := isD_some hd
    unfold refRack.loseE anewT
    rw [if_pos hd, if_pos hd, Int.toNat_natCast]
    exact replace_k w g t d hn hd2 hns0 hns hk
  | false =>
    unfold refRack.loseE anewT
    rw [if_neg (by rw [hd]; decide), if_neg (by rw [hd]; decide)]
    exact (replace_no_k w g t D hd hk).mono fun e w' ⟨h1, h2⟩ => ⟨h1, by rw [h2]; exact ⟨vL, vG, vW, H, C, hk⟩, by rw [h2]; exact KeepR.refl B w⟩
theorem rot_tot (w : World) (r : Nat) (s : RS) (D A n : Int) (hn : n ≤ 9223372036854775807) (hcost : s.cost + 1 ≤ 1000000) (h : RackAt B w r s) :
    Calls Try.prog 33 #[.pointer (some ⟨r, 0, none⟩), .int .i64 D, .int .i64 A, .int .i64 n] w fun e w' => e = .returned (.int .i64 (rotE s D A n)) ∧ RackAt B w' r (rotS s D A n) ∧ Keep B w w' := by
  unfold refRack.rotE refRack.rotS
  by_cases h0 : n < 0
  · rw [if_pos h0, if_pos (.inl h0)]
    exact (rot_negR (B := B) w r s D A n h0).mono fun e w' ⟨h1, h2⟩ => ⟨h1, by rw [h2]; exact h, by rw [h2]; exact Keep.refl B w⟩
  · rw [if_neg h0]
    by_cases h1 : s.why D A = 0
    · rw [if_neg (by omega)]
      rw [h1]
      obtain ⟨d, a, rfl, rfl, h2, h3, h4⟩ := why_some h1
      obtain ⟨m, rfl⟩ : ∃ m : Nat, n = (m : Int) := ⟨n.toNat, by omega⟩
      rw [Int.toNat_natCast, Int.toNat_natCast, Int.toNat_natCast]
      exact rot_ok w r s d a m h h2 h3 h4 (by omega) hcost
    · rw [if_pos (.inr h1)]
      exact rot_whyR w r s D A n h (by omega) h1
theorem rot_tot_k (w : World) (g : Nat) (t : RS) (D A n : Int) (hn : n ≤ 9223372036854775807) (hX : ∀ d a j, t.gone d = false → j < 128 → t.holds d a j < 256) (h : TAt B w g t) :
    Calls Try.prog 34 #[.pointer (some ⟨g, 0, none⟩), .int .i64 D, .int .i64 A, .int .i64 n] w fun e w' => e = .returned (.int .i64 (rotE t D A n)) ∧ TAt B w' g (rotS t D A n) ∧ KeepR B w w' := by
  obtain ⟨vL, vG, vW, H, C, hk⟩ := h
  unfold refRack.rotE refRack.rotS
  by_cases h0 : n < 0
  · rw [if_pos h0, if_pos (.inl h0)]
    exact (rot_neg_k w g t D A n h0 hk).mono fun e w' ⟨h1, h2⟩ => ⟨h1, by rw [h2]; exact ⟨vL, vG, vW, H, C, hk⟩, by rw [h2]; exact KeepR.refl B w⟩
  · rw [if_neg h0]
    by_cases h1 : t.why D A = 0
    · rw [if_neg (by omega)]
      rw [h1]
      obtain ⟨d, a, rfl, rfl, h2, h3, h4⟩ := why_some h1
      obtain ⟨m, rfl⟩ : ∃ m : Nat, n = (m : Int) := ⟨n.toNat, by omega⟩
      rw [Int.toNat_natCast, Int.toNat_natCast, Int.toNat_natCast]
      exact rot_k w g t d a m h2 h3 h4 (by omega) (fun j hj => hX d a j h4 hj) hk
    · rw [if_pos (.inr h1)]
      exact (rot_why_k w g t D A n (by omega) h1 hk).mono fun e w' ⟨h1, h2⟩ => ⟨h1, by rw [h2]; exact ⟨vL, vG, vW, H, C, hk⟩, by rw [h2]; exact KeepR.refl B w⟩
theorem wr_tot (w : World) (r : Nat) (s : RS) (D A : Int) (gb m c : Nat) (X : Nat → Nat) (hb : Blk w gb 5 (rowArr m X)) (hX : ∀ j, j < 128 → X j < 256) (hcost : s.cost + 1 ≤ 1000000) (h : RackAt B w r s) :
    Calls Try.prog 17 #[.pointer (some ⟨r, 0, none⟩), .int .i64 D, .int .i64 A, .slice (some ⟨gb, 0, none⟩) m c] w fun e w' => e = .returned (.int .i64 (wrE s D A m)) ∧ RackAt B w' r (wrS s D A m X) ∧ Keep B w w' := by
  unfold refRack.wrE refRack.wrS
  by_cases hm : m = 128
  · subst hm
    rw [if_pos rfl]
    by_cases h1 : s.why D A = 0
    · rw [if_pos h1, if_pos (show 128 = 128 ∧ s.why D A = 0 from ⟨rfl, h1⟩)]
      obtain ⟨d, a, rfl, rfl, h2, h3, h4⟩ := why_some h1
      rw [Int.toNat_natCast, Int.toNat_natCast]
      exact write_go w r s _ _ d a gb 0 c X 5 _ h h2 h3 h4 hb rfl (fun j hj => ⟨by rw [Nat.zero_add]; exact rowArr_get hj, hX j hj⟩) hcost rfl rfl
    · rw [if_neg h1, if_neg (show ¬(128 = 128 ∧ s.why D A = 0) from fun q => h1 q.2)]
      exact write_why w r s D A _ c h h1
  · rw [if_neg hm, if_neg (show ¬(m = 128 ∧ s.why D A = 0) from fun q => hm q.1)]
    exact (write_size w r s D A _ m c h hm).mono fun e w' ⟨h1, h2⟩ => ⟨h1, by rw [h2]; exact h, by rw [h2]; exact Keep.refl B w⟩
theorem wr_tot_k (w : World) (g : Nat) (t : RS) (D A : Int) (m : Nat) (X : Nat → Nat) (hl : t.left ≤ 9223372036854775807) (hn : t.nw + 1 ≤ 2000000) (h : TAt B w g t) :
    Calls Try.prog 26 #[.pointer (some ⟨g, 0, none⟩), .int .i64 D, .int .i64 A, .string (strB m X)] w fun e w' => e = .returned (.int .i64 (wrE t D A m)) ∧ TAt B w' g (wrS t D A m X) ∧ KeepR B w w' := by
  obtain ⟨vL, vG, vW, H, C, hk⟩ := h
  unfold refRack.wrE refRack.wrS
  by_cases hm : m = 128
  · subst hm
    rw [if_pos rfl]
    by_cases h1 : t.why D A = 0
    · rw [if_pos h1, if_pos (show 128 = 128 ∧ t.why D A = 0 from ⟨rfl, h1⟩)]
      obtain ⟨d, a, rfl, rfl, h2, h3, h4⟩ := why_some h1
      rw [Int.toNat_natCast, Int.toNat_natCast]
      exact write_go_k w g t d a X hl h2 h3 h4 hn hk
    · rw [if_neg h1, if_neg (show ¬(128 = 128 ∧ t.why D A = 0) from fun q => h1 q.2)]
      exact (write_why_k w g t D A _ (strB_sizeR 128 X) h1 hk).mono fun e w' ⟨h1, h2⟩ => ⟨h1, by rw [h2]; exact ⟨vL, vG, vW, H, C, hk⟩, by rw [h2]; exact KeepR.refl B w⟩
  · rw [if_neg hm, if_neg (show ¬(m = 128 ∧ t.why D A = 0) from fun q => hm q.1)]
    exact (write_size_k w g t D A _ (by rw [strB_sizeR]; exact hm) hk).mono fun e w' ⟨h1, h2⟩ => ⟨h1, by rw [h2]; exact ⟨vL, vG, vW, H, C, hk⟩, by rw [h2]; exact KeepR.refl B w⟩
/-- what a read answers: the bytes, or none -/
def rdN (s : RS) (D A : Int) : Nat := if s.deny D A = 0 then 128 else 0
theorem deny_some {s : RS} {D A : Int} (h : s.deny D A = 0) : s.why D A = 0 ∧ s.off = false := by
  unfold RS.deny at h
  by_cases h1 : s.why D A = 0
  · rw [if_pos h1] at h
    refine ⟨h1, ?_⟩
    cases ho : s.off with
    | false => rfl
    | true => rw [ho] at h; simp at h
  · rw [if_neg h1] at h; exact absurd h h1
theorem strB_zero (X : Nat → Nat) : strB 0 X = ⟨#[]⟩ := rfl
theorem read_tot (w : World) (r : Nat) (s : RS) (D A : Int) (h : RackAt B w r s) :
    Calls Try.prog 19 #[.pointer (some ⟨r, 0, none⟩), .int .i64 D, .int .i64 A] w fun e w' => (∃ v, e = .returned (.tuple #[v, .int .i64 (s.deny D A)]) ∧ w'.ownsRow w.heap.size 5 1 v (rdN s D A) (rowL (rdN s D A) (s.holds D.toNat A.toNat))) ∧ RackAt B w' r s ∧ Keep B w w' := by
  unfold rdN
  by_cases h1 : s.deny D A = 0
  · rw [if_pos h1, h1]
    obtain ⟨h2, h3⟩ := deny_some h1
    obtain ⟨d, a, rfl, rfl, h4, h5, h6⟩ := why_some h2
    rw [Int.toNat_natCast, Int.toNat_natCast]
    exact read_ok w r s d a h h4 h5 h6 h3
  · rw [if_neg h1]
    exact (read_no w r s D A h h1).mono fun e w' ⟨h2, h3, h4⟩ => ⟨⟨_, h2, rfl, .inl ⟨rfl, rfl⟩⟩, h3, h4⟩
theorem read_tot_k (w : World) (g : Nat) (t : RS) (D A : Int) (h : TAt B w g t) :
    Calls Try.prog 25 #[.pointer (some ⟨g, 0, none⟩), .int .i64 D, .int .i64 A] w fun e w' => e = .returned (.tuple #[.string (strB (rdN t D A) (t.holds D.toNat A.toNat)), .int .i64 (t.deny D A)]) ∧ w' = w := by
  obtain ⟨vL, vG, vW, H, C, hk⟩ := h
  unfold rdN
  by_cases h1 : t.deny D A = 0
  · rw [if_pos h1, h1]
    obtain ⟨h2, h3⟩ := deny_some h1
    obtain ⟨d, a, rfl, rfl, h4, h5, h6⟩ := why_some h2
    rw [Int.toNat_natCast, Int.toNat_natCast]
    exact read_ok_k w g t d a h4 h5 h6 h3 hk
  · rw [if_neg h1]
    exact read_no_k w g t D A h1 hk
theorem Sim.rdN (h : Sim s t) (D A : Int) : rdN t D A = rdN s D A := by unfold refRack.rdN; rw [h.deny]
theorem Sim.said (h : Sim s t) (D A : Int) : strB (refRack.rdN t D A) (t.holds D.toNat A.toNat) = strB (refRack.rdN s D A) (s.holds D.toNat A.toNat) := by
  rw [h.rdN]
  unfold refRack.rdN
  by_cases h1 : s.deny D A = 0
  · obtain ⟨d, a, rfl, rfl, h4, h5, h6⟩ := why_some (deny_some h1).1
    rw [Int.toNat_natCast, Int.toNat_natCast, h.holds h6]
  · rw [if_neg h1]; rfl
/-- the document's rack, told from lower down -/
theorem TAt.base {B' : Nat} (h : TAt B w g t) (hb : B' ≤ B) : TAt B' w g t := by
  obtain ⟨vL, vG, vW, H, C, h⟩ := h
  exact ⟨vL, vG, vW, H, C, h.blk, Nat.le_trans hb h.hg, own_base h.heads hb, fun d hd => own_base (h.rows d hd) hb, h.apart, own_base h.lost hb, own_base h.waits hb⟩
theorem TAt.keepRack {B' : Nat} (h : TAt B w g t) (k : Keep B' w w') : TAt B w' g t := by
  obtain ⟨vL, vG, vW, H, C, h⟩ := h
  exact ⟨vL, vG, vW, H, C, h.keepRack k⟩
theorem TAt.keep (h : TAt B w g t) (hk : ∀ k, B ≤ k → k < w.heap.size → w'.heap[k]? = w.heap[k]?) : TAt B w' g t := by
  obtain ⟨vL, vG, vW, H, C, h⟩ := h
  exact ⟨vL, vG, vW, H, C, h.keep hk⟩
end
end refRack
end Go.Proofs.Ytlbmeaioiiflkaa
