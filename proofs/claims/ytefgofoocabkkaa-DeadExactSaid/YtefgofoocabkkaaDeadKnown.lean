/-
  The law's 'known': true. No conditions.
-/
import Derived.Test.YtefgofoocabkkaaDeadDestroy
import Derived.Test.YtefgofoocabkkaaDeadKill
import Derived.Test.YtefgofoocabkkaaDeadSameM
namespace Go.Proofs.Ytefgofoocabkkaa
open Go Go.RowKit
set_option maxRecDepth 100000
set_option linter.unusedVariables false
namespace Dd
def kp : Pt := ⟨5, 0, 1, ⟨#[]⟩⟩
def kq : Pt := ⟨0, 0, 3, ⟨#[]⟩⟩
def k1 : Ln := ⟨0, [⟨2, []⟩], []⟩
def k2 : Ln := ⟨0, [⟨2, []⟩], [kp]⟩
def k3 : Ln := ⟨0, [], []⟩
theorem fit0 : Fit lnZero := ⟨by decide, by decide, fun s h => by simp [lnZero] at h, ⟨by decide, by decide⟩, fun s h => by simp [lnZero] at h, fun s h => by simp [lnZero] at h, fun s h => by simp [lnZero] at h⟩
theorem fit1 : Fit k1 := ⟨by decide, by decide, fun s h => by simp [k1] at h; subst h; decide, ⟨by decide, by decide⟩, fun s h => by simp [k1] at h; subst h; exact ⟨by decide, by decide⟩, fun s h => by simp [k1] at h, fun s h p hp => by simp [k1] at h; subst h; simp at hp⟩
theorem fit2 : Fit k2 := ⟨by decide, by decide, fun s h => by simp [k2] at h; subst h; decide, ⟨by decide, by decide⟩, fun s h => by simp [k2] at h; subst h; exact ⟨by decide, by decide⟩, fun s h => by simp [k2] at h; subst h; exact ⟨by decide, by decide⟩, fun s h p hp => by simp [k2] at h; subst h; simp at hp⟩
theorem small2 : Small k2 := ⟨by decide, by decide, fun s h => by simp [k2] at h; subst h; decide⟩
theorem e1 : snapS lnZero 2 = (k1, 0) := rfl
theorem e2 : killS k1 kp = (k2, false, 0) := rfl
theorem e3 : desS k2 0 = (k3, [kp], 0) := rfl
theorem e4 : killS k1 kq = (k1, true, 0) := rfl
set_option maxHeartbeats 6400000 in
theorem known_at (w : World) : Calls Try.prog 4 #[] w fun e w' => e = .returned (.bool true) ∧ Below w.heap.size w w' := by
  have H1 : Hid (Calls Try.prog 7 #[.agg #[.int .i64 0, .slice none 0 0, .slice none 0 0], .int .i64 2] w fun e w' => SnapPost 51 w (k1, 0) e w') := Lib.hid (by
    have h := snapshot_at w lnZero 2 none none 0 0 fit0 (fun i s h => by simp [lnZero] at h) (fun _ => rfl) (fun i s h => by simp [lnZero] at h) (fun _ => rfl)
    rw [e1] at h
    exact h)
  go_enter Try.func4, Try.ntmps4
  go_wp2_with fail
  refine H1.out.mono ?_
  rintro e W1 ⟨v1, rfl, ⟨A1, c1, A2, c2, vs1, rfl, hO1⟩, b1⟩
  have hv : (Value.agg #[.int .i64 k1.base, .slice A1 k1.snaps.length c1, .slice A2 k1.dead.length c2]) = .agg #[.int .i64 0, .slice A1 1 c1, .slice A2 0 c2] := rfl
  rw [hv]
  clear hv
  have HO1 := Lib.hid hO1
  have L1 := Lib.hid b1
  clear b1 hO1 H1
  -- the line and the block, in memory
  obtain ⟨W2, hW2⟩ : ∃ W2, W2 = W1.alloc (.cells #[.int .i64 0, .slice A1 1 c1, .slice A2 0 c2] 28) := ⟨_, rfl⟩
  obtain ⟨W3, hW3⟩ : ∃ W3, W3 = W2.alloc (.cells #[.int .i64 5, .int .i64 0, .int .i64 1, .string ⟨#[]⟩] 36) := ⟨_, rfl⟩
  obtain ⟨g1, hg1⟩ : ∃ g1, g1 = W1.heap.size := ⟨_, rfl⟩
  obtain ⟨g3, hg3⟩ : ∃ g3, g3 = g1 + 1 := ⟨_, rfl⟩
  have hs2 : W2.heap.size = g3 := by rw [hW2, hg3, hg1]; simp
  have hb12 : Below W1.heap.size W1 W2 := by rw [hW2]; exact (Below.refl _ _).alloc (Nat.le_refl _) _
  have hb13 : Below W1.heap.size W1 W3 := by rw [hW3]; exact hb12.alloc hb12.size _
  have X1 : Blk W3 g1 28 #[.int .i64 0, .slice A1 1 c1, .slice A2 0 c2] := by rw [hW3, hW2, hg1]; exact (Blk.new _ _ _).alloc _
  have X3 : Blk W3 g3 36 #[.int .i64 5, .int .i64 0, .int .i64 1, .string ⟨#[]⟩] := by rw [hW3, ← hs2]; exact Blk.new _ _ _
  have hO3 := HO1.out.below hb13 (Nat.le_refl _)
  have H2 : Hid (∀ W', Below W3.heap.size W3 W' → Calls Try.prog 5 #[.agg #[.int .i64 0, .slice A1 1 c1, .slice A2 0 c2], .agg #[.int .i64 5, .int .i64 0, .int .i64 1, .string ⟨#[]⟩]] W' fun e w' => KillPost 51 W' (k2, false, 0) e w') := Lib.hid fun W' hb => by
    have hO := hO3.below hb (Nat.le_refl _)
    have h := kill_at W' k1 kp A1 A2 c1 c2 fit1 hO.rs.1 hO.rs.2 hO.rd.1 hO.rd.2
    rw [e2] at h
    exact h
  have H4 : Hid (∀ W', Below W3.heap.size W3 W' → Calls Try.prog 5 #[.agg #[.int .i64 0, .slice A1 1 c1, .slice A2 0 c2], .agg #[.int .i64 0, .int .i64 0, .int .i64 3, .string ⟨#[]⟩]] W' fun e w' => KillPost 51 W' (k1, true, 0) e w') := Lib.hid fun W' hb => by
    have hO := hO3.below hb (Nat.le_refl _)
    have h := kill_at W' k1 kq A1 A2 c1 c2 fit1 hO.rs.1 hO.rs.2 hO.rd.1 hO.rd.2
    rw [e4] at h
    exact h
  have HX := Lib.hid (⟨X1, X3⟩ : _ ∧ _)
  have L3 := Lib.hid (L1.out.trans (hb13.mono L1.out.size))
  have HW2 := Lib.hid (⟨hW2, hW3, hg1, hg3⟩ : _ ∧ _ ∧ _ ∧ _)
  have q0 : W3.cell? ⟨g1, 0, none⟩ = some (.int .i64 0) := HX.out.1.cell 0
  have q1 : W3.cell? ⟨g1, 1, none⟩ = some (.slice A1 1 c1) := HX.out.1.cell 1
  have q2 : W3.cell? ⟨g1, 2, none⟩ = some (.slice A2 0 c2) := HX.out.1.cell 2
  have r0 : W3.cell? ⟨g3, 0, none⟩ = some (.int .i64 5) := HX.out.2.cell 0
  have r1 : W3.cell? ⟨g3, 1, none⟩ = some (.int .i64 0) := HX.out.2.cell 1
  have r2 : W3.cell? ⟨g3, 2, none⟩ = some (.int .i64 1) := HX.out.2.cell 2
  have r3 : W3.cell? ⟨g3, 3, none⟩ = some (.string ⟨#[]⟩) := HX.out.2.cell 3
  clear hW2 hW3 hg1 hg3 hs2 hb12 hb13 X1 X3 hO3 HO1 L1
  go_upto_region 3 with (fail)
  rw [← HW2.out.1, ← HW2.out.2.1, ← HW2.out.2.2.1, ← HW2.out.2.2.2]
  go_wp2_with fail
  refine (H2.out W3 (Below.refl _ _)).mono ?_
  rintro e W4 ⟨v2, rfl, ⟨A3, c3, A4, c4, vs2, rfl, hO2⟩, b4⟩
  have hv : (Value.agg #[.int .i64 k2.base, .slice A3 k2.snaps.length c3, .slice A4 k2.dead.length c4]) = .agg #[.int .i64 0, .slice A3 1 c3, .slice A4 1 c4] := rfl
  rw [hv]
  clear hv
  obtain ⟨W5, hW5⟩ : ∃ W5, W5 = W4.alloc (.cells #[.int .i64 0, .slice A3 1 c3, .slice A4 1 c4] 28) := ⟨_, rfl⟩
  obtain ⟨g4, hg4⟩ : ∃ g4, g4 = W4.heap.size := ⟨_, rfl⟩
  have hb45 : Below W4.heap.size W4 W5 := by rw [hW5]; exact (Below.refl _ _).alloc (Nat.le_refl _) _
  have b35 : Below W3.heap.size W3 W5 := b4.trans (hb45.mono b4.size)
  have X4 : Blk W5 g4 28 #[.int .i64 0, .slice A3 1 c3, .slice A4 1 c4] := by rw [hW5, hg4]; exact Blk.new _ _ _
  have hO5 := hO2.below hb45 (Nat.le_refl _)
  have H3 : Hid (Calls Try.prog 8 #[.agg #[.int .i64 0, .slice A3 1 c3, .slice A4 1 c4], .int .i64 0] W5 fun e w' => DesPost 51 W5 (k3, [kp], 0) e w') := Lib.hid (by
    have h := destroy_at W5 k2 0 A3 A4 c3 c4 fit2 small2 hO5.rs.1 hO5.rs.2 hO5.rd.1 hO5.rd.2
    rw [e3] at h
    exact h)
  have HX5 := Lib.hid (⟨HX.out.1.below b35 HX.out.1.lt, HX.out.2.below b35 HX.out.2.lt⟩ : _ ∧ _)
  have HB35 := Lib.hid b35
  have L5 := Lib.hid (L3.out.trans (b35.mono L3.out.size))
  have HW5 := Lib.hid (⟨hW5, hg4⟩ : _ ∧ _)
  have y0 : W5.cell? ⟨g4, 0, none⟩ = some (.int .i64 0) := X4.cell 0
  have y1 : W5.cell? ⟨g4, 1, none⟩ = some (.slice A3 1 c3) := X4.cell 1
  have y2 : W5.cell? ⟨g4, 2, none⟩ = some (.slice A4 1 c4) := X4.cell 2
  clear hW5 hg4 hb45 b35 X4 hO5 hO2 b4 q0 q1 q2 r0 r1 r2 r3 H2
  go_upto_region 4 with (fail)
  rw [← HW5.out.1, ← HW5.out.2]
  go_wp2_with fail
  refine H3.out.mono ?_
  rintro e W6 ⟨v3, f3, rfl, ⟨A5, c5, A6, c6, vs3, rfl, hO6⟩, of3, b6⟩
  have hv : (Value.agg #[.int .i64 k3.base, .slice A5 k3.snaps.length c5, .slice A6 k3.dead.length c6]) = .agg #[.int .i64 0, .slice A5 0 c5, .slice A6 0 c6] := rfl
  rw [hv]
  clear hv
  obtain ⟨A7, c7, hf3, rf7, _, _, nf7, _⟩ := of3.shape (fun _ => rfl)
  have hf4 : f3 = .slice A7 1 c7 := hf3
  clear hf3
  subst hf4
  obtain ⟨W7, hW7⟩ : ∃ W7, W7 = W6.alloc (.cells #[.int .i64 0, .slice A5 0 c5, .slice A6 0 c6] 28) := ⟨_, rfl⟩
  have hb67 : Below W6.heap.size W6 W7 := by rw [hW7]; exact (Below.refl _ _).alloc (Nat.le_refl _) _
  have b57 : Below W5.heap.size W5 W7 := b6.trans (hb67.mono b6.size)
  have HX7 := Lib.hid (⟨HX5.out.1.below b57 HX5.out.1.lt, HX5.out.2.below b57 HX5.out.2.lt⟩ : _ ∧ _)
  have L7 := Lib.hid (L5.out.trans (b57.mono L5.out.size))
  have HR7 := Lib.hid (rf7.below hb67)
  have H4b := Lib.hid (H4.out W7 (HB35.out.trans (b57.mono HB35.out.size)))
  have HW7 := Lib.hid hW7
  have q0 : W7.cell? ⟨g1, 0, none⟩ = some (.int .i64 0) := HX7.out.1.cell 0
  have q1 : W7.cell? ⟨g1, 1, none⟩ = some (.slice A1 1 c1) := HX7.out.1.cell 1
  have q2 : W7.cell? ⟨g1, 2, none⟩ = some (.slice A2 0 c2) := HX7.out.1.cell 2
  clear hW7 hb67 b57 rf7 nf7 hO6 of3 b6 y0 y1 y2 H3 H4 HX5 L5
  go_upto_region 5 with (fail)
  rw [← HW7.out]
  go_wp2_with fail
  refine H4b.out.mono ?_
  rintro e W8 ⟨v4, rfl, ⟨A8, c8, A9, c9, vs4, rfl, hO8⟩, b8⟩
  have hv : (Value.agg #[.int .i64 k1.base, .slice A8 k1.snaps.length c8, .slice A9 k1.dead.length c9]) = .agg #[.int .i64 0, .slice A8 1 c8, .slice A9 0 c9] := rfl
  rw [hv]
  clear hv
  obtain ⟨W9, hW9⟩ : ∃ W9, W9 = W8.alloc (.cells #[.int .i64 0, .slice A8 1 c8, .slice A9 0 c9] 28) := ⟨_, rfl⟩
  have hb89 : Below W8.heap.size W8 W9 := by rw [hW9]; exact (Below.refl _ _).alloc (Nat.le_refl _) _
  have b79 : Below W7.heap.size W7 W9 := b8.trans (hb89.mono b8.size)
  have X9 := HX7.out.2.below b79 HX7.out.2.lt
  have L9 := L7.out.trans (b79.mono L7.out.size)
  have R9 := HR7.out.below b79
  obtain ⟨W10, hW10⟩ : ∃ W10, W10 = W9.alloc (.cells #[.int .i64 5, .int .i64 0, .int .i64 1, .string ⟨#[]⟩] 36) := ⟨_, rfl⟩
  have hb910 : Below W9.heap.size W9 W10 := by rw [hW10]; exact (Below.refl _ _).alloc (Nat.le_refl _) _
  have HSA : Hid (Calls Try.prog 11 #[.slice A7 1 c7, .slice (some ⟨W9.heap.size, 0, none⟩) 1 1] W10 fun e w' => e = .returned (.bool true) ∧ Below W10.heap.size W10 w') := Lib.hid (same_at W10 [kp] A7 (some ⟨W9.heap.size, 0, none⟩) c7 1 1 rfl (by unfold big; omega) (R9.below hb910) (by rw [hW10]; exact rd_one W9 kp))
  have L10 := Lib.hid (L9.trans (hb910.mono L9.size))
  have z0 : W9.cell? ⟨g3, 0, none⟩ = some (.int .i64 5) := X9.cell 0
  have z1 : W9.cell? ⟨g3, 1, none⟩ = some (.int .i64 0) := X9.cell 1
  have z2 : W9.cell? ⟨g3, 2, none⟩ = some (.int .i64 1) := X9.cell 2
  have z3 : W9.cell? ⟨g3, 3, none⟩ = some (.string ⟨#[]⟩) := X9.cell 3
  have HW9 := Lib.hid (⟨hW9, hW10⟩ : _ ∧ _)
  clear hW9 hb89 b79 X9 L9 R9 hW10 hb910 hO8 b8 q0 q1 q2 H4b
  go_upto_region 6 with (fail)
  rw [← HW9.out.1]
  go_wp2_with fail
  have h10 := HW9.out.2
  rw [← h10]
  refine HSA.out.mono ?_
  rintro e W11 ⟨rfl, b11⟩
  have L11 := Lib.hid (L10.out.trans (b11.mono L10.out.size))
  clear b11 h10
  go_wp2_with fail
  go_ret
  exact ⟨rfl, L11.out⟩
end Dd
end Go.Proofs.Ytefgofoocabkkaa
