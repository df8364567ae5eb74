/-
  'Solve' of the code's own field by one contract for all systems, told by determinants. No conditions beyond those that the theorem types.
-/
import Derived.Test.YtejngiialodnoaaFieldApartIns
namespace Go.Proofs.Ytejngiialodnoaa
open Go Go.RowKit
set_option maxRecDepth 100000
set_option linter.unusedVariables false
noncomputable def ansK (n m : Nat) (rl : Nat → Nat) (x : Nat → Nat → Nat) : Nat := open Classical in if IsSq n m rl ∧ M.det n x ≠ 0 then n else 0
noncomputable def ansE (n m : Nat) (rl : Nat → Nat) (x : Nat → Nat → Nat) : Int := open Classical in if IsSq n m rl then (if M.det n x ≠ 0 then 0 else 7) else 1
theorem ansK_le (n m : Nat) (rl : Nat → Nat) (x : Nat → Nat → Nat) : ansK n m rl x ≤ 8 := by
  unfold ansK
  split
  · rename_i h; exact h.1.2.1
  · omega
theorem solve_gen (g : Nat) (A A2 : Option Addr) (n c m c2 B : Nat) (ra : Nat → Option Addr) (rl rc : Nat → Nat) (x : Nat → Nat → Nat) (y : Nat → Nat) (w : World) (hB : B ≤ w.heap.size)
    (hrs : ∀ w1, Only g w w1 → RdR w1 B A n ra rl rc x) (hys : ∀ w1, Only g w w1 → RdB w1 B A2 m y) (hb : Fld w g) :
    Calls Try.prog 22 #[.pointer (some ⟨g, 0, none⟩), .slice A n c, .slice A2 m c2] w fun e w' =>
      (∃ Av g', e = .returned (.tuple #[.slice Av (ansK n m rl x) (ansK n m rl x), .int .i64 (ansE n m rl x)]) ∧ (0 < ansK n m rl x → Av = some ⟨g', 0, none⟩) ∧ w.heap.size ≤ g' ∧ (0 < ansK n m rl x → RowG w' g' (ansK n m rl x) (det.solX n x y))) ∧ Fld w' g ∧ Only g w w' := by
  have hn0 : ∀ {p : Prop}, 0 < 0 → p := fun h => absurd h (by omega)
  by_cases hq : IsSq n m rl
  · obtain ⟨hn1, hn8, rfl, hall⟩ := hq
    have hq : IsSq m m rl := ⟨hn1, hn8, rfl, hall⟩
    have hr := hrs w (Only.refl _ _)
    have hy := hys w (Only.refl _ _)
    have hxl : ∀ i, i < m → ∀ j, j < m → x i j < 256 := fun i hi j hj => by
      obtain ⟨_, _, _, _, _, h⟩ := hr i hi
      obtain ⟨_, _, _, _, _, q⟩ := h j (by rw [hall i hi]; exact hj)
      exact q
    have hyl : ∀ i, i < m → y i < 256 := fun i hi => by obtain ⟨_, _, _, _, _, q⟩ := hy i hi; exact q
    refine (solve_ok g A A2 m c c2 B B ra rl rc x y w hB hB hrs hys hq hb).mono fun e w' ⟨hs, hf, ho⟩ => ⟨?_, hf, ho⟩
    rcases hs with ⟨g', X, hg', hb', hX, hsol⟩ | ⟨z, hz, hzn, hzne, hzs⟩
    · have ht := det.tell_one hxl hyl hX hsol
      have e1 : ansK m m rl x = m := by unfold ansK; rw [if_pos ⟨hq, ht.1⟩]
      have e2 : ansE m m rl x = 0 := by unfold ansE; rw [if_pos hq, if_pos ht.1]
      rw [e1, e2]
      exact ⟨_, g', rfl, fun _ => rfl, hg', fun _ => (RowG.of_blk hb' (Nat.le_refl m)).congr fun i hi => (ht.2 i hi).symm⟩
    · have ht := det.tell_none hxl hz hzn hzne hzs
      have e1 : ansK m m rl x = 0 := by unfold ansK; rw [if_neg (fun h => h.2 ht)]
      have e2 : ansE m m rl x = 7 := by unfold ansE; rw [if_pos hq, if_neg (fun h => h ht)]
      rw [e1, e2]
      exact ⟨_, w.heap.size, rfl, hn0, Nat.le_refl _, hn0⟩
  · have e1 : ansK n m rl x = 0 := by unfold ansK; rw [if_neg (fun h => hq h.1)]
    have e2 : ansE n m rl x = 1 := by unfold ansE; rw [if_neg hq]
    rw [e1, e2]
    refine (solve_bad g A A2 n c m c2 B ra rl rc x w (hrs w (Only.refl _ _)) hq).mono fun e w' ⟨h1, h2⟩ => ?_
    subst h2
    exact ⟨⟨_, w.heap.size, h1, hn0, Nat.le_refl _, hn0⟩, hb, Only.refl _ _⟩
end Go.Proofs.Ytejngiialodnoaa
