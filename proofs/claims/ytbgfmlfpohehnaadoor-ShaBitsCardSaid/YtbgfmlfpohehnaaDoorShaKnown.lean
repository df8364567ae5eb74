/-
  'hoardlaw04.known' answers true. Condition: the table of roots reads as it was laid.
-/
import Derived.Test.YtbgfmlfpohehnaaDoorShaLaid
import Derived.Lib.SlBytesConst
namespace Go.Proofs.YtbgfmlfpohehnaaDoor
open Go Go.RowKit
set_option linter.unusedVariables false

def abcS : ByteArray := { data := #[98, 97, 55, 56, 49, 54, 98, 102, 56, 102, 48, 49, 99, 102, 101, 97, 52, 49, 52, 49, 52, 48, 100, 101, 53, 100, 97, 101, 50, 50, 50, 51, 98, 48, 48, 51, 54, 49, 97, 51, 57, 54, 49, 55, 55, 97, 57, 99, 98, 52, 49, 48, 102, 102, 54, 49, 102, 50, 48, 48, 49, 53, 97, 100] }
theorem abc_told : strB 64 (hexB (M.sum 3 M.abc)) = abcS := by
  have h1 : ∀ j, j < 32 → M.sum 3 M.abc j = M.abcDigits.getD j 0 := fun j hj => by
    rw [← M.abc_sum, List.getD_eq_getElem?_getD]
    simp [hj]
  have h2 : strB 64 (hexB (M.sum 3 M.abc)) = strB 64 (hexB fun j => M.abcDigits.getD j 0) := strB_congr fun j hj => by
    unfold hexB
    rw [h1 (j / 2) (by omega)]
  exact h2.trans (by kernel_rfl)
theorem abc_lt (j : Nat) : M.abc j < 256 := by unfold M.abc; split <;> omega
theorem abc_cells : (#[.int .u8 97, .int .u8 98, .int .u8 99] : Array Value) = rowArr 3 M.abc := by kernel_rfl

set_option maxRecDepth 100000 in
set_option maxHeartbeats 800000 in
theorem known_any (w : World) (hl : Laid w) : Calls Tryd.prog 9 #[] w fun e w' => e = .returned (.bool true) ∧ Below w.heap.size w w' := by
  have HL := Lib.hid hl
  have hpos := hl.pos
  have kc := fun (w : World) (C : Array Value) (n c : Nat) => Lib.run_convert_bytes_const (P := Tryd.prog) w 22 5 C n c Tryd.underlying22 Tryd.underlying5
  have L0 : Hid (Below w.heap.size w (w.alloc (.cells #[.int .u8 97, .int .u8 98, .int .u8 99] 5 (3, 4)))) := Lib.hid ((Below.refl _ _).alloc (Nat.le_refl _) _)
  have B0 : Hid (RdB (w.alloc (.cells #[.int .u8 97, .int .u8 98, .int .u8 99] 5 (3, 4))) (w.heap.size + 1) (some ⟨w.heap.size, 0, none⟩) 3 M.abc) := Lib.hid (fun j hj => ⟨w.heap.size, 0, rfl, by omega, by
    rw [Nat.zero_add, cell_of_row _ _ _ _ _ _ (heap_alloc_new w _), abc_cells]
    exact rowArr_get hj, abc_lt j⟩)
  clear hl
  go_enter Tryd.func9, Tryd.ntmps9
  go_wp2_with fail
  refine (sum_any _ 3 3 (w.heap.size + 1) M.abc _ B0.out abc_lt (by simp) (Nat.le_refl _) (by unfold maxLen; omega) (by omega) (HL.out.below L0.out hpos)).mono ?_
  rintro e w1 ⟨rfl, hl1⟩
  have L1 : Hid (Below w.heap.size w w1) := Lib.hid (L0.out.trans (hl1.mono (by simp)))
  clear hl1 L0 B0
  go_wp2_with fail
  refine (digits_any (M.sum 3 M.abc) w1 (fun j => M.sum_lt 3 M.abc j)).mono ?_
  rintro e w2 ⟨rfl, hl2⟩
  have L2 := Lib.hid (L1.out.trans (hl2.mono L1.out.size))
  clear hl2 L1
  go_wp2_with fail
  go_ret
  refine ⟨?_, L2.out⟩
  show Ending.returned (Value.bool _) = _
  rw [abc_told]
  kernel_rfl
end Go.Proofs.YtbgfmlfpohehnaaDoor
