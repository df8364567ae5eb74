/-
  'New' of a space with no used ranges, and 'Used', 'Ranges', by contracts.
-/
import Derived.Test.YtpbojhjbjnoihaaSpcBlank
namespace Go.Proofs.Ytpbojhjbjnoihaa
open Go Go.RowKit
set_option maxRecDepth 100000
set_option linter.unusedVariables false
namespace Sp
set_option maxHeartbeats 1600000 in
theorem new_nil (w : World) (C : Nat) (h1 : 1 ≤ C) (h2 : C ≤ 40000) :
    Calls Try.prog 13 #[.int .i64 (C : Int), .slice none 0 0] w fun er w' => ∃ b m F V, er = .returned (.tuple #[.pointer (some ⟨b, 0, none⟩), .int .i64 0]) ∧ Spc w' w.heap.size b m 1 F V (allFree C) ∧ Below w.heap.size w w' := by
  have HB := Lib.hid (blank_yes w C h1 h2)
  clear h1 h2
  go_enter Try.func13, Try.ntmps13
  go_wp2_with fail
  refine HB.out.mono ?_
  rintro e w2 ⟨b, m, F, V, rfl, hsp⟩
  have HSP := Lib.hid hsp
  clear hsp
  go_wp2_with fail
  go_loopw [22] (fun y wr => y = .int .i64 0 ∧ wr = w2) (fun _ _ => 0)
  case atStart => exact ⟨rfl, rfl⟩
  case round =>
    obtain ⟨rfl, hw⟩ := hrel
    rw [hw]
    clear hw
    go_wp2_with fail
    go_loopw [45] (fun y wr => y = .int .i64 0 ∧ wr = w2) (fun _ _ => 0)
    case atStart => exact ⟨rfl, rfl⟩
    case round =>
      obtain ⟨rfl, hw⟩ := hrel
      rw [hw]
      clear hw
      go_wp2_with fail
      go_ret2
      exact ⟨b, m, F, V, rfl, HSP.out⟩
set_option maxHeartbeats 1600000 in
theorem used_rg {w : World} {base b m n : Nat} {F : Nat → Option Value} {V : Nat → Value} {s : SS} (h : Spc w base b m n F V s) (hbs : base ≤ w.heap.size) :
    Calls Try.prog 39 #[.pointer (some ⟨b, 0, none⟩)] w fun er w' => ∃ v', er = .returned v' ∧ Own w' w.heap.size v' (s.S 1) ∧ Below w.heap.size w w' := by
  have HL := Lib.hid (list_rg h hbs (k := 1) (by omega))
  clear h hbs
  go_enter Try.func39, Try.ntmps39
  go_wp2_with fail
  refine HL.out.mono ?_
  rintro e w2 ⟨v', rfl, ho⟩
  have O := Lib.hid ho
  clear ho
  go_wp2_with fail
  go_ret
  exact ⟨_, rfl, O.out⟩
set_option maxHeartbeats 1600000 in
theorem ranges_rg {w : World} {base b m n : Nat} {F : Nat → Option Value} {V : Nat → Value} {s : SS} (h : Spc w base b m n F V s) (hbs : base ≤ w.heap.size) :
    Calls Try.prog 38 #[.pointer (some ⟨b, 0, none⟩)] w fun er w' => ∃ v', er = .returned v' ∧ Own w' w.heap.size v' (s.S 0) ∧ Below w.heap.size w w' := by
  have HL := Lib.hid (list_rg h hbs (k := 0) (by omega))
  clear h hbs
  go_enter Try.func38, Try.ntmps38
  go_wp2_with fail
  refine HL.out.mono ?_
  rintro e w2 ⟨v', rfl, ho⟩
  have O := Lib.hid ho
  clear ho
  go_wp2_with fail
  go_ret
  exact ⟨_, rfl, O.out⟩
end Sp
end Go.Proofs.Ytpbojhjbjnoihaa
