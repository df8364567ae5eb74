/-
  The walk of 'FieldUnits' where there are no right sides, or more than eight.
-/
import Derived.Test.YtmiedappfmlofaaFieldSys
import Derived.Deep.RegionHeld3
namespace Go.Proofs.Ytmiedappfmlofaa
open Go.RowKit
set_option linter.unusedVariables false

namespace fieldUnits
set_option maxRecDepth 100000 in
set_option maxHeartbeats 400000 in
theorem square_out (A A2 : Option Addr) (n c m c2 : Nat) (w : World) (hn : n = 0 ∨ 8 < n) :
    Calls Try.prog 27 #[.slice A n c, .slice A2 m c2] w fun e w' => e = .returned (.bool false) ∧ w = w' := by
  by_cases h1 : n = 0
  · subst h1
    go_enter Try.func27, Try.ntmps27
    go_wp2
    go_ret
    exact ⟨rfl, rfl⟩
  · have t1 : ((n : Int) < 1) = False := by simp; omega
    have t2 : ((8 : Int) < (n : Int)) = True := by simp; omega
    clear hn h1
    go_enter Try.func27, Try.ntmps27
    go_wp2
    go_ret
    exact ⟨rfl, rfl⟩

/-- rows that are none or more than eight -/
theorem solve_out (b : Nat) (A A2 : Option Addr) (n c m c2 : Nat) (w : World) (hn : n = 0 ∨ 8 < n) :
    Calls Try.prog 22 #[.pointer (some ⟨b, 0, none⟩), .slice A n c, .slice A2 m c2] w fun e w' => e = .returned (.tuple #[.slice none 0 0, .int .i64 1]) ∧ w = w' := by
  have HQ := Lib.hid hn
  clear hn
  go_enter Try.func22, Try.ntmps22
  go_wp2_with fail
  refine (square_out _ _ _ _ _ _ _ HQ.out).mono ?_
  rintro e w' ⟨rfl, rfl⟩
  go_wp2_with fail
  go_ret2
  exact ⟨rfl, rfl⟩

set_option maxRecDepth 100000 in
set_option maxHeartbeats 1600000 in
theorem bad0 (A : Option Addr) (c : Nat) (w : World) :
    Calls Try.prog 10 #[.slice A 0 c] w fun e w' => e = .returned (.bool true) ∧ Below w.heap.size w w' := by
  have hmk : ∀ w : World, (Instr.makeSlice 36 (.int .i64 0) (.int .i64 0)).run Try.prog w = .ok (.slice (some ⟨w.heap.size, 0, none⟩) 0 0) (w.alloc (.cells (hdP 0 0 0 (fun _ => 0)) 37)) := fun w => make_rows 0 0 (fun _ => 0) (by omega) w
  go_enter Try.func10, Try.ntmps10
  go_wp2_with fail
  refine (known_any _).mono ?_
  rintro e w1 ⟨rfl, hb1⟩
  have B1 := Lib.hid hb1
  clear hb1
  go_wp2_with fail
  go_region_held3 (fun w' => Hid (Below w.heap.size w w'))
    (first | assumption | exact Below.drew (Hid.out (p := Below w.heap.size w _) (by assumption)) | exact Below.alloc (Hid.out (p := Below w.heap.size w _) (by assumption)) (Below.size (Hid.out (p := Below w.heap.size w _) (by assumption))) _)
    (first
    | (go_at_call 12; refine (fresh_any _).mono ?_; rintro e wf ⟨rfl, hf, hb, hs⟩; have l1 : Hid (Below w.heap.size w wf) := Below.trans (Hid.out (p := Below w.heap.size w _) (by assumption)) (hb.mono (Below.size (Hid.out (p := Below w.heap.size w _) (by assumption)))); clear hf hb hs)
    | (go_at_call 22; refine (solve_out _ _ _ _ _ _ _ _ (by omega)).mono ?_; rintro e wz ⟨rfl, rfl⟩))
  all_goals
    go_wp2_with fail
    go_ret
    exact ⟨rfl, Hid.out (p := Below w.heap.size w _) (by assumption)⟩


set_option maxRecDepth 100000 in
set_option maxHeartbeats 1600000 in
theorem badS (b o : Nat) (n : Nat) (c : Nat) (w : World) (hn : 8 < n) (hn2 : n ≤ 20) (hcap : n ≤ c) (hmax : c ≤ 9223372036854775807) :
    Calls Try.prog 10 #[.slice (some ⟨b, o, none⟩) n c] w fun e w' => e = .returned (.bool true) ∧ Below w.heap.size w w' := by
  have hmk := make_rows n 0 (fun _ => 0) (by omega)
  have e1 : min (n : Int) 20 = (n : Int) := by omega
  have hsl := fun W => slice_head (some ⟨b, o, none⟩) n c n hcap (n : Int) rfl W
  have t3 : ((20 : Int) < (n : Int)) = False := by simp; omega
  have i1 : (0 : Int) ≤ (n : Int) := by omega
  have i2 : (n : Int) ≤ (c : Int) := by omega
  have t1 : ((n : Int) < 1) = False := by simp; omega
  have t2 : ((8 : Int) < (n : Int)) = True := by simp; omega
  go_enter Try.func10, Try.ntmps10
  go_wp2_with fail
  refine (known_any _).mono ?_
  rintro e w1 ⟨rfl, hb1⟩
  have B1 := Lib.hid hb1
  clear hb1
  go_wp2_with fail
  go_region_held3 (fun w' => Hid (Below w.heap.size w w'))
    (first | assumption | exact Below.drew (Hid.out (p := Below w.heap.size w _) (by assumption)) | exact Below.alloc (Hid.out (p := Below w.heap.size w _) (by assumption)) (Below.size (Hid.out (p := Below w.heap.size w _) (by assumption))) _)
    (first
    | (go_at_call 12; refine (fresh_any _).mono ?_; rintro e wf ⟨rfl, hf, hb, hs⟩; have l1 : Hid (Below w.heap.size w wf) := Below.trans (Hid.out (p := Below w.heap.size w _) (by assumption)) (hb.mono (Below.size (Hid.out (p := Below w.heap.size w _) (by assumption)))); clear hf hb hs)
    | (go_at_call 22; refine (solve_out _ _ _ _ _ _ _ _ (by omega)).mono ?_; rintro e wz ⟨rfl, rfl⟩))
  all_goals
    go_wp2_with fail
    go_ret
    exact ⟨rfl, Hid.out (p := Below w.heap.size w _) (by assumption)⟩

set_option maxRecDepth 100000 in
set_option maxHeartbeats 1600000 in
theorem badL (b o : Nat) (n : Nat) (c : Nat) (w : World) (hn : 20 < n) (hcap : n ≤ c) (hmax : c ≤ 9223372036854775807) :
    Calls Try.prog 10 #[.slice (some ⟨b, o, none⟩) n c] w fun e w' => e = .returned (.bool true) ∧ Below w.heap.size w w' := by
  have hmk : ∀ w : World, (Instr.makeSlice 36 (.int .i64 20) (.int .i64 20)).run Try.prog w = .ok (.slice (some ⟨w.heap.size, 0, none⟩) 20 20) (w.alloc (.cells (hdP 20 0 0 (fun _ => 0)) 37)) := fun w => make_rows 20 0 (fun _ => 0) (by omega) w
  have e1 : min (n : Int) 20 = 20 := by omega
  have t3 : ((20 : Int) < (n : Int)) = True := by simp; omega
  have i1 : (0 : Int) ≤ (n : Int) := by omega
  have i2 : (20 : Int) ≤ (c : Int) := by omega
  have i3 : 20 ≤ c := by omega
  have hsl := fun W => slice_head (some ⟨b, o, none⟩) n c 20 i3 20 rfl W
  have t1 : ((n : Int) < 1) = False := by simp; omega
  have t2 : ((8 : Int) < (n : Int)) = True := by simp; omega
  go_enter Try.func10, Try.ntmps10
  go_wp2_with fail
  refine (known_any _).mono ?_
  rintro e w1 ⟨rfl, hb1⟩
  have B1 := Lib.hid hb1
  clear hb1
  go_wp2_with fail
  go_region_held3 (fun w' => Hid (Below w.heap.size w w'))
    (first | assumption | exact Below.drew (Hid.out (p := Below w.heap.size w _) (by assumption)) | exact Below.alloc (Hid.out (p := Below w.heap.size w _) (by assumption)) (Below.size (Hid.out (p := Below w.heap.size w _) (by assumption))) _)
    (first
    | (go_at_call 12; refine (fresh_any _).mono ?_; rintro e wf ⟨rfl, hf, hb, hs⟩; have l1 : Hid (Below w.heap.size w wf) := Below.trans (Hid.out (p := Below w.heap.size w _) (by assumption)) (hb.mono (Below.size (Hid.out (p := Below w.heap.size w _) (by assumption)))); clear hf hb hs)
    | (go_at_call 22; refine (solve_out _ _ _ _ _ _ _ _ (by omega)).mono ?_; rintro e wz ⟨rfl, rfl⟩))
  all_goals
    go_wp2_with fail
    go_ret
    exact ⟨rfl, Hid.out (p := Below w.heap.size w _) (by assumption)⟩

end fieldUnits
end Go.Proofs.Ytmiedappfmlofaa
