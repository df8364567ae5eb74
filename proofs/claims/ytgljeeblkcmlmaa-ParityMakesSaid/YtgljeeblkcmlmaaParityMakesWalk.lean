/-
  The walk of 'ParityMakes'. Conditions: the argument reads as rows of bytes.
-/
import Derived.Test.YtgljeeblkcmlmaaParRef2
import Derived.Test.YtgljeeblkcmlmaaParKnown
import Derived.Test.YtgljeeblkcmlmaaFieldArgs
namespace Go.Proofs.Ytgljeeblkcmlmaa
open Go Go.RowKit
set_option maxRecDepth 100000
set_option linter.unusedVariables false
namespace parityMakes

set_option maxHeartbeats 1600000 in
theorem at_yes_yes (A : Option Addr) (m c : Nat) (ra : Nat → Option Addr) (rl rc : Nat → Nat) (x : Nat → Nat → Nat) (w : World) (hr : RdR w w.heap.size A (m + 3) ra rl rc x) (hl : (m + 3) ≤ c) (hm : c ≤ maxLen) (hA : 0 < (m + 3) ∧ (m + 3) ≤ 13 ∧ Alike (m + 3) rl) (hm0 : 0 < m) (hC : 4 ≤ m + 3 ∧ m + 3 ≤ 16 ∧ Alike (m + 3) rl) (hT : ∀ j, j < 3 → Tells m (rl 0) x j) :
    Calls Try.prog 3 #[.slice A (m + 3) c] w fun e w' => e = .returned (.bool true) ∧ Below w.heap.size w w' := by
  have HR := Lib.hid hr
  have hkm : (m + 3) ≤ maxLen := Nat.le_trans hl hm
  have HHA := Lib.hid hA
  have HHC := Lib.hid hC
  have HHT := Lib.hid hT
  clear hT
  clear hr hA hC
  go_enter Try.func3, Try.ntmps3
  go_wp2_with fail
  refine (known_any _).mono ?_
  rintro e0 w1 ⟨rfl, hb1⟩
  have B1 := Lib.hid hb1
  have R1 := Lib.hid (HR.out.below hb1 (Nat.le_refl _))
  clear hb1
  go_wp2_with fail
  refine (small_any (m + 3) c w.heap.size A ra rl rc x _ R1.out hkm).mono ?_
  rintro e0 w2 ⟨hs, rfl⟩
  rcases hs with rfl | rfl
  · skip
    go_wp2_with fail
    refine (known_any _).mono ?_
    rintro e w3 ⟨rfl, hb3⟩
    have B3 := Lib.hid (B1.out.trans (hb3.mono B1.out.size))
    clear hb3
    go_wp2_with fail
    go_ret
    exact ⟨rfl, B3.out⟩
  go_wp2_with fail
  refine (docmake_yes (m + 3) c w.heap.size A ra rl rc x _ R1.out B1.out.size HHA.out.1 HHA.out.2.1 HHA.out.2.2).mono ?_
  rintro e w3 ⟨v, rfl, ⟨h3, R3, rfl, hp3⟩, hb3⟩
  have P3 := Lib.hid hp3
  have B3 := Lib.hid (B1.out.trans (hb3.mono B1.out.size))
  have X3 := Lib.hid (R1.out.below (hb3.mono B1.out.size) (Nat.le_refl _))
  clear hp3 hb3 R1
  go_wp2_with fail
  refine (make_yes (m + 3) c w.heap.size A ra rl rc x _ X3.out B3.out.size HHA.out.1 HHA.out.2.1 HHA.out.2.2).mono ?_
  rintro e w4 ⟨v, rfl, ⟨h4, R4, rfl, hp4⟩, hb4⟩
  have P4 := Lib.hid hp4
  have P3' := Lib.hid (P3.out.below hb4 (Nat.le_refl _))
  have s34 := hb4.size
  have B4 := Lib.hid (B3.out.trans (hb4.mono B3.out.size))
  have X4 := Lib.hid (X3.out.below (hb4.mono B3.out.size) (Nat.le_refl _))
  clear hp4 hb4 X3 P3 B3
  go_wp2_with fail
  refine (doccheck_yes m c w.heap.size A ra rl rc x _ X4.out B4.out.size hm0 HHC.out.2.1 hl HHC.out.2.2 HHT.out).mono ?_
  rintro e w5 ⟨rfl, hb5⟩
  have B5 := Lib.hid (B4.out.trans (hb5.mono B4.out.size))
  have X5 := Lib.hid (X4.out.below (hb5.mono B4.out.size) (Nat.le_refl _))
  have H5 := Lib.hid hb5
  clear hb5 X4
  go_wp2_with fail
  refine (check_yes (m + 3) m c w.heap.size A ra rl rc x _ X5.out B5.out.size rfl hm0 HHC.out.2.1 hl hm HHC.out.2.2 HHT.out).mono ?_
  rintro e w6 ⟨rfl, hb6⟩
  have B6 := Lib.hid (B5.out.trans (hb6.mono B5.out.size))
  have H6 := Lib.hid (H5.out.trans (hb6.mono H5.out.size))
  clear hb6 X5 B5
  have Q3 := Lib.hid (P3'.out.below H6.out s34)
  have Q4 := Lib.hid (P4.out.below H6.out (Nat.le_refl _))
  clear P3' P4
  go_wp2_with fail
  refine (same_yes 3 3 3 _ _ _ _ _ _ _ _ _ _ _ _ _ Q3.out Q4.out (fun i hi => ⟨rfl, fun v hv => rfl⟩) (by decide)).mono ?_
  rintro e w7 ⟨rfl, nq, rfl⟩
  go_wp2_with fail
  go_ret
  exact ⟨rfl, below_drewN B6.out nq⟩

set_option maxHeartbeats 1600000 in
theorem at_yes_no (A : Option Addr) (m c : Nat) (ra : Nat → Option Addr) (rl rc : Nat → Nat) (x : Nat → Nat → Nat) (w : World) (hr : RdR w w.heap.size A (m + 3) ra rl rc x) (hl : (m + 3) ≤ c) (hm : c ≤ maxLen) (hA : 0 < (m + 3) ∧ (m + 3) ≤ 13 ∧ Alike (m + 3) rl) (hm0 : 0 < m) (hC : 4 ≤ m + 3 ∧ m + 3 ≤ 16 ∧ Alike (m + 3) rl) (hT : ¬ ∀ j, j < 3 → Tells m (rl 0) x j) :
    Calls Try.prog 3 #[.slice A (m + 3) c] w fun e w' => e = .returned (.bool true) ∧ Below w.heap.size w w' := by
  have HR := Lib.hid hr
  have hkm : (m + 3) ≤ maxLen := Nat.le_trans hl hm
  have HHA := Lib.hid hA
  have HHC := Lib.hid hC
  have HHT := Lib.hid hT
  clear hT
  clear hr hA hC
  go_enter Try.func3, Try.ntmps3
  go_wp2_with fail
  refine (known_any _).mono ?_
  rintro e0 w1 ⟨rfl, hb1⟩
  have B1 := Lib.hid hb1
  have R1 := Lib.hid (HR.out.below hb1 (Nat.le_refl _))
  clear hb1
  go_wp2_with fail
  refine (small_any (m + 3) c w.heap.size A ra rl rc x _ R1.out hkm).mono ?_
  rintro e0 w2 ⟨hs, rfl⟩
  rcases hs with rfl | rfl
  · skip
    go_wp2_with fail
    refine (known_any _).mono ?_
    rintro e w3 ⟨rfl, hb3⟩
    have B3 := Lib.hid (B1.out.trans (hb3.mono B1.out.size))
    clear hb3
    go_wp2_with fail
    go_ret
    exact ⟨rfl, B3.out⟩
  go_wp2_with fail
  refine (docmake_yes (m + 3) c w.heap.size A ra rl rc x _ R1.out B1.out.size HHA.out.1 HHA.out.2.1 HHA.out.2.2).mono ?_
  rintro e w3 ⟨v, rfl, ⟨h3, R3, rfl, hp3⟩, hb3⟩
  have P3 := Lib.hid hp3
  have B3 := Lib.hid (B1.out.trans (hb3.mono B1.out.size))
  have X3 := Lib.hid (R1.out.below (hb3.mono B1.out.size) (Nat.le_refl _))
  clear hp3 hb3 R1
  go_wp2_with fail
  refine (make_yes (m + 3) c w.heap.size A ra rl rc x _ X3.out B3.out.size HHA.out.1 HHA.out.2.1 HHA.out.2.2).mono ?_
  rintro e w4 ⟨v, rfl, ⟨h4, R4, rfl, hp4⟩, hb4⟩
  have P4 := Lib.hid hp4
  have P3' := Lib.hid (P3.out.below hb4 (Nat.le_refl _))
  have s34 := hb4.size
  have B4 := Lib.hid (B3.out.trans (hb4.mono B3.out.size))
  have X4 := Lib.hid (X3.out.below (hb4.mono B3.out.size) (Nat.le_refl _))
  clear hp4 hb4 X3 P3 B3
  go_wp2_with fail
  refine (doccheck_no m c w.heap.size A ra rl rc x _ X4.out B4.out.size hm0 HHC.out.2.1 hl HHC.out.2.2 HHT.out).mono ?_
  rintro e w5 ⟨rfl, hb5⟩
  have B5 := Lib.hid (B4.out.trans (hb5.mono B4.out.size))
  have X5 := Lib.hid (X4.out.below (hb5.mono B4.out.size) (Nat.le_refl _))
  have H5 := Lib.hid hb5
  clear hb5 X4
  go_wp2_with fail
  refine (check_no (m + 3) m c w.heap.size A ra rl rc x _ X5.out B5.out.size rfl hm0 HHC.out.2.1 hl hm HHC.out.2.2 HHT.out).mono ?_
  rintro e w6 ⟨rfl, hb6⟩
  have B6 := Lib.hid (B5.out.trans (hb6.mono B5.out.size))
  have H6 := Lib.hid (H5.out.trans (hb6.mono H5.out.size))
  clear hb6 X5 B5
  have Q3 := Lib.hid (P3'.out.below H6.out s34)
  have Q4 := Lib.hid (P4.out.below H6.out (Nat.le_refl _))
  clear P3' P4
  go_wp2_with fail
  refine (same_yes 3 3 3 _ _ _ _ _ _ _ _ _ _ _ _ _ Q3.out Q4.out (fun i hi => ⟨rfl, fun v hv => rfl⟩) (by decide)).mono ?_
  rintro e w7 ⟨rfl, nq, rfl⟩
  go_wp2_with fail
  go_ret
  exact ⟨rfl, below_drewN B6.out nq⟩

set_option maxHeartbeats 1600000 in
theorem at_yes_bad (A : Option Addr) (k c : Nat) (ra : Nat → Option Addr) (rl rc : Nat → Nat) (x : Nat → Nat → Nat) (w : World) (hr : RdR w w.heap.size A k ra rl rc x) (hl : k ≤ c) (hm : c ≤ maxLen) (hA : 0 < k ∧ k ≤ 13 ∧ Alike k rl) (hC : ¬ (4 ≤ k ∧ k ≤ 16 ∧ Alike k rl)) :
    Calls Try.prog 3 #[.slice A k c] w fun e w' => e = .returned (.bool true) ∧ Below w.heap.size w w' := by
  have HR := Lib.hid hr
  have hkm : k ≤ maxLen := Nat.le_trans hl hm
  have HHA := Lib.hid hA
  have HHC := Lib.hid hC
  clear hr hA hC
  go_enter Try.func3, Try.ntmps3
  go_wp2_with fail
  refine (known_any _).mono ?_
  rintro e0 w1 ⟨rfl, hb1⟩
  have B1 := Lib.hid hb1
  have R1 := Lib.hid (HR.out.below hb1 (Nat.le_refl _))
  clear hb1
  go_wp2_with fail
  refine (small_any k c w.heap.size A ra rl rc x _ R1.out hkm).mono ?_
  rintro e0 w2 ⟨hs, rfl⟩
  rcases hs with rfl | rfl
  · skip
    go_wp2_with fail
    refine (known_any _).mono ?_
    rintro e w3 ⟨rfl, hb3⟩
    have B3 := Lib.hid (B1.out.trans (hb3.mono B1.out.size))
    clear hb3
    go_wp2_with fail
    go_ret
    exact ⟨rfl, B3.out⟩
  go_wp2_with fail
  refine (docmake_yes k c w.heap.size A ra rl rc x _ R1.out B1.out.size HHA.out.1 HHA.out.2.1 HHA.out.2.2).mono ?_
  rintro e w3 ⟨v, rfl, ⟨h3, R3, rfl, hp3⟩, hb3⟩
  have P3 := Lib.hid hp3
  have B3 := Lib.hid (B1.out.trans (hb3.mono B1.out.size))
  have X3 := Lib.hid (R1.out.below (hb3.mono B1.out.size) (Nat.le_refl _))
  clear hp3 hb3 R1
  go_wp2_with fail
  refine (make_yes k c w.heap.size A ra rl rc x _ X3.out B3.out.size HHA.out.1 HHA.out.2.1 HHA.out.2.2).mono ?_
  rintro e w4 ⟨v, rfl, ⟨h4, R4, rfl, hp4⟩, hb4⟩
  have P4 := Lib.hid hp4
  have P3' := Lib.hid (P3.out.below hb4 (Nat.le_refl _))
  have s34 := hb4.size
  have B4 := Lib.hid (B3.out.trans (hb4.mono B3.out.size))
  have X4 := Lib.hid (X3.out.below (hb4.mono B3.out.size) (Nat.le_refl _))
  clear hp4 hb4 X3 P3 B3
  go_wp2_with fail
  refine (doccheck_bad k c w.heap.size A ra rl rc x _ X4.out HHC.out).mono ?_
  rintro e w5 ⟨rfl, rfl⟩
  go_wp2_with fail
  refine (check_bad k c w.heap.size A ra rl rc x _ X4.out HHC.out).mono ?_
  rintro e w6 ⟨rfl, rfl⟩
  have B6 := B4
  have Q3 := P3'
  have Q4 := P4
  go_wp2_with fail
  refine (same_yes 3 3 3 _ _ _ _ _ _ _ _ _ _ _ _ _ Q3.out Q4.out (fun i hi => ⟨rfl, fun v hv => rfl⟩) (by decide)).mono ?_
  rintro e w7 ⟨rfl, nq, rfl⟩
  go_wp2_with fail
  go_ret
  exact ⟨rfl, below_drewN B6.out nq⟩

set_option maxHeartbeats 1600000 in
theorem at_no_yes (A : Option Addr) (m c : Nat) (ra : Nat → Option Addr) (rl rc : Nat → Nat) (x : Nat → Nat → Nat) (w : World) (hr : RdR w w.heap.size A (m + 3) ra rl rc x) (hl : (m + 3) ≤ c) (hm : c ≤ maxLen) (hA : ¬ (0 < (m + 3) ∧ (m + 3) ≤ 13 ∧ Alike (m + 3) rl)) (hm0 : 0 < m) (hC : 4 ≤ m + 3 ∧ m + 3 ≤ 16 ∧ Alike (m + 3) rl) (hT : ∀ j, j < 3 → Tells m (rl 0) x j) :
    Calls Try.prog 3 #[.slice A (m + 3) c] w fun e w' => e = .returned (.bool true) ∧ Below w.heap.size w w' := by
  have HR := Lib.hid hr
  have hkm : (m + 3) ≤ maxLen := Nat.le_trans hl hm
  have HHA := Lib.hid hA
  have HHC := Lib.hid hC
  have HHT := Lib.hid hT
  clear hT
  clear hr hA hC
  go_enter Try.func3, Try.ntmps3
  go_wp2_with fail
  refine (known_any _).mono ?_
  rintro e0 w1 ⟨rfl, hb1⟩
  have B1 := Lib.hid hb1
  have R1 := Lib.hid (HR.out.below hb1 (Nat.le_refl _))
  clear hb1
  go_wp2_with fail
  refine (small_any (m + 3) c w.heap.size A ra rl rc x _ R1.out hkm).mono ?_
  rintro e0 w2 ⟨hs, rfl⟩
  rcases hs with rfl | rfl
  · skip
    go_wp2_with fail
    refine (known_any _).mono ?_
    rintro e w3 ⟨rfl, hb3⟩
    have B3 := Lib.hid (B1.out.trans (hb3.mono B1.out.size))
    clear hb3
    go_wp2_with fail
    go_ret
    exact ⟨rfl, B3.out⟩
  go_wp2_with fail
  refine (docmake_no (m + 3) c w.heap.size A ra rl rc x _ R1.out HHA.out).mono ?_
  rintro e w3 ⟨rfl, rfl⟩
  go_wp2_with fail
  refine (make_no (m + 3) c w.heap.size A ra rl rc x _ R1.out HHA.out).mono ?_
  rintro e w4 ⟨rfl, rfl⟩
  have B4 := B1
  have X4 := R1
  clear R1
  go_wp2_with fail
  refine (doccheck_yes m c w.heap.size A ra rl rc x _ X4.out B4.out.size hm0 HHC.out.2.1 hl HHC.out.2.2 HHT.out).mono ?_
  rintro e w5 ⟨rfl, hb5⟩
  have B5 := Lib.hid (B4.out.trans (hb5.mono B4.out.size))
  have X5 := Lib.hid (X4.out.below (hb5.mono B4.out.size) (Nat.le_refl _))
  have H5 := Lib.hid hb5
  clear hb5 X4
  go_wp2_with fail
  refine (check_yes (m + 3) m c w.heap.size A ra rl rc x _ X5.out B5.out.size rfl hm0 HHC.out.2.1 hl hm HHC.out.2.2 HHT.out).mono ?_
  rintro e w6 ⟨rfl, hb6⟩
  have B6 := Lib.hid (B5.out.trans (hb6.mono B5.out.size))
  have H6 := Lib.hid (H5.out.trans (hb6.mono H5.out.size))
  clear hb6 X5 B5
  go_wp2_with fail
  refine (same_yes 0 0 0 0 0 none none (fun _ => none) (fun _ => none) (fun _ => 0) (fun _ => 0) (fun _ => 0) (fun _ => 0) (fun _ _ => 0) (fun _ _ => 0) _ (fun i hi => absurd hi (by omega)) (fun i hi => absurd hi (by omega)) (fun i hi => absurd hi (by omega)) (by decide)).mono ?_
  rintro e w7 ⟨rfl, nq, rfl⟩
  go_wp2_with fail
  go_ret
  exact ⟨rfl, below_drewN B6.out nq⟩

set_option maxHeartbeats 1600000 in
theorem at_no_no (A : Option Addr) (m c : Nat) (ra : Nat → Option Addr) (rl rc : Nat → Nat) (x : Nat → Nat → Nat) (w : World) (hr : RdR w w.heap.size A (m + 3) ra rl rc x) (hl : (m + 3) ≤ c) (hm : c ≤ maxLen) (hA : ¬ (0 < (m + 3) ∧ (m + 3) ≤ 13 ∧ Alike (m + 3) rl)) (hm0 : 0 < m) (hC : 4 ≤ m + 3 ∧ m + 3 ≤ 16 ∧ Alike (m + 3) rl) (hT : ¬ ∀ j, j < 3 → Tells m (rl 0) x j) :
    Calls Try.prog 3 #[.slice A (m + 3) c] w fun e w' => e = .returned (.bool true) ∧ Below w.heap.size w w' := by
  have HR := Lib.hid hr
  have hkm : (m + 3) ≤ maxLen := Nat.le_trans hl hm
  have HHA := Lib.hid hA
  have HHC := Lib.hid hC
  have HHT := Lib.hid hT
  clear hT
  clear hr hA hC
  go_enter Try.func3, Try.ntmps3
  go_wp2_with fail
  refine (known_any _).mono ?_
  rintro e0 w1 ⟨rfl, hb1⟩
  have B1 := Lib.hid hb1
  have R1 := Lib.hid (HR.out.below hb1 (Nat.le_refl _))
  clear hb1
  go_wp2_with fail
  refine (small_any (m + 3) c w.heap.size A ra rl rc x _ R1.out hkm).mono ?_
  rintro e0 w2 ⟨hs, rfl⟩
  rcases hs with rfl | rfl
  · skip
    go_wp2_with fail
    refine (known_any _).mono ?_
    rintro e w3 ⟨rfl, hb3⟩
    have B3 := Lib.hid (B1.out.trans (hb3.mono B1.out.size))
    clear hb3
    go_wp2_with fail
    go_ret
    exact ⟨rfl, B3.out⟩
  go_wp2_with fail
  refine (docmake_no (m + 3) c w.heap.size A ra rl rc x _ R1.out HHA.out).mono ?_
  rintro e w3 ⟨rfl, rfl⟩
  go_wp2_with fail
  refine (make_no (m + 3) c w.heap.size A ra rl rc x _ R1.out HHA.out).mono ?_
  rintro e w4 ⟨rfl, rfl⟩
  have B4 := B1
  have X4 := R1
  clear R1
  go_wp2_with fail
  refine (doccheck_no m c w.heap.size A ra rl rc x _ X4.out B4.out.size hm0 HHC.out.2.1 hl HHC.out.2.2 HHT.out).mono ?_
  rintro e w5 ⟨rfl, hb5⟩
  have B5 := Lib.hid (B4.out.trans (hb5.mono B4.out.size))
  have X5 := Lib.hid (X4.out.below (hb5.mono B4.out.size) (Nat.le_refl _))
  have H5 := Lib.hid hb5
  clear hb5 X4
  go_wp2_with fail
  refine (check_no (m + 3) m c w.heap.size A ra rl rc x _ X5.out B5.out.size rfl hm0 HHC.out.2.1 hl hm HHC.out.2.2 HHT.out).mono ?_
  rintro e w6 ⟨rfl, hb6⟩
  have B6 := Lib.hid (B5.out.trans (hb6.mono B5.out.size))
  have H6 := Lib.hid (H5.out.trans (hb6.mono H5.out.size))
  clear hb6 X5 B5
  go_wp2_with fail
  refine (same_yes 0 0 0 0 0 none none (fun _ => none) (fun _ => none) (fun _ => 0) (fun _ => 0) (fun _ => 0) (fun _ => 0) (fun _ _ => 0) (fun _ _ => 0) _ (fun i hi => absurd hi (by omega)) (fun i hi => absurd hi (by omega)) (fun i hi => absurd hi (by omega)) (by decide)).mono ?_
  rintro e w7 ⟨rfl, nq, rfl⟩
  go_wp2_with fail
  go_ret
  exact ⟨rfl, below_drewN B6.out nq⟩

set_option maxHeartbeats 1600000 in
theorem at_no_bad (A : Option Addr) (k c : Nat) (ra : Nat → Option Addr) (rl rc : Nat → Nat) (x : Nat → Nat → Nat) (w : World) (hr : RdR w w.heap.size A k ra rl rc x) (hl : k ≤ c) (hm : c ≤ maxLen) (hA : ¬ (0 < k ∧ k ≤ 13 ∧ Alike k rl)) (hC : ¬ (4 ≤ k ∧ k ≤ 16 ∧ Alike k rl)) :
    Calls Try.prog 3 #[.slice A k c] w fun e w' => e = .returned (.bool true) ∧ Below w.heap.size w w' := by
  have HR := Lib.hid hr
  have hkm : k ≤ maxLen := Nat.le_trans hl hm
  have HHA := Lib.hid hA
  have HHC := Lib.hid hC
  clear hr hA hC
  go_enter Try.func3, Try.ntmps3
  go_wp2_with fail
  refine (known_any _).mono ?_
  rintro e0 w1 ⟨rfl, hb1⟩
  have B1 := Lib.hid hb1
  have R1 := Lib.hid (HR.out.below hb1 (Nat.le_refl _))
  clear hb1
  go_wp2_with fail
  refine (small_any k c w.heap.size A ra rl rc x _ R1.out hkm).mono ?_
  rintro e0 w2 ⟨hs, rfl⟩
  rcases hs with rfl | rfl
  · skip
    go_wp2_with fail
    refine (known_any _).mono ?_
    rintro e w3 ⟨rfl, hb3⟩
    have B3 := Lib.hid (B1.out.trans (hb3.mono B1.out.size))
    clear hb3
    go_wp2_with fail
    go_ret
    exact ⟨rfl, B3.out⟩
  go_wp2_with fail
  refine (docmake_no k c w.heap.size A ra rl rc x _ R1.out HHA.out).mono ?_
  rintro e w3 ⟨rfl, rfl⟩
  go_wp2_with fail
  refine (make_no k c w.heap.size A ra rl rc x _ R1.out HHA.out).mono ?_
  rintro e w4 ⟨rfl, rfl⟩
  have B4 := B1
  have X4 := R1
  clear R1
  go_wp2_with fail
  refine (doccheck_bad k c w.heap.size A ra rl rc x _ X4.out HHC.out).mono ?_
  rintro e w5 ⟨rfl, rfl⟩
  go_wp2_with fail
  refine (check_bad k c w.heap.size A ra rl rc x _ X4.out HHC.out).mono ?_
  rintro e w6 ⟨rfl, rfl⟩
  have B6 := B4
  go_wp2_with fail
  refine (same_yes 0 0 0 0 0 none none (fun _ => none) (fun _ => none) (fun _ => 0) (fun _ => 0) (fun _ => 0) (fun _ => 0) (fun _ _ => 0) (fun _ _ => 0) _ (fun i hi => absurd hi (by omega)) (fun i hi => absurd hi (by omega)) (fun i hi => absurd hi (by omega)) (by decide)).mono ?_
  rintro e w7 ⟨rfl, nq, rfl⟩
  go_wp2_with fail
  go_ret
  exact ⟨rfl, below_drewN B6.out nq⟩

theorem walk (A : Option Addr) (k c : Nat) (ra : Nat → Option Addr) (rl rc : Nat → Nat) (x : Nat → Nat → Nat) (w : World) (hr : RdR w w.heap.size A k ra rl rc x) (hl : k ≤ c) (hm : c ≤ maxLen) (hc : ∀ i, i < k → rl i ≤ rc i ∧ rc i ≤ maxLen) :
    Calls Try.prog 3 #[.slice A k c] w fun e w' => e = .returned (.bool true) ∧ Below w.heap.size w w' := by
  by_cases hA : 0 < k ∧ k ≤ 13 ∧ Alike k rl
  · by_cases hC : 4 ≤ k ∧ k ≤ 16 ∧ Alike k rl
    · obtain ⟨m, rfl⟩ : ∃ m, k = m + 3 := ⟨k - 3, by omega⟩
      by_cases hT : ∀ j, j < 3 → Tells m (rl 0) x j
      · exact at_yes_yes A m c ra rl rc x w hr hl hm hA (by omega) hC hT
      · exact at_yes_no A m c ra rl rc x w hr hl hm hA (by omega) hC hT
    · exact at_yes_bad A k c ra rl rc x w hr hl hm hA hC
  · by_cases hC : 4 ≤ k ∧ k ≤ 16 ∧ Alike k rl
    · obtain ⟨m, rfl⟩ : ∃ m, k = m + 3 := ⟨k - 3, by omega⟩
      by_cases hT : ∀ j, j < 3 → Tells m (rl 0) x j
      · exact at_no_yes A m c ra rl rc x w hr hl hm hA (by omega) hC hT
      · exact at_no_no A m c ra rl rc x w hr hl hm hA (by omega) hC hT
    · exact at_no_bad A k c ra rl rc x w hr hl hm hA hC
end parityMakes
end Go.Proofs.Ytgljeeblkcmlmaa
