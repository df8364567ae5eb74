/-
  'parity.Rebuild' without a bad column, whatever the empty list is; the document's 'Rebuild' where it refuses. Conditions: columns read as rows of bytes.
-/
import Derived.Test.YtoabhbmhjelplaaParFault2
namespace Go.Proofs.Ytoabhbmhjelplaa
open Go Go.RowKit
set_option maxRecDepth 100000
set_option linter.unusedVariables false

set_option maxHeartbeats 800000 in
theorem mend_zero (b m cd c2 : Nat) (A A2 : Option Addr) (w : World) (hk : m + 3 ≤ 16) (h0 : A2 = none → c2 = 0) (hcm : c2 ≤ maxLen) :
    Calls Try.prog 21 #[.pointer (some ⟨b, 0, none⟩), .slice A (m + 3) cd, .slice A2 0 c2] w fun e w' => e = .returned (.tuple #[]) ∧ Below w.heap.size w w' := by
  have e1 : IntKind.i64.wrap (((m + 3 : Nat) : Int) - 3) = (m : Int) := by rw [IntKind.wrap_i64]; omega
  have HT : Hid True := trivial
  have H0 := Lib.hid h0
  have HCM := Lib.hid hcm
  have HZ0 : Hid (∀ W : World, RdZ W W.heap.size (subA A2 c2 0) 0 (fun _ => 0)) := Lib.hid fun W i hi => absurd hi (by omega)
  unfold maxLen at hcm
  clear h0
  go_enter Try.func21, Try.ntmps21
  go_wp2_with fail
  go_loop [7] (fun x => x = .int .i64 0) (fun _ => 0)
  case atStart => rfl
  case round =>
    obtain rfl := hrel
    clear e1
    go_wp2_with fail
    refine region_anyZ (fun _ : World => True) 13 (by kernel_rfl) ?_
    refine takeG 0 (.move (.tmp 0)) (some 27) none (.pointer (some ⟨b, 0, none⟩)) (by kernel_rfl) (by kernel_rfl) (by kernel_rfl) (fun _ _ _ h => h) (fun o w e hS => exec_move w e (by kernel_rfl)) HT.out ?_
    refine takeG 1 (.move (.tmp 1)) (some 28) none (.slice A (m + 3) cd) (by kernel_rfl) (by kernel_rfl) (by kernel_rfl) (fun _ _ _ h => h) (fun o w e hS => exec_move w e (by kernel_rfl)) HT.out ?_
    refine takeG 2 (.move (.tmp 2)) (some 29) none (.slice A2 0 c2) (by kernel_rfl) (by kernel_rfl) (by kernel_rfl) (fun _ _ _ h => h) (fun o w e hS => exec_move w e (by kernel_rfl)) HT.out ?_
    refine takeG 3 (.move (.tmp 7)) (some 30) none (.int .i64 0) (by kernel_rfl) (by kernel_rfl) (by kernel_rfl) (fun _ _ _ h => h) (fun o w e hS => exec_move w e (by kernel_rfl)) HT.out ?_
    refine takeG 4 (.slice 23 (.tmp 29) .none (.some (.tmp 30)) .none) (some 31) none (.slice (subA A2 c2 0) 0 c2) (by kernel_rfl) (by kernel_rfl) (by kernel_rfl) (fun _ _ _ h => h) (fun o w e hS => exec_slice (u := .slice A2 0 c2) w e (by kernel_rfl) (by kernel_rfl) (by kernel_rfl) (by kernel_rfl) (slice_toZ A2 0 c2 0 0 rfl (by omega) _)) HT.out ?_
    refine takeG 5 (.move (.tmp 2)) (some 32) none (.slice A2 0 c2) (by kernel_rfl) (by kernel_rfl) (by kernel_rfl) (fun _ _ _ h => h) (fun o w e hS => exec_move w e (by kernel_rfl)) HT.out ?_
    refine takeG 6 (.move (.tmp 7)) (some 33) none (.int .i64 0) (by kernel_rfl) (by kernel_rfl) (by kernel_rfl) (fun _ _ _ h => h) (fun o w e hS => exec_move w e (by kernel_rfl)) HT.out ?_
    refine takeG 7 (.slice 23 (.tmp 32) (.some (.tmp 33)) .none .none) (some 34) none (.slice (subA A2 c2 0) 0 c2) (by kernel_rfl) (by kernel_rfl) (by kernel_rfl) (fun _ _ _ h => h) (fun o w e hS => exec_slice (u := .slice A2 0 c2) w e (by kernel_rfl) (by kernel_rfl) (by kernel_rfl) (by kernel_rfl) (slice_fromZ A2 0 c2 0 0 rfl (by omega) _)) HT.out ?_
    refine takeG 8 (.move (.tmp 6)) (some 35) none (.int .i64 (m : Int)) (by kernel_rfl) (by kernel_rfl) (by kernel_rfl) (fun _ _ _ h => h) (fun o w e hS => exec_move w e (by kernel_rfl)) HT.out ?_
    refine takeG 10 (.move (.tmp 7)) (some 37) none (.int .i64 0) (by kernel_rfl) (by kernel_rfl) (by kernel_rfl) (fun _ _ _ h => h) (fun o w e hS => exec_move w e (by kernel_rfl)) HT.out ?_
    refine loneG 9 (.call ⟨.value (.func 32), #[(.tmp 34), (.tmp 35)], #[23, 3]⟩) (some 36) none (by kernel_rfl) (by kernel_rfl) (by kernel_rfl) ?_
    intro o ho hod
    refine wp_callC (f := 32) (args := #[.slice (subA A2 c2 0) 0 c2, .int .i64 (m : Int)]) (by cases o; cases ho; kernel_rfl) (sound_any m 0 c2 _ (subA A2 c2 0) (fun _ => 0) 0 _ (HZ0.out _) (Nat.le_refl _) (Nat.zero_le _) HCM.out (fun i hi => absurd hi (by omega)) (fun i hi => absurd hi (by omega)) (by omega) (by omega)) ?_
    rintro e w2 ⟨vs, rfl, ho2, hb2⟩
    have hl3 : (sndL 0 (fun _ => (0 : Int)) m 3).length = 3 := rfl
    rw [hl3] at ho2
    obtain ⟨As, cs, rfl, _, _, _⟩ := own_ints2 ho2
    clear ho2 hl3
    refine ⟨.slice As 3 cs, rfl, ?_⟩
    rw [hod]
    clear hod ho
    have L2 := Lib.hid hb2
    refine ⟨fun _ => trivial, ?_⟩
    refine takeG 11 (.slice 23 (.tmp 36) .none (.some (.tmp 37)) .none) (some 38) none (.slice (subA As cs 0) 0 cs) (by kernel_rfl) (by kernel_rfl) (by kernel_rfl) (fun _ _ _ h => h) (fun o w e hS => exec_slice (u := .slice As 3 cs) w e (by kernel_rfl) (by kernel_rfl) (by kernel_rfl) (by kernel_rfl) (slice_toZ As 3 cs 0 0 rfl (by omega) _)) HT.out ?_
    refine loneG 12 (.call ⟨.value (.func 31), #[(.tmp 27), (.tmp 28), (.tmp 31), (.tmp 38)], #[45, 22, 23, 23]⟩) (some 39) none (by kernel_rfl) (by kernel_rfl) (by kernel_rfl) ?_
    intro o ho hod
    refine wp_callC (f := 31) (args := #[.pointer (some ⟨b, 0, none⟩), .slice A (m + 3) cd, .slice (subA A2 c2 0) 0 c2, .slice (subA As cs 0) 0 cs]) (by cases o; cases ho; kernel_rfl) (mendData_zero b m cd cs c2 A (subA A2 c2 0) (subA As cs 0) _ hk) ?_
    rintro e w3 ⟨rfl, hb3⟩
    refine ⟨.tuple #[], rfl, ?_⟩
    rw [hod]
    clear hod ho
    have L3 := Lib.hid (L2.out.trans (hb3.mono L2.out.size))
    clear hb3 L2
    refine ⟨fun _ => trivial, ?_⟩
    refine AnyZ.done (by kernel_rfl) ?_
    simp only [put_some, put_none, List.setIfInBounds_toArray, List.set_cons_succ, List.set_cons_zero]
    by_cases hc0 : c2 = 0
    · subst hc0
      cases A2 with
      | none =>
        go_wp2_with fail
        go_loop [44] (fun x => x = .int .i64 ((0 : Nat) : Int)) (fun _ => 0)
        case atStart => rfl
        case round =>
          obtain rfl := hrel
          go_wp2_with fail
          go_end0
          exact ⟨rfl, (below_drew (Below.refl w.heap.size w)).trans L3.out⟩
      | some ad =>
        go_wp2_with fail
        go_loop [44] (fun x => x = .int .i64 ((0 : Nat) : Int)) (fun _ => 0)
        case atStart => rfl
        case round =>
          obtain rfl := hrel
          go_wp2_with fail
          go_end0
          exact ⟨rfl, (below_drew (Below.refl w.heap.size w)).trans L3.out⟩
    · cases A2 with
      | none => exact absurd (H0.out rfl) hc0
      | some ad =>
        go_wp2_with fail
        go_loop [44] (fun x => x = .int .i64 ((0 : Nat) : Int)) (fun _ => 0)
        case atStart => rfl
        case round =>
          obtain rfl := hrel
          go_wp2_with fail
          go_end0
          exact ⟨rfl, (below_drew (Below.refl w.heap.size w)).trans L3.out⟩

set_option maxHeartbeats 1600000 in
theorem rebuild_zero (k m cd B c2 : Nat) (A A2 : Option Addr) (ra : Nat → Option Addr) (rl rc : Nat → Nat) (x : Nat → Nat → Nat) (w : World) (hr : RdR w B A k ra rl rc x) (hB : B ≤ w.heap.size) (hm : k = m + 3) (hm0 : 0 < m) (hk : k ≤ 16) (ha : Alike k rl) (h0 : A2 = none → c2 = 0) (hcm : c2 ≤ maxLen) :
    Calls Try.prog 8 #[.slice A k cd, .slice A2 0 c2] w fun e w' => ∃ v H R, e = .returned (.tuple #[v, .int .i64 0]) ∧ Cols w' w.heap.size v k (rl 0) H R x ∧ Below w.heap.size w w' := by
  subst hm
  have HA := Lib.hid ha
  have HR := Lib.hid hr
  have hz := build_field
  have HZ : Hid (RdZ w 0 A2 0 (fun _ => 0)) := fun i hi => absurd hi (by omega)
  have HRI : Hid (Rise 0 (fun _ => 0) ((m + 3 : Nat) : Int)) := fun i hi => absurd hi (by omega)
  have HF : Hid (First 0 (fun _ => 0) 0) := ⟨Nat.le_refl _, fun j hj => absurd hj (by omega), fun h => absurd h (by omega)⟩
  have HAB : Hid (AlikeB (m + 3) 0 (rl 0) (fun _ => 0) rl) := ⟨ha.1, ha.2.1, fun i hi _ => ha.2.2 i hi⟩
  have HC0 : Hid (c2 ≤ maxLen) := hcm
  have H0 := Lib.hid h0
  clear hr ha h0
  go_enter Try.func8, Try.ntmps8
  go_wp2_with fail
  refine (fault_none (m + 3) cd B 0 c2 0 0 A A2 ra rl rc x (fun _ => 0) _ HR.out HZ.out (Nat.zero_le _) HC0.out HRI.out HF.out (by omega) (by omega) (by omega) (by omega) HAB.out).mono ?_
  rintro e w1 ⟨rfl, rfl⟩
  go_wp2_with fail
  refine (whole_any (m + 3) cd B 0 c2 0 0 A A2 ra rl rc x (fun _ => 0) _ HR.out HZ.out hB (by omega) (by omega) HC0.out HRI.out HF.out (by omega) hk (by omega) HAB.out).mono ?_
  rintro e w2 ⟨rfl, H2⟩
  have C2 := Lib.hid (H2.cols hk HA.out.2.1)
  have L2 := Lib.hid H2.below
  have HX : Hid (∀ j, goodX 0 (fun _ => 0) x j = x j) := fun j => by unfold goodX; rw [isB_false (fun j hj => absurd hj (by omega))]; rfl
  clear H2 HZ HRI HF HAB
  go_wp2_with fail
  refine (mend_zero w2.heap.size m (m + 3) c2 (some ⟨w.heap.size, 0, none⟩) A2 _ hk H0.out HC0.out).mono ?_
  rintro e w3 ⟨rfl, hb3⟩
  have B2 : Below w2.heap.size w2 (w2.alloc (.cells (fcells 0 0 0) 61)) := (Below.refl _ _).alloc (Nat.le_refl _) _
  have HB3 := Lib.hid (B2.trans (hb3.mono B2.size))
  clear hb3 B2
  go_wp2_with fail
  go_ret2
  have h := C2.out.below HB3.out (Nat.le_refl _)
  rw [show goodX 0 (fun _ => 0) x = x from funext HX.out] at h
  exact ⟨.slice (some ⟨w.heap.size, 0, none⟩) (m + 3) (m + 3), _, _, rfl, h, L2.out.trans (HB3.out.mono L2.out.size)⟩
set_option maxHeartbeats 800000 in
theorem docRebuild_err (k cd m c : Nat) (A A2 : Option Addr) (e : Int) (w : World) (he : e ≠ 0) (hf : Calls Try.prog 12 #[.slice A k cd, .slice A2 m c] w fun e' w' => e' = .returned (.int .i64 e) ∧ ∃ d, w' = w.drewN d) :
    Calls Try.prog 7 #[.slice A k cd, .slice A2 m c] w fun e' w' => e' = .returned (.tuple #[.slice none 0 0, .int .i64 e]) ∧ ∃ d, w' = w.drewN d := by
  have HF := Lib.hid hf
  have hne : (e != 0) = true := by rw [bne_iff_ne]; exact he
  clear hf he
  go_enter Try.func7, Try.ntmps7
  go_wp2_with fail
  refine HF.out.mono ?_
  rintro e1 w1 ⟨rfl, d, rfl⟩
  go_wp2_with fail
  go_ret2
  exact ⟨rfl, d, rfl⟩
end Go.Proofs.Ytoabhbmhjelplaa
