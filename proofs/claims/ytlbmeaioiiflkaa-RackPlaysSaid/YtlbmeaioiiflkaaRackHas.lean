/-
  'rack.has', 'reach', 'powered', 'Drives', 'Sectors', 'Pending', 'Gone' by contracts. Conditions: the rack is one.
-/
import Derived.Test.YtlbmeaioiiflkaaRackAt
import Derived.Test.YtlbmeaioiiflkaaQuietTail
import Derived.Lib.Hide
import Derived.BigQuiet
namespace Go.Proofs.Ytlbmeaioiiflkaa
open Go.RowKit
set_option linter.unusedVariables false
set_option linter.unusedSimpArgs false

/-- is it one of the drives? -/
def RS.isD (s : RS) (D : Int) : Bool := decide (0 ≤ D) && decide (D < (s.nd : Int))
def RS.isP (s : RS) (D A : Int) : Bool := s.isD D && (decide (0 ≤ A) && decide (A < (s.ns : Int)))

set_option maxRecDepth 100000 in
theorem has_any {B : Nat} (w : World) (r : Nat) (s : RS) (D : Int) (h : RackAt B w r s) :
    Calls Try.prog 22 #[.pointer (some ⟨r, 0, none⟩), .int .i64 D] w fun e w' => e = .returned (.bool (s.isD D)) ∧ w' = w := by
  obtain ⟨h0, m1, m2, v, h⟩ := h
  have c0 := h.c0
  clear h0 h
  unfold RS.isD
  by_cases h1 : 0 ≤ D
  · have t1 : decide (0 ≤ D) = true := by simp [h1]
    by_cases h2 : D < (s.nd : Int)
    · have t2 : decide (D < (s.nd : Int)) = true := by simp [h2]
      go_enter Try.func22, Try.ntmps22
      go_wp2
      go_ret
      simp [h1, h2]
    · have t2 : decide (D < (s.nd : Int)) = false := by simp; omega
      go_enter Try.func22, Try.ntmps22
      go_wp2
      go_ret
      simp [h1, h2]
  · have t1 : decide (0 ≤ D) = false := by simp; omega
    go_enter Try.func22, Try.ntmps22
    go_wp2
    go_ret
    simp [h1]

theorem drives_any {B : Nat} (w : World) (r : Nat) (s : RS) (h : RackAt B w r s) :
    Calls Try.prog 15 #[.pointer (some ⟨r, 0, none⟩)] w fun e w' => e = .returned (.int .i64 (s.nd : Int)) ∧ w' = w := by
  obtain ⟨h0, m1, m2, v, h⟩ := h
  have c0 := h.c0
  clear h0 h
  go_enter Try.func15, Try.ntmps15
  go_wp2
  go_ret
  exact ⟨rfl, rfl⟩
theorem sectors_any {B : Nat} (w : World) (r : Nat) (s : RS) (h : RackAt B w r s) :
    Calls Try.prog 16 #[.pointer (some ⟨r, 0, none⟩)] w fun e w' => e = .returned (.int .i64 (s.ns : Int)) ∧ w' = w := by
  obtain ⟨h0, m1, m2, v, h⟩ := h
  have c1 := h.c1
  clear h0 h
  go_enter Try.func16, Try.ntmps16
  go_wp2
  go_ret
  exact ⟨rfl, rfl⟩
theorem pending_any {B : Nat} (w : World) (r : Nat) (s : RS) (h : RackAt B w r s) :
    Calls Try.prog 9 #[.pointer (some ⟨r, 0, none⟩)] w fun e w' => e = .returned (.int .i64 (s.nw : Int)) ∧ w' = w := by
  obtain ⟨h0, m1, m2, v, h⟩ := h
  have c3 := h.c3
  obtain ⟨a, c, hv⟩ : ∃ a c, v = .slice a s.nw c := by
    rcases h.row.2 with ⟨rfl, e⟩ | ⟨g, cap, cur, rfl, _⟩
    · exact ⟨none, 0, by rw [e]⟩
    · exact ⟨_, _, rfl⟩
  subst hv
  clear h0 h
  go_enter Try.func9, Try.ntmps9
  go_wp2
  go_ret
  exact ⟨rfl, rfl⟩

set_option maxRecDepth 100000 in
theorem gone_any {B : Nat} (w : World) (r : Nat) (s : RS) (D : Int) (h : RackAt B w r s) :
    Calls Try.prog 8 #[.pointer (some ⟨r, 0, none⟩), .int .i64 D] w fun e w' => e = .returned (.bool (s.isD D && s.gone D.toNat)) ∧ w' = w := by
  have hh := has_any w r s D h
  obtain ⟨h0, m1, m2, v, h⟩ := h
  by_cases hd : s.isD D = true
  · have hd2 := hd
    unfold RS.isD at hd2
    simp at hd2
    have := h0.nd2
    have cg := h.cg (d := D.toNat) (by omega)
    obtain ⟨d, rfl⟩ : ∃ d : Nat, D = (d : Int) := ⟨D.toNat, by omega⟩
    simp only [Int.toNat_natCast] at cg
    have i2 : (d : Int) < 16 := by omega
    have i1 : (0 : Int) ≤ (d : Int) := by omega
    rw [hd] at hh
    have HH := Lib.hid hh
    clear h0 h hh
    go_enter Try.func8, Try.ntmps8
    go_wp2_with fail
    refine HH.out.mono ?_
    rintro e w' ⟨rfl, rfl⟩
    go_wp2_with fail
    go_ret
    simp [hd]
  · have hd' : s.isD D = false := by simpa using hd
    rw [hd'] at hh
    have HH := Lib.hid hh
    clear h0 h hh hd
    go_enter Try.func8, Try.ntmps8
    go_wp2_with fail
    refine HH.out.mono ?_
    rintro e w' ⟨rfl, rfl⟩
    go_wp2_with fail
    go_ret
    simp [hd']

/-- why a place can't be reached -/
def RS.why (s : RS) (D A : Int) : Int := if s.isP D A then (if s.gone D.toNat then 3 else 0) else 1
def placeV (D A : Int) : Value := .agg #[.int .i64 D, .int .i64 A]

set_option maxRecDepth 100000 in
set_option maxHeartbeats 800000 in
theorem reach_any {B : Nat} (w : World) (r : Nat) (s : RS) (D A : Int) (h : RackAt B w r s) :
    Calls Try.prog 37 #[.pointer (some ⟨r, 0, none⟩), placeV D A] w fun e w' => e = .returned (.int .i64 (s.why D A)) ∧ RackAt B w' r s ∧ Keep B w w' ∧ w'.heap.size = w.heap.size + 1 ∧ Below w.heap.size w w' := by
  have hle := h.le
  have K0 := Lib.hid (((Keep.refl B w).alloc h.le (.cells #[.int .i64 D, .int .i64 A] 54)))
  have N0 := Lib.hid ((Below.refl w.heap.size w).alloc (Nat.le_refl _) (.cells #[.int .i64 D, .int .i64 A] 54))
  have HS := Lib.hid (h.alloc (.cells #[.int .i64 D, .int .i64 A] 54))
  obtain ⟨h0, m1, m2, v, hw⟩ := h
  have c1 := hw.c1
  have c1' : (w.alloc (.cells #[.int .i64 D, .int .i64 A] 54)).cell? ⟨r, 1, none⟩ = some (.int .i64 (s.ns : Int)) := (hw.alloc _).c1
  have hh := Lib.hid (fun n => has_any _ r s D (HS.out.drewN n))
  clear hw
  by_cases hd : s.isD D = true
  · have hd2 := hd
    unfold RS.isD at hd2
    simp at hd2
    have hnd := h0.nd2
    obtain ⟨d, rfl⟩ : ∃ d : Nat, D = (d : Int) := ⟨D.toNat, by omega⟩
    have i2 : (d : Int) < 16 := by omega
    have i1 : (0 : Int) ≤ (d : Int) := by omega
    unfold RS.why RS.isP placeV
    simp only [hd] at hh ⊢
    clear h0
    by_cases ha : 0 ≤ A
    · have t1 : (A < 0) = False := by simp; omega
      have t1' : decide (A < 0) = false := by simp; omega
      have t1'' : decide (0 ≤ A) = true := by simp; omega
      by_cases ha2 : A < (s.ns : Int)
      · have t2 : ((s.ns : Int) ≤ A) = False := by simp; omega
        have t2' : decide ((s.ns : Int) ≤ A) = false := by simp; omega
        have t2'' : decide (A < (s.ns : Int)) = true := by simp; omega
        simp only [t1'', t2'', Int.toNat_natCast]
        obtain ⟨_, n1, n2, vv, hs2⟩ := HS.out
        have cg := hs2.cg (d := d) (by omega)
        clear hs2
        by_cases hg : s.gone d = true
        rotate_left
        · have hg' : s.gone d = false := by simpa using hg
          simp only [hg'] at cg
          simp only [hg', Bool.and_self, if_true, Bool.false_eq_true, if_false]
          go_enter Try.func37, Try.ntmps37
          go_wp2_with fail
          go_quiet ((go_at_call 22; exact Calls.quiet_of_same (hh.out _)))
          go_wp2_with fail
          go_quiet (fail)
          go_wp2_with fail
          go_ret
          exact ⟨rfl, (HS.out.drewN _).drewN _, (K0.out.drewN _).drewN _, by simp, below_drewN (below_drewN N0.out _) _⟩
        · simp only [hg] at cg
          simp only [hg, Bool.and_self, if_true]
          go_enter Try.func37, Try.ntmps37
          go_wp2_with fail
          go_quiet ((go_at_call 22; exact Calls.quiet_of_same (hh.out _)))
          go_wp2_with fail
          go_quiet (fail)
          go_wp2_with fail
          go_ret
          exact ⟨rfl, (HS.out.drewN _).drewN _, (K0.out.drewN _).drewN _, by simp, below_drewN (below_drewN N0.out _) _⟩
      · have t2 : ((s.ns : Int) ≤ A) = True := by simp; omega
        have t2' : decide ((s.ns : Int) ≤ A) = true := by simp; omega
        have t2'' : decide (A < (s.ns : Int)) = false := by simp; omega
        simp only [t1'', t2'', Bool.and_false, Bool.false_eq_true, if_false]
        go_enter Try.func37, Try.ntmps37
        go_wp2_with fail
        go_quiet ((go_at_call 22; exact Calls.quiet_of_same (hh.out _)))
        go_wp2_with fail
        go_ret
        exact ⟨rfl, HS.out.drewN _, K0.out.drewN _, by simp, below_drewN N0.out _⟩
    · have t1 : (A < 0) = True := by simp; omega
      have t1' : decide (A < 0) = true := by simp; omega
      have t1'' : decide (0 ≤ A) = false := by simp; omega
      simp only [t1'', Bool.and_false, Bool.false_and, Bool.false_eq_true, if_false]
      go_enter Try.func37, Try.ntmps37
      go_wp2_with fail
      go_quiet ((go_at_call 22; exact Calls.quiet_of_same (hh.out _)))
      go_wp2_with fail
      go_ret
      exact ⟨rfl, HS.out.drewN _, K0.out.drewN _, by simp, below_drewN N0.out _⟩
  · have hd' : s.isD D = false := by simpa using hd
    unfold RS.why RS.isP placeV
    simp only [hd'] at hh ⊢
    clear hd hd' h0
    go_enter Try.func37, Try.ntmps37
    go_wp2_with fail
    go_quiet ((go_at_call 22; exact Calls.quiet_of_same (hh.out _)))
    go_wp2_with fail
    go_ret
    exact ⟨rfl, HS.out.drewN _, K0.out.drewN _, by simp, below_drewN N0.out _⟩

end Go.Proofs.Ytlbmeaioiiflkaa
