/-
  'rack.powered' and 'rack.Arm' by contracts. Conditions: the rack is one.
-/
import Derived.Test.YtlbmeaioiiflkaaRackHas
namespace Go.Proofs.Ytlbmeaioiiflkaa
open Go.RowKit
set_option linter.unusedVariables false

/-- is there power for one more? -/
def RS.pow (s : RS) : Bool := !s.off && (!s.armed || !decide (s.left = 0))
def RS.spent (s : RS) : RS := if s.off then s else if !s.armed then s else if s.left = 0 then { s with off := true } else { s with left := s.left - 1 }

set_option maxRecDepth 100000 in
set_option maxHeartbeats 800000 in
theorem powered_w {B m1 m2 : Nat} {v : Value} (w : World) (r : Nat) (s : RS) (h0 : s.ok) (h : RackW B w r m1 m2 v s) :
    Calls Try.prog 20 #[.pointer (some ⟨r, 0, none⟩)] w fun e w' => e = .returned (.bool s.pow) ∧ (s.spent.ok ∧ RackW B w' r m1 m2 v s.spent) ∧ Keep B w w' ∧ w.grownBy w' (some r) := by
  have c21 := h.c21
  have c22 := h.c22
  have c23 := h.c23
  have f21 := h.frozen 21
  have f23 := h.frozen 23
  have hleft := h0.left
  have H0 := Lib.hid h0
  have HW := Lib.hid h
  have K0 := Lib.hid (Keep.refl B w)
  clear h0 h
  by_cases ho : s.off = true
  · simp only [ho] at c21
    have e1 : s.pow = false := by simp [RS.pow, ho]
    have e2 : s.spent = s := by simp [RS.spent, ho]
    rw [e1, e2]
    go_enter Try.func20, Try.ntmps20
    go_wp2_with fail
    go_ret
    exact ⟨rfl, ⟨H0.out, HW.out⟩, K0.out, World.grownBy.refl _ _⟩
  · have ho' : s.off = false := by simpa using ho
    simp only [ho'] at c21
    by_cases ha : s.armed = true
    · simp only [ha] at c22
      by_cases hl : s.left = 0
      · have e1 : s.pow = false := by simp [RS.pow, ho', ha, hl]
        have e2 : s.spent = { s with off := true } := by simp [RS.spent, ho', ha, hl]
        rw [hl] at c23
        rw [e1, e2]
        go_enter Try.func20, Try.ntmps20
        go_wp2_with fail
        go_ret
        refine ⟨rfl, ⟨⟨H0.out.nd1, H0.out.nd2, H0.out.ns1, H0.out.ns2, H0.out.left, H0.out.cost, H0.out.wp, H0.out.lp⟩, HW.out.put (i := 21) (by omega) rfl ?_ rfl rfl rfl rfl⟩, K0.out.setRack HW.out.blk HW.out.hr 21 _, grown_set _ _ _ _⟩
        intro j hj hne
        unfold rackCell
        simp [hne]
      · have t1 : ((s.left : Int) = 0) = False := by simp; exact hl
        have t2 : ((s.left : Int) == 0) = false := by simp; exact hl
        have t3 : decide ((s.left : Int) = 0) = false := by simp; exact hl
        have t4 : IntKind.i64.wrap ((s.left : Int) - 1) = ((s.left - 1 : Nat) : Int) := by
          rw [show (s.left : Int) - 1 = ((s.left - 1 : Nat) : Int) by omega]
          rw [IntKind.wrap_i64]; omega
        have e1 : s.pow = true := by simp [RS.pow, ho', ha, hl]
        have e2 : s.spent = { s with left := s.left - 1 } := by simp [RS.spent, ho', ha, hl]
        rw [e1, e2]
        go_enter Try.func20, Try.ntmps20
        go_wp2_with fail
        go_ret
        refine ⟨rfl, ⟨⟨H0.out.nd1, H0.out.nd2, H0.out.ns1, H0.out.ns2, Nat.le_trans (Nat.sub_le _ _) H0.out.left, H0.out.cost, H0.out.wp, H0.out.lp⟩, HW.out.put (i := 23) (by omega) rfl ?_ rfl rfl rfl rfl⟩, K0.out.setRack HW.out.blk HW.out.hr 23 _, grown_set _ _ _ _⟩
        intro j hj hne
        unfold rackCell
        by_cases h1 : j = 21
        · subst h1; rfl
        by_cases h2 : j = 22
        · subst h2; rfl
        by_cases h3 : j < 21
        · simp [h3]
        · omega
    · have ha' : s.armed = false := by simpa using ha
      simp only [ha'] at c22
      have e1 : s.pow = true := by simp [RS.pow, ho', ha']
      have e2 : s.spent = s := by simp [RS.spent, ho', ha']
      rw [e1, e2]
      go_enter Try.func20, Try.ntmps20
      go_wp2_with fail
      go_ret
      exact ⟨rfl, ⟨H0.out, HW.out⟩, K0.out, World.grownBy.refl _ _⟩

theorem powered_any {B : Nat} (w : World) (r : Nat) (s : RS) (h : RackAt B w r s) :
    Calls Try.prog 20 #[.pointer (some ⟨r, 0, none⟩)] w fun e w' => e = .returned (.bool s.pow) ∧ RackAt B w' r s.spent ∧ Keep B w w' ∧ w.grownBy w' (some r) := by
  obtain ⟨h0, m1, m2, v, h⟩ := h
  exact (powered_w w r s h0 h).mono fun e w' ⟨h1, h2, h3⟩ => ⟨h1, ⟨h2.1, m1, m2, v, h2.2⟩, h3⟩

/-- behind Arm(n) -/
def RS.arm (s : RS) (n : Int) : RS := { s with armed := decide (0 ≤ n), left := n.toNat }
set_option maxRecDepth 100000 in
set_option maxHeartbeats 800000 in
theorem arm_any {B : Nat} (w : World) (r : Nat) (s : RS) (n : Int) (hn : n ≤ 9223372036854775807) (h : RackAt B w r s) :
    Calls Try.prog 28 #[.pointer (some ⟨r, 0, none⟩), .int .i64 n] w fun e w' => e = .returned (.tuple #[]) ∧ RackAt B w' r (s.arm n) ∧ Keep B w w' := by
  obtain ⟨h0, m1, m2, v, h⟩ := h
  have f22 := h.frozen 22
  have f23 := h.frozen 23
  have c22 := h.c22
  have c23 := h.c23
  have b1 : ∀ b : Bool, RackW B (w.setCell ⟨r, 22, none⟩ (.bool b)) r m1 m2 v { s with armed := b } := by
    intro b
    refine h.put (i := 22) (by omega) rfl ?_ rfl rfl rfl rfl
    intro j hj hne
    unfold rackCell
    simp [hne]
  have b2 : ∀ (b : Bool) (l : Nat), RackW B ((w.setCell ⟨r, 22, none⟩ (.bool b)).setCell ⟨r, 23, none⟩ (.int .i64 (l : Int))) r m1 m2 v { s with armed := b, left := l } := by
    intro b l
    refine (b1 b).put (i := 23) (by omega) rfl ?_ rfl rfl rfl rfl
    intro j hj hne
    unfold rackCell
    by_cases h1 : j = 21
    · subst h1; rfl
    by_cases h2 : j = 22
    · subst h2; rfl
    by_cases h3 : j < 21
    · simp [h3]
    · omega
  have k2 : ∀ (b : Bool) (l : Nat), Keep B w ((w.setCell ⟨r, 22, none⟩ (.bool b)).setCell ⟨r, 23, none⟩ (.int .i64 (l : Int))) := fun b l => ((Keep.refl B w).setRack h.blk h.hr 22 (.bool b)).setRack (b1 b).blk h.hr 23 _
  have B2 := Lib.hid b2
  have K2 := Lib.hid k2
  have H0 := Lib.hid h0
  clear h h0 b1 b2 k2
  unfold RS.arm
  by_cases hn0 : 0 ≤ n
  · obtain ⟨l, rfl⟩ : ∃ l : Nat, n = (l : Int) := ⟨n.toNat, by omega⟩
    have t1 : ((l : Int) < 0) = False := by simp
    have t2 : decide (0 ≤ (l : Int)) = true := by simp
    simp only [t2, Int.toNat_natCast]
    go_enter Try.func28, Try.ntmps28
    go_wp2_with fail
    go_end0
    exact ⟨rfl, ⟨⟨H0.out.nd1, H0.out.nd2, H0.out.ns1, H0.out.ns2, by show l ≤ _; omega, H0.out.cost, H0.out.wp, H0.out.lp⟩, m1, m2, v, B2.out true l⟩, K2.out true l⟩
  · have t1 : (n < 0) = True := by simp; omega
    have t2 : decide (0 ≤ n) = false := by simp; omega
    have t3 : (0 ≤ n) = False := by simp; omega
    have t4 : n.toNat = 0 := by omega
    simp only [t2, t4]
    go_enter Try.func28, Try.ntmps28
    go_wp2_with fail
    go_end0
    exact ⟨rfl, ⟨⟨H0.out.nd1, H0.out.nd2, H0.out.ns1, H0.out.ns2, Nat.zero_le _, H0.out.cost, H0.out.wp, H0.out.lp⟩, m1, m2, v, B2.out false 0⟩, K2.out false 0⟩
end Go.Proofs.Ytlbmeaioiiflkaa
