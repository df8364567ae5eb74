/-
  The walk of 'RackSpoils': rot changes one byte of one sector, and comes undone by the same rot. Conditions: what the reading of the argument gives.
-/
import Derived.Test.YtfdalbaemkekoaaLawArgs
import Derived.Test.YtfdalbaemkekoaaRackSays
import Derived.Test.YtfdalbaemkekoaaRackRot
namespace Go.Proofs.Ytfdalbaemkekoaa
open Go Go.RowKit
set_option linter.unusedVariables false

theorem newIn_putW (W : Nat → Wt) (i : Nat) (X : Nat → Nat) (d a k : Nat) : newIn (putW W i X) d a k = newIn W d a k :=
  newIn_congr fun j _ => by
    unfold putW
    by_cases e : j = i
    · rw [if_pos e, e]; exact ⟨rfl, rfl⟩
    · rw [if_neg e]; exact ⟨rfl, rfl⟩
theorem holds_rotted (s : RS) (d a n d' a' : Nat) : (s.rotted d a n).holds d' a' = if d' = d ∧ a' = a then rotF (s.holds d a) n else s.holds d' a' := by
  cases hi : newIn s.W d a s.nw with
  | some i =>
    rw [rotted_some hi]
    unfold RS.holds
    show (match newIn (putW s.W i _) d' a' s.nw with | some k => (putW s.W i _ k).x | none => s.last d' a') = _
    rw [newIn_putW, hi]
    by_cases e : d' = d ∧ a' = a
    · obtain ⟨rfl, rfl⟩ := e
      rw [if_pos ⟨rfl, rfl⟩, hi]
      show (putW s.W i _ i).x = _
      unfold putW
      rw [if_pos rfl]
    · rw [if_neg e]
      cases hk : newIn s.W d' a' s.nw with
      | none => rfl
      | some k =>
        have h1 := newIn_lt hi
        have h2 := newIn_lt hk
        show (putW s.W i _ k).x = (s.W k).x
        unfold putW
        rw [if_neg (fun x => e (by rw [x] at h2; exact ⟨h2.2.1.symm.trans h1.2.1, h2.2.2.symm.trans h1.2.2⟩))]
  | none =>
    rw [rotted_none hi]
    unfold RS.holds
    show (match newIn s.W d' a' s.nw with | some k => (s.W k).x | none => (if d' = d ∧ a' = a then rotF (s.last d a) n else s.last d' a')) = _
    rw [hi]
    by_cases e : d' = d ∧ a' = a
    · obtain ⟨rfl, rfl⟩ := e
      rw [if_pos ⟨rfl, rfl⟩, hi, if_pos ⟨rfl, rfl⟩]
    · cases hk : newIn s.W d' a' s.nw with
      | none => simp only [if_neg e]
      | some k => simp only [if_neg e]
theorem rotted_same (s : RS) (d a n : Nat) : (s.rotted d a n).nd = s.nd ∧ (s.rotted d a n).ns = s.ns ∧ (s.rotted d a n).gone = s.gone ∧ (s.rotted d a n).off = s.off ∧ (s.rotted d a n).armed = s.armed ∧ (s.rotted d a n).cost = s.cost + 1 ∧ (s.rotted d a n).left = s.left := by
  cases hi : newIn s.W d a s.nw with
  | some i => rw [rotted_some hi]; exact ⟨rfl, rfl, rfl, rfl, rfl, rfl, rfl⟩
  | none => rw [rotted_none hi]; exact ⟨rfl, rfl, rfl, rfl, rfl, rfl, rfl⟩
theorem xor_ne {a t : Nat} (ht : t ≠ 0) : a ^^^ t ≠ a := fun h => by
  have h1 : a ^^^ (a ^^^ t) = a ^^^ a := by rw [h]
  rw [← Nat.xor_assoc, Nat.xor_self, Nat.zero_xor] at h1
  exact ht h1
theorem rot_back (X : Nat → Nat) (n : Nat) : rotF (rotF X n) n = X := by
  funext j
  unfold rotF
  by_cases e : j = n % 128
  · rw [if_pos e, if_pos e, Nat.xor_assoc, Nat.xor_self, Nat.xor_zero]
  · rw [if_neg e, if_neg e]
theorem rot_neg {B : Nat} (w : World) (r : Nat) (s : RS) (D A N : Int) (hN : N < 0) :
    Calls Try.prog 21 #[.pointer (some ⟨r, 0, none⟩), .int .i64 D, .int .i64 A, .int .i64 N] w fun e w' => e = .returned (.int .i64 1) ∧ w' = w := by
  go_enter Try.func21, Try.ntmps21
  go_wp2_with fail
  go_ret
  exact ⟨rfl, rfl⟩
theorem neq_u8 (w : World) {a b : Nat} (h : a ≠ b) : (binOp .neq 5 (.int .u8 (a : Int)) (.int .u8 (b : Int))).run Try.prog w = .ok (.bool true) w := by
  have e : ((a : Int) != (b : Int)) = true := by simp; omega
  rw [show binOp .neq 5 (.int .u8 (a : Int)) (.int .u8 (b : Int)) = pure (.bool ((a : Int) != (b : Int))) from rfl, e]
  rfl
theorem neq_u8_same (w : World) {a b : Nat} (h : a = b) : (binOp .neq 5 (.int .u8 (a : Int)) (.int .u8 (b : Int))).run Try.prog w = .ok (.bool false) w := by
  have e : ((a : Int) != (b : Int)) = false := by simp; omega
  rw [show binOp .neq 5 (.int .u8 (a : Int)) (.int .u8 (b : Int)) = pure (.bool ((a : Int) != (b : Int))) from rfl, e]
  rfl
namespace rackSpoils
structure SInv (s : RS) (at_ c : Nat) (X : Nat → Nat) : Prop where
  nd : s.nd = 2
  ns : s.ns = 6
  calm : s.calm
  gone : ∀ d, s.gone d = false
  cost : s.cost ≤ c
  one : s.holds 1 at_ = X
  zero : s.holds 0 at_ = zeros
theorem SInv.rotted {s : RS} {at_ c : Nat} {X : Nat → Nat} (h : SInv s at_ c X) (n : Nat) : SInv (s.rotted 1 at_ n) at_ (c + 1) (rotF X n) := by
  obtain ⟨e1, e2, e3, e4, e5, e6, e7⟩ := rotted_same s 1 at_ n
  refine ⟨by rw [e1]; exact h.nd, by rw [e2]; exact h.ns, ⟨by rw [e4]; exact h.calm.1, by rw [e5]; exact h.calm.2⟩, fun d => by rw [e3]; exact h.gone d, by rw [e6]; have := h.cost; omega, ?_, ?_⟩
  · rw [holds_rotted, if_pos ⟨rfl, rfl⟩, h.one]
  · rw [holds_rotted, if_neg (by omega)]; exact h.zero
theorem SInv.flushed {s : RS} {at_ c : Nat} {X : Nat → Nat} (h : SInv s at_ c X) : SInv s.flushed at_ c X :=
  ⟨h.nd, h.ns, h.calm, h.gone, h.cost, by rw [holds_flushed]; exact h.one, by rw [holds_flushed]; exact h.zero⟩
theorem SInv.start (at_ : Nat) (X : Nat → Nat) : SInv ((RS.new 2 6).wrote 1 at_ X) at_ 1 X :=
  ⟨rfl, rfl, ⟨rfl, rfl⟩, fun _ => rfl, Nat.le_refl _, by rw [holds_wrote, if_pos ⟨rfl, rfl⟩], by rw [holds_wrote, if_neg (by omega)]; rfl⟩
theorem ushr (a : Int) : ∃ n : Nat, wrap64 (IntKind.u64.wrap a / 2) = (n : Int) ∧ n ≤ 9223372036854775807 := by
  have h0 : 0 ≤ IntKind.u64.wrap a ∧ IntKind.u64.wrap a < 18446744073709551616 := by rw [IntKind.wrap_u64]; omega
  generalize IntKind.u64.wrap a = y at *
  refine ⟨(y / 2).toNat, ?_, by omega⟩
  unfold wrap64
  omega
theorem umod (a k : Int) (hk : 0 < k) (hk2 : k ≤ 1000000) : ∃ n : Nat, wrap64 ((IntKind.u64.wrap a).tmod k) = (n : Int) ∧ (n : Int) < k := by
  have h0 : 0 ≤ IntKind.u64.wrap a := by rw [IntKind.wrap_u64]; omega
  have h1 := Int.tmod_nonneg k h0
  have h2 := Int.tmod_lt_of_pos (IntKind.u64.wrap a) hk
  refine ⟨((IntKind.u64.wrap a).tmod k).toNat, ?_, by omega⟩
  generalize (IntKind.u64.wrap a).tmod k = y at *
  unfold wrap64
  omega

end rackSpoils
end Go.Proofs.Ytfdalbaemkekoaa
