/-
  The walk of 'RackPlaces': a rack has as many drives and sectors as were asked for, and no others. Conditions: what the reading of the argument gives.
-/
import Derived.Test.YtfdalbaemkekoaaRackSpoilsWalk
namespace Go.Proofs.Ytfdalbaemkekoaa
open Go Go.RowKit
set_option linter.unusedVariables false

set_option maxRecDepth 100000 in
theorem new_no (w : World) (D S : Int) (hbad : D < 1 ∨ 16 < D ∨ S < 1 ∨ 2000 < S) :
    Calls Try.prog 12 #[.int .i64 D, .int .i64 S] w fun e w' => e = .returned (.tuple #[.pointer none, .int .i64 1]) ∧ w' = w := by
  rcases (by omega : D < 1 ∨ (1 ≤ D ∧ 16 < D) ∨ (1 ≤ D ∧ D ≤ 16 ∧ S < 1) ∨ (1 ≤ D ∧ D ≤ 16 ∧ 1 ≤ S ∧ 2000 < S)) with h | ⟨h1, h2⟩ | ⟨h1, h2, h3⟩ | ⟨h1, h2, h3, h4⟩
  all_goals
    clear hbad
    go_enter Try.func12, Try.ntmps12
    go_wp2_with fail
    go_ret2
    exact ⟨rfl, rfl⟩
set_option maxRecDepth 100000 in
set_option maxHeartbeats 800000 in
theorem rot_why {B : Nat} (w : World) (r : Nat) (s : RS) (D A : Int) (n : Int) (h : RackAt B w r s) (hn : 0 ≤ n) (hw : s.why D A ≠ 0) :
    Calls Try.prog 21 #[.pointer (some ⟨r, 0, none⟩), .int .i64 D, .int .i64 A, .int .i64 n] w fun e w' => e = .returned (.int .i64 (s.why D A)) ∧ RackAt B w' r s ∧ Keep B w w' := by
  have H1 := Lib.hid (h.alloc (.cells #[.int .i64 D, .int .i64 A] 59))
  have K1 := Lib.hid ((Keep.refl B w).alloc h.le (.cells #[.int .i64 D, .int .i64 A] 59))
  have hz := zero_sector
  clear h
  go_enter Try.func21, Try.ntmps21
  go_wp2_with fail
  refine (reach_any _ r s D A H1.out).mono ?_
  rintro e w2 ⟨rfl, h2, k2, _, _⟩
  have H2 := Lib.hid h2
  have K2 := Lib.hid (K1.out.trans k2)
  clear h2 k2
  generalize hy : s.why D A = y at *
  have HY := Lib.hid hy
  clear hy
  have t1 : (y = 0) = False := by simp [hw]
  go_wp2_with fail
  go_ret
  rw [HY.out]
  exact ⟨rfl, H2.out, K2.out⟩
theorem eqG_bool (op : BinOp) (t : TypeId) (x y : Operand) (i j : Bool) (P : Program) (w : World) : (eqGuard op t x y (.bool i) (.bool j)).run P w = .ok () w := by
  unfold eqGuard
  cases op <;> rfl
theorem exec_un {P : Program} {a : Act} {o : Oper} {op : UnOp} {t : TypeId} {x : Operand} {u v : Value} (w : World) (e : o.op = .unOp op t x) (hx : a.eval x = u) (hf : (Op.unary op u).run P w = .ok v w) : (execOp a.eval o).run P w = .ok (.value v) w := by
  unfold execOp; simp only [e, hx, hf, Sem.run_bind, Sem.run_pure, Result.andThen_ok]
theorem gone_is {B : Nat} (w : World) (r : Nat) (s : RS) (D : Int) (b : Bool) (h : RackAt B w r s) (hb : (s.isD D && s.gone D.toNat) = b) :
    Calls Try.prog 10 #[.pointer (some ⟨r, 0, none⟩), .int .i64 D] w fun e w' => e = .returned (.bool b) ∧ w' = w := by
  subst hb
  exact gone_any w r s D h
theorem write_is {B : Nat} (w : World) (r : Nat) (s : RS) (D A : Int) (y : Int) (v : Option Addr) (c : Nat) (h : RackAt B w r s) (hy : s.why D A = y) (hw : y ≠ 0) :
    Calls Try.prog 17 #[.pointer (some ⟨r, 0, none⟩), .int .i64 D, .int .i64 A, .slice v 128 c] w fun e w' => e = .returned (.int .i64 y) ∧ RackAt B w' r s ∧ Keep B w w' := by
  subst hy
  exact write_why w r s D A v c h hw
theorem rot_is {B : Nat} (w : World) (r : Nat) (s : RS) (D A : Int) (n y : Int) (h : RackAt B w r s) (hn : 0 ≤ n) (hy : s.why D A = y) (hw : y ≠ 0) :
    Calls Try.prog 21 #[.pointer (some ⟨r, 0, none⟩), .int .i64 D, .int .i64 A, .int .i64 n] w fun e w' => e = .returned (.int .i64 y) ∧ RackAt B w' r s ∧ Keep B w w' := by
  subst hy
  exact rot_why w r s D A n h hn hw
namespace rackPlaces
end rackPlaces
end Go.Proofs.Ytfdalbaemkekoaa
