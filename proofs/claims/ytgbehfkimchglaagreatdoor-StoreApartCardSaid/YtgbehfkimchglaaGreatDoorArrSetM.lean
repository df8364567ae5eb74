/-
 'hoardref02.Det' by a contract: a determinant by the first row. Conditions: the rows read as rows of as many bytes as there are rows, eight at most.
-/
import Derived.Test.YtgbehfkimchglaaGreatDoorDetColsM
import Derived.Test.YtgbehfkimchglaaGreatDoorDetMath
import Derived.Test.YtgbehfkimchglaaGreatDoorArrCellM
import Derived.Deep.QuietTactic
import Derived.BigQuiet
import Derived.Test.YtgbehfkimchglaaGreatDoorRows
import Derived.WalkKit
import Derived.Lib.Hide
import Derived.Test.YtgbehfkimchglaaGreatDoorParAddM
import Derived.Test.YtgbehfkimchglaaGreatDoorArrMathM
import Derived.Test.YtgbehfkimchglaaGreatDoorParWholeM
import Derived.Test.YtgbehfkimchglaaGreatDoorRackPowerM
import Derived.Deep.DeepCutAuto
namespace Go.Proofs.YtgbehfkimchglaaGreatDoor
open Go Go.RowKit
set_option maxRecDepth 100000
set_option linter.unusedVariables false
namespace det
end det
end Go.Proofs.YtgbehfkimchglaaGreatDoor
namespace Go.Proofs.YtgbehfkimchglaaGreatDoor
set_option maxRecDepth 100000
open Go.RowKit
end Go.Proofs.YtgbehfkimchglaaGreatDoor
namespace Go.Proofs.YtgbehfkimchglaaGreatDoor
open Go Go.RowKit
set_option maxRecDepth 100000
set_option linter.unusedVariables false
namespace det
theorem wpList_append_hd {w : World} {ops : Array Oper} {rest : List Oper} {o : Oper} {a : Act} {Q : Exit → Act → World → Prop} (hgd : o.guard = none) (s x : Operand)
  (ho : o.op = .call { callee := .builtin .append, args := #[s, x], argTypes := #[189, 189] }) {base n B m c : Nat} {v : Value} {A : Option Addr} {X Y : Nat → Hd} (hs : a.eval s = v) (hx : a.eval x = .slice A m c)
  (hown : OwnS w base v n X) (hy : RdH w B A m Y) (h0 : A = none → c = 0) (hmc : m ≤ c) (hl : n + m ≤ 100000) (hb : base ≤ w.heap.size)
  (h : ∀ v' w', OwnS w' base v' (n + m) (catS n X Y) → w.grownBy w' v.ownBlock → (v'.ownBlock = v.ownBlock ∨ v'.ownBlock = some w.heap.size) → wpList Tryz.prog ops Q rest (a.put o.dst v') w') : wpList Tryz.prog ops Q (o :: rest) a w := by
 refine wpList_plain hgd fun K hK => ?_
 obtain ⟨v', w', hrun, h1, h2, h3⟩ := run_append_hd o.type hown hy h0 hmc hl hb
 unfold Oper.wp execOp
 simp only [ho, resolve, invoke, builtin, Sem.run_bind, Sem.run_pure, Result.andThen_ok, List.map_toArray, List.map_cons, List.map_nil, hs, hx, hrun]
 exact hK _ _ (h v' w' h1 h2 h3)
def solX (n : Nat) (x : Nat → Nat → Nat) (y : Nat → Nat) (k : Nat) : Nat := M.gmul (M.ginv (M.det n x)) (M.det n (M.setc x k y))
inductive DSolved (w w' : World) (n : Nat) (x : Nat → Nat → Nat) (y : Nat → Nat) : Ending → Prop where
 | one (v : Value) (h : M.det n x ≠ 0) (ho : Own8 w' w.heap.size v n (solX n x y)) : DSolved w w' n x y (.returned (.tuple #[v, .int .i64 0]))
 | none (h : M.det n x = 0) : DSolved w w' n x y (.returned (.tuple #[.slice none 0 0, .int .i64 7]))
end det
end Go.Proofs.YtgbehfkimchglaaGreatDoor
namespace Go.Proofs.YtgbehfkimchglaaGreatDoor
set_option maxRecDepth 100000
open Go Go.RowKit
set_option linter.unusedVariables false
namespace det
def cutM (n : Nat) (x : Nat → Nat → Nat) (i j : Nat) : Nat := if i < n ∧ j < n then x i j else 0
def cutV (n : Nat) (y : Nat → Nat) (i : Nat) : Nat := if i < n then y i else 0
theorem cutM_lt {n : Nat} {x : Nat → Nat → Nat} (hx : ∀ i, i < n → ∀ j, j < n → x i j < 256) (i j : Nat) : cutM n x i j < 256 := by
 unfold cutM
 split
 ·rename_i h; exact hx i h.1 j h.2
 ·omega
theorem cutV_lt {n : Nat} {y : Nat → Nat} (hy : ∀ i, i < n → y i < 256) (i : Nat) : cutV n y i < 256 := by
 unfold cutV
 split
 ·rename_i h; exact hy i h
 ·omega
theorem cutM_in {n : Nat} (x : Nat → Nat → Nat) {i j : Nat} (hi : i < n) (hj : j < n) : cutM n x i j = x i j := if_pos ⟨hi, hj⟩
theorem cutV_in {n : Nat} (y : Nat → Nat) {i : Nat} (hi : i < n) : cutV n y i = y i := if_pos hi
theorem det_cut (n : Nat) (x : Nat → Nat → Nat) : M.det n (cutM n x) = M.det n x := M.det_congr n _ _ fun i hi j hj => cutM_in x hi hj
theorem det_cut2 (n k : Nat) (x : Nat → Nat → Nat) (y : Nat → Nat) : M.det n (M.setc (cutM n x) k (cutV n y)) = M.det n (M.setc x k y) := M.det_congr n _ _ fun i hi j hj => by
 unfold M.setc
 by_cases h : j = k
 ·rw [if_pos h, if_pos h, cutV_in y hi]
 ·rw [if_neg h, if_neg h, cutM_in x hi hj]
theorem comb_is {n i : Nat} (x : Nat → Nat → Nat) (v : Nat → Nat) (hi : i < n) : M.comb n (cutM n x) (cutV n v) i = M.xsum n (fun k => M.gmul (x i k) (v k)) := M.xsum_congr fun j hj => by
 rw [cutM_in x hi hj, cutV_in v hj, M.gmul_comm]
theorem tell_one {n : Nat} {x : Nat → Nat → Nat} {y X : Nat → Nat} (hx : ∀ i, i < n → ∀ j, j < n → x i j < 256) (hy : ∀ i, i < n → y i < 256) (hX : ∀ i, i < n → X i < 256)
  (hs : ∀ z, M.SmallV n z → (M.Sol n (joinM n x y) z ↔ ∀ i, i < n → z i = M.gmul (X i) (z n))) : M.det n x ≠ 0 ∧ ∀ k, k < n → solX n x y k = X k := by
 have hd : M.det n x ≠ 0 := fun h0 => by
  rw [← det_cut] at h0
  obtain ⟨z, hz, ⟨j, hj, hne⟩, hker⟩ := M.ker_of_det n (cutM n x) (cutM_lt hx) h0
  have hzi : ∀ i, i < n → M.xsum n (fun k => M.gmul (x i k) (z k)) = 0 := fun i hi => by
   rw [← hker i hi]
   exact M.xsum_congr fun j hj => by rw [cutM_in x hi hj, M.gmul_comm]
  have h1 := (hs (vec n z 0) (vec_small (fun j _ => hz j) (by omega))).1 (fun i hi => by rw [dot_vec, hzi i hi, M.gmul_zero_right, Nat.xor_self]) j hj
  rw [vec_last, M.gmul_zero_right] at h1
  unfold vec at h1
  rw [if_pos hj] at h1
  exact hne h1
 refine ⟨hd, fun k hk => ?_⟩
 have hsol := (hs (vec n X 1) (vec_small hX (by omega))).2 fun i hi => by
  rw [vec_last, M.gmul_one (hX i hi)]
  unfold vec
  rw [if_pos hi]
 have hyi : ∀ i, i < n → y i = M.xsum n (fun k => M.gmul (x i k) (X k)) := fun i hi => by
  have h := hsol i hi
  rw [dot_vec, M.gmul_one (hy i hi)] at h
  have h2 := congrArg (fun t => t ^^^ y i) h
  simp only [Nat.xor_assoc, Nat.xor_self, Nat.xor_zero, Nat.zero_xor] at h2
  exact h2.symm
 have hc := M.cramer (x := cutV n X) (y := cutV n y) hk (cutM_lt hx) (cutV_lt hX) fun i hi => by rw [comb_is x X hi, cutV_in y hi, hyi i hi]
 rw [det_cut2, det_cut, cutV_in X hk] at hc
 unfold solX
 rw [hc, M.gmul_comm (X k), M.gmul_assoc, M.gmul_comm (M.ginv _), M.gmul_ginv (M.det_lt _ _) hd, M.gmul_comm, M.gmul_one (hX k hk)]
end det
end Go.Proofs.YtgbehfkimchglaaGreatDoor
set_option linter.unusedVariables false
namespace Go.Proofs.YtgbehfkimchglaaGreatDoor.M
set_option maxRecDepth 100000
theorem sweep {n : Nat} {m : Nat → Nat → Nat} (hm : Small n m) (hker : ∀ z, SmallV n z → z n = 0 → Sol n m z → ∀ j, j < n → z j = 0) :
  ∀ k, k ≤ n → ∃ m', Small n m' ∧ Units n m' k ∧ ∀ z, SmallV n z → (Sol n m' z ↔ Sol n m z)
 | 0, _ => ⟨m, hm, fun j hj => absurd hj (by omega), fun _ _ => Iff.rfl⟩
 | k + 1, h => by
  obtain ⟨m', h1, h2, h3⟩ := sweep hm hker k (by omega)
  have hk : k < n := by omega
  by_cases hp : ∃ p, k ≤ p ∧ p < n ∧ m' p k ≠ 0
  ·obtain ⟨p, hp1, hp2, hp3⟩ := hp
   have hs : Small n (fun i => m' (swapR k p i)) := fun i hi j hj => h1 _ (swapR_lt hk hp2 hi) j hj
   have hu := units_swap hk hp2 hp1 h2
   refine ⟨elim (fun i => m' (swapR k p i)) k, elim_small hk hs, units_elim hk hs hu ?_, fun z hz => ?_⟩
   ·show m' (swapR k p k) k ≠ 0
    rw [show swapR k p k = p from if_pos rfl]
    exact hp3
   ·rw [sol_elim hk hs hz, sol_swap hk hp2, h3 z hz]
  ·have hz0 : ∀ i, k ≤ i → i < n → m' i k = 0 := fun i hi hin => Classical.byContradiction fun hne => hp ⟨i, hi, hin, hne⟩
   have hks := kern_small hk h1
   have hkn : kern m' k n = 0 := by unfold kern; rw [if_neg (by omega), if_neg (by omega)]
   have h4 := hker _ hks hkn ((h3 _ hks).1 (kern_sol hk h1 h2 hz0)) k hk
   unfold kern at h4
   rw [if_neg (by omega), if_pos rfl] at h4
   omega
end Go.Proofs.YtgbehfkimchglaaGreatDoor.M
namespace Go.Proofs.YtgbehfkimchglaaGreatDoor
open Go Go.RowKit
namespace det
theorem solved {n : Nat} {F : Nat → Nat → Nat} {s : Nat → Nat} (hF : ∀ y x, F y x < 256) (hs : ∀ y, y < n → s y < 256) {G : Nat → Nat → Nat} (h : M.Undo n G F) :
  M.det n F ≠ 0 ∧ (∀ x, x < n → solX n F s x < 256) ∧ ∀ y, y < n → M.xsum n (fun x => M.gmul (F y x) (solX n F s x)) = s y := by
 have hm : M.Small n (joinM n F s) := fun i hi j hj => by
  unfold joinM
  split
  ·exact hF _ _
  ·exact hs i hi
 have hd : ∀ z : Nat → Nat, ∀ i, M.dot (n + 1) (joinM n F s i) z = M.xsum n (fun x => M.gmul (F i x) (z x)) ^^^ M.gmul (s i) (z n) := fun z i => by
  show M.xsum n (fun j => M.gmul (joinM n F s i j) (z j)) ^^^ M.gmul (joinM n F s i n) (z n) = _
  rw [show joinM n F s i n = s i from if_neg (by omega)]
  congr 1
  exact M.xsum_congr fun j hj => by unfold joinM; rw [if_pos hj]
 have hker : ∀ z, M.SmallV n z → z n = 0 → M.Sol n (joinM n F s) z → ∀ j, j < n → z j = 0 := fun z hz h0 hsol => M.undo_zero hF h (fun x hx => hz x (by omega)) fun y hy => by
  have h1 := hsol y hy
  rw [hd, h0, M.gmul_zero_right, Nat.xor_zero] at h1
  exact h1
 obtain ⟨m', hm', hu, he⟩ := M.sweep hm hker n (Nat.le_refl n)
 obtain ⟨X, hXe⟩ : ∃ X : Nat → Nat, X = fun i => m' i n := ⟨_, rfl⟩
 have hX : ∀ i, i < n → X i < 256 := fun i hi => by rw [hXe]; exact hm' i hi n (Nat.le_refl n)
 have hiff : ∀ z, M.SmallV n z → (M.Sol n (joinM n F s) z ↔ ∀ i, i < n → z i = M.gmul (X i) (z n)) := fun z hz => by rw [← he z hz, M.sol_done hu hz, hXe]
 obtain ⟨h1, h2⟩ := tell_one (fun i _ j _ => hF i j) hs hX hiff
 refine ⟨h1, fun x hx => by rw [h2 x hx]; exact hX x hx, fun y hy => ?_⟩
 have hsol := (hiff (vec n X 1) (vec_small hX (by omega))).2 fun i hi => by
  rw [vec_last, M.gmul_one (hX i hi)]
  unfold vec
  rw [if_pos hi]
 have h3 := hsol y hy
 rw [dot_vec, M.gmul_one (hs y hy)] at h3
 have h4 := congrArg (fun t => t ^^^ s y) h3
 simp only [Nat.xor_assoc, Nat.xor_self, Nat.xor_zero, Nat.zero_xor] at h4
 rw [← h4]
 exact M.xsum_congr fun x hx => by rw [h2 x hx]
end det
section
variable {k q v : Nat} {l j : Nat → Nat} {X : Nat → Nat → Nat} (hq : q ≤ 3) (hk : k ≤ 13)
 (hl : ∀ x y, x < y → y < q → l x < l y) (hl2 : ∀ x, x < q → l x < k) (hj : ∀ x y, x < y → y < q → j x < j y) (hj2 : ∀ x, x < q → j x < 3)
 (hX : ∀ i, i < k + 3 → X i v < 256)
include hq hk hl hl2 hj hj2 hX
end
end Go.Proofs.YtgbehfkimchglaaGreatDoor
namespace Go.Proofs.YtgbehfkimchglaaGreatDoor
open Go Go.RowKit
set_option maxRecDepth 100000
set_option linter.unusedVariables false
end Go.Proofs.YtgbehfkimchglaaGreatDoor
namespace Go.Proofs.YtgbehfkimchglaaGreatDoor
open Go Go.RowKit
set_option maxRecDepth 100000
set_option linter.unusedVariables false
end Go.Proofs.YtgbehfkimchglaaGreatDoor
namespace Go.Proofs.YtgbehfkimchglaaGreatDoor
open Go Go.RowKit
set_option maxRecDepth 100000
set_option linter.unusedVariables false
end Go.Proofs.YtgbehfkimchglaaGreatDoor
namespace Go.Proofs.YtgbehfkimchglaaGreatDoor
open Go Go.RowKit
set_option maxRecDepth 100000
set_option linter.unusedVariables false
structure Split (k m q : Nat) (bz : Nat → Int) : Prop where
 le : q ≤ m
 lo : ∀ i, i < q → bz i < (k : Int)
 hi : ∀ i, q ≤ i → i < m → (k : Int) ≤ bz i
section
variable {k m q : Nat} {bz : Nat → Int} {N : Int}
end
end Go.Proofs.YtgbehfkimchglaaGreatDoor
namespace Go.Proofs.YtgbehfkimchglaaGreatDoor
open Go Go.RowKit
set_option maxRecDepth 100000
set_option linter.unusedVariables false
end Go.Proofs.YtgbehfkimchglaaGreatDoor
namespace Go.Proofs.YtgbehfkimchglaaGreatDoor
open Go Go.RowKit
set_option maxRecDepth 100000
set_option linter.unusedVariables false
namespace docReb
structure Cnt (q i t : Nat) (bz : Nat → Int) : Prop where
 le : t ≤ q
 lo : ∀ a, a < t → bz a < (i : Int)
 hi : ∀ a, t ≤ a → a < q → (i : Int) ≤ bz a
end docReb
end Go.Proofs.YtgbehfkimchglaaGreatDoor
namespace Go.Proofs.YtgbehfkimchglaaGreatDoor
open Go Go.RowKit
set_option maxRecDepth 100000
set_option linter.unusedVariables false
structure Refused (K cd m c B B2 : Nat) (A A2 : Option Addr) (ra : Nat → Option Addr) (rl rc : Nat → Nat) (x : Nat → Nat → Nat) (bz : Nat → Int) (er : Int) : Prop where
 ne : er ≠ 0
 doc : ∀ W, RdR W B A K ra rl rc x → RdZ W B2 A2 m bz → Calls Tryz.prog 234 #[.slice A K cd, .slice A2 m c] W fun e w' => e = .returned (.int .i64 er) ∧ ∃ d, w' = W.drewN d
 prg : ∀ W, RdR W B A K ra rl rc x → RdZ W B2 A2 m bz → Calls Tryz.prog 243 #[.slice A K cd, .slice A2 m c] W fun e w' => e = .returned (.int .i64 er) ∧ W = w'
end Go.Proofs.YtgbehfkimchglaaGreatDoor
namespace Go.Proofs.YtgbehfkimchglaaGreatDoor
open Go Go.RowKit
set_option maxRecDepth 100000
set_option linter.unusedVariables false
end Go.Proofs.YtgbehfkimchglaaGreatDoor
namespace Go.Proofs.YtgbehfkimchglaaGreatDoor
open Go Go.RowKit
set_option maxRecDepth 100000
set_option linter.unusedVariables false
namespace Arr
open Classical in
def pi (k i : Nat) : Nat := if i < k then i + 3 else i - k
def plc (k : Nat) (bd : Nat → Bool) : List Nat := trueL (fun i => bd (pi k i)) (k + 3)
section
variable {k n : Nat} {bd : Nat → Bool} {x D : Nat → Nat → Nat} (hk : k ≤ 13) (hm : (plc k bd).length ≤ 3)
include hk hm
end
end Arr
end Go.Proofs.YtgbehfkimchglaaGreatDoor
namespace Go.Proofs.YtgbehfkimchglaaGreatDoor
open Go Go.RowKit
set_option maxRecDepth 100000
set_option linter.unusedVariables false
namespace Arr
open Cc
end Arr
end Go.Proofs.YtgbehfkimchglaaGreatDoor
namespace Go.Proofs.YtgbehfkimchglaaGreatDoor
open Go Go.RowKit refRack
set_option maxRecDepth 100000
set_option linter.unusedVariables false
namespace Arr
open Cc
section
variable {B a r f : Nat} {w w' : World} {s s' : RS}
end
end Arr
end Go.Proofs.YtgbehfkimchglaaGreatDoor
namespace Go.Proofs.YtgbehfkimchglaaGreatDoor
open Go Go.RowKit
set_option maxRecDepth 100000
set_option linter.unusedVariables false
namespace Arr
section
variable {F : List Nat → Bool}
end
section
variable {w : World} {base : Nat} {v : Value} {l : List Nat}
end
end Arr
end Go.Proofs.YtgbehfkimchglaaGreatDoor
namespace Go.Proofs.YtgbehfkimchglaaGreatDoor
open Go Go.RowKit
set_option maxRecDepth 100000
set_option linter.unusedVariables false
namespace Arr
def Up (m0 : Nat) (w w' : World) : Prop := w.heap.size ≤ w'.heap.size ∧ ∀ g, m0 ≤ g → g < w.heap.size → w'.heap[g]? = w.heap[g]?
structure FitsC (m0 M : Nat) (I : World → Prop) (F : List Nat → Bool) (J : List Nat → World → Prop) (lb : Array Value) : Prop where
 size : ∀ w, I w → m0 ≤ w.heap.size
 keep : ∀ w w', I w → Below m0 w w' → I w'
 call : ∀ w v p, I w → Sq.Ints w.heap.size w v (Sq.ints p) → p.length ≤ M → Calls Tryz.prog 124 (#[v] ++ lb) w fun e w' => e = .returned (.bool (F p)) ∧ I w' ∧ Up m0 w w' ∧ (F p = true → J p w')
theorem addA (k : Nat) (h : k ≤ 1000000) (w : World) : (binOp .add 3 (.int .i64 (k : Int)) (.int .i64 1)).run Tryz.prog w = .ok (.int .i64 ((k + 1 : Nat) : Int)) w := by
 rw [show binOp .add 3 (.int .i64 (k : Int)) (.int .i64 1) = pure (.int .i64 (IntKind.i64.wrap ((k : Int) + 1))) from rfl, IntWalk.i64_in _ (by omega)]
 rfl
theorem subA (k : Nat) (h : k ≤ 1000000) (w : World) : (binOp .sub 3 (.int .i64 ((k + 1 : Nat) : Int)) (.int .i64 1)).run Tryz.prog w = .ok (.int .i64 (k : Int)) w := by
 rw [show binOp .sub 3 (.int .i64 ((k + 1 : Nat) : Int)) (.int .i64 1) = pure (.int .i64 (IntKind.i64.wrap (((k + 1 : Nat) : Int) - 1))) from rfl, IntWalk.i64_in _ (by omega), show ((k + 1 : Nat) : Int) - 1 = (k : Int) by omega]
 rfl
section
variable {m0 : Nat} {I : World → Prop} {F : List Nat → Bool} {J : List Nat → World → Prop} {lb : Array Value}
end
end Arr
end Go.Proofs.YtgbehfkimchglaaGreatDoor
