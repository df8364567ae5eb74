/-
 'hoardref02.Det' by a contract: a determinant by the first row. Conditions: the rows read as rows of as many bytes as there are rows, eight at most.
-/
import Derived.Test.YtkbndlnmbbbohaaGreatDoorDetMathM
import Derived.Test.YtkbndlnmbbbohaaGreatDoorParityBoundsWalkM
import Derived.Deep.QuietTactic
import Derived.BigQuiet
import Derived.Test.YtkbndlnmbbbohaaGreatDoorRows
import Derived.WalkKit
import Derived.Lib.Hide
import Derived.Test.YtkbndlnmbbbohaaGreatDoorFieldU8M
import Derived.Test.YtkbndlnmbbbohaaGreatDoorArrCallsM
import Derived.Test.YtkbndlnmbbbohaaGreatDoorFieldSysM
import Derived.Test.YtkbndlnmbbbohaaGreatDoorParHealAll
import Derived.Test.YtkbndlnmbbbohaaGreatDoorParFaultM
import Derived.Test.YtkbndlnmbbbohaaGreatDoorParSoundM
import Derived.Test.YtkbndlnmbbbohaaGreatDoorRackHasM
import Derived.Deep.DeepCutAuto
import Derived.Test.YtkbndlnmbbbohaaGreatDoorArrWrM
namespace Go.Proofs.YtkbndlnmbbbohaaGreatDoor
open Go Go.RowKit
set_option maxRecDepth 100000
set_option linter.unusedVariables false
namespace det
end det
end Go.Proofs.YtkbndlnmbbbohaaGreatDoor
namespace Go.Proofs.YtkbndlnmbbbohaaGreatDoor
set_option maxRecDepth 100000
open Go.RowKit
end Go.Proofs.YtkbndlnmbbbohaaGreatDoor
namespace Go.Proofs.YtkbndlnmbbbohaaGreatDoor
open Go Go.RowKit
set_option maxRecDepth 100000
set_option linter.unusedVariables false
namespace det
theorem wpList_append_hd {w : World} {ops : Array Oper} {rest : List Oper} {o : Oper} {a : Act} {Q : Exit → Act → World → Prop} (hgd : o.guard = none) (s x : Operand)
  (ho : o.op = .call { callee := .builtin .append, args := #[s, x], argTypes := #[139, 139] }) {base n B m c : Nat} {v : Value} {A : Option Addr} {X Y : Nat → Hd} (hs : a.eval s = v) (hx : a.eval x = .slice A m c)
  (hown : OwnS w base v n X) (hy : RdH w B A m Y) (h0 : A = none → c = 0) (hmc : m ≤ c) (hl : n + m ≤ 100000) (hb : base ≤ w.heap.size)
  (h : ∀ v' w', OwnS w' base v' (n + m) (catS n X Y) → w.grownBy w' v.ownBlock → (v'.ownBlock = v.ownBlock ∨ v'.ownBlock = some w.heap.size) → wpList Tryz.prog ops Q rest (a.put o.dst v') w') : wpList Tryz.prog ops Q (o :: rest) a w := by
 refine wpList_plain hgd fun K hK => ?_
 obtain ⟨v', w', hrun, h1, h2, h3⟩ := run_append_hd o.type hown hy h0 hmc hl hb
 unfold Oper.wp execOp
 simp only [ho, resolve, invoke, builtin, Sem.run_bind, Sem.run_pure, Result.andThen_ok, List.map_toArray, List.map_cons, List.map_nil, hs, hx, hrun]
 exact hK _ _ (h v' w' h1 h2 h3)
def solX (n : Nat) (x : Nat → Nat → Nat) (y : Nat → Nat) (k : Nat) : Nat := M.gmul (M.ginv (M.det n x)) (M.det n (M.setc x k y))
inductive DSolved (w w' : World) (n : Nat) (x : Nat → Nat → Nat) (y : Nat → Nat) : Ending → Prop where
 | one (v : Value) (h : M.det n x ≠ 0) (ho : Own8 w' w.heap.size v n (solX n x y)) : DSolved w w' n x y (.returned (.tuple #[v, .int .i64 0]))
 | none (h : M.det n x = 0) : DSolved w w' n x y (.returned (.tuple #[.slice none 0 0, .int .i64 7]))
end det
end Go.Proofs.YtkbndlnmbbbohaaGreatDoor
namespace Go.Proofs.YtkbndlnmbbbohaaGreatDoor
set_option maxRecDepth 100000
open Go Go.RowKit
set_option linter.unusedVariables false
namespace det
def cutM (n : Nat) (x : Nat → Nat → Nat) (i j : Nat) : Nat := if i < n ∧ j < n then x i j else 0
def cutV (n : Nat) (y : Nat → Nat) (i : Nat) : Nat := if i < n then y i else 0
theorem cutM_lt {n : Nat} {x : Nat → Nat → Nat} (hx : ∀ i, i < n → ∀ j, j < n → x i j < 256) (i j : Nat) : cutM n x i j < 256 := by
 unfold cutM
 split
 ·rename_i h; exact hx i h.1 j h.2
 ·omega
theorem cutV_lt {n : Nat} {y : Nat → Nat} (hy : ∀ i, i < n → y i < 256) (i : Nat) : cutV n y i < 256 := by
 unfold cutV
 split
 ·rename_i h; exact hy i h
 ·omega
theorem cutM_in {n : Nat} (x : Nat → Nat → Nat) {i j : Nat} (hi : i < n) (hj : j < n) : cutM n x i j = x i j := if_pos ⟨hi, hj⟩
theorem cutV_in {n : Nat} (y : Nat → Nat) {i : Nat} (hi : i < n) : cutV n y i = y i := if_pos hi
theorem det_cut (n : Nat) (x : Nat → Nat → Nat) : M.det n (cutM n x) = M.det n x := M.det_congr n _ _ fun i hi j hj => cutM_in x hi hj
theorem det_cut2 (n k : Nat) (x : Nat → Nat → Nat) (y : Nat → Nat) : M.det n (M.setc (cutM n x) k (cutV n y)) = M.det n (M.setc x k y) := M.det_congr n _ _ fun i hi j hj => by
 unfold M.setc
 by_cases h : j = k
 ·rw [if_pos h, if_pos h, cutV_in y hi]
 ·rw [if_neg h, if_neg h, cutM_in x hi hj]
theorem comb_is {n i : Nat} (x : Nat → Nat → Nat) (v : Nat → Nat) (hi : i < n) : M.comb n (cutM n x) (cutV n v) i = M.xsum n (fun k => M.gmul (x i k) (v k)) := M.xsum_congr fun j hj => by
 rw [cutM_in x hi hj, cutV_in v hj, M.gmul_comm]
theorem tell_one {n : Nat} {x : Nat → Nat → Nat} {y X : Nat → Nat} (hx : ∀ i, i < n → ∀ j, j < n → x i j < 256) (hy : ∀ i, i < n → y i < 256) (hX : ∀ i, i < n → X i < 256)
  (hs : ∀ z, M.SmallV n z → (M.Sol n (joinM n x y) z ↔ ∀ i, i < n → z i = M.gmul (X i) (z n))) : M.det n x ≠ 0 ∧ ∀ k, k < n → solX n x y k = X k := by
 have hd : M.det n x ≠ 0 := fun h0 => by
  rw [← det_cut] at h0
  obtain ⟨z, hz, ⟨j, hj, hne⟩, hker⟩ := M.ker_of_det n (cutM n x) (cutM_lt hx) h0
  have hzi : ∀ i, i < n → M.xsum n (fun k => M.gmul (x i k) (z k)) = 0 := fun i hi => by
   rw [← hker i hi]
   exact M.xsum_congr fun j hj => by rw [cutM_in x hi hj, M.gmul_comm]
  have h1 := (hs (vec n z 0) (vec_small (fun j _ => hz j) (by omega))).1 (fun i hi => by rw [dot_vec, hzi i hi, M.gmul_zero_right, Nat.xor_self]) j hj
  rw [vec_last, M.gmul_zero_right] at h1
  unfold vec at h1
  rw [if_pos hj] at h1
  exact hne h1
 refine ⟨hd, fun k hk => ?_⟩
 have hsol := (hs (vec n X 1) (vec_small hX (by omega))).2 fun i hi => by
  rw [vec_last, M.gmul_one (hX i hi)]
  unfold vec
  rw [if_pos hi]
 have hyi : ∀ i, i < n → y i = M.xsum n (fun k => M.gmul (x i k) (X k)) := fun i hi => by
  have h := hsol i hi
  rw [dot_vec, M.gmul_one (hy i hi)] at h
  have h2 := congrArg (fun t => t ^^^ y i) h
  simp only [Nat.xor_assoc, Nat.xor_self, Nat.xor_zero, Nat.zero_xor] at h2
  exact h2.symm
 have hc := M.cramer (x := cutV n X) (y := cutV n y) hk (cutM_lt hx) (cutV_lt hX) fun i hi => by rw [comb_is x X hi, cutV_in y hi, hyi i hi]
 rw [det_cut2, det_cut, cutV_in X hk] at hc
 unfold solX
 rw [hc, M.gmul_comm (X k), M.gmul_assoc, M.gmul_comm (M.ginv _), M.gmul_ginv (M.det_lt _ _) hd, M.gmul_comm, M.gmul_one (hX k hk)]
end det
end Go.Proofs.YtkbndlnmbbbohaaGreatDoor
set_option linter.unusedVariables false
namespace Go.Proofs.YtkbndlnmbbbohaaGreatDoor.M
set_option maxRecDepth 100000
theorem sweep {n : Nat} {m : Nat → Nat → Nat} (hm : Small n m) (hker : ∀ z, SmallV n z → z n = 0 → Sol n m z → ∀ j, j < n → z j = 0) :
  ∀ k, k ≤ n → ∃ m', Small n m' ∧ Units n m' k ∧ ∀ z, SmallV n z → (Sol n m' z ↔ Sol n m z)
 | 0, _ => ⟨m, hm, fun j hj => absurd hj (by omega), fun _ _ => Iff.rfl⟩
 | k + 1, h => by
  obtain ⟨m', h1, h2, h3⟩ := sweep hm hker k (by omega)
  have hk : k < n := by omega
  by_cases hp : ∃ p, k ≤ p ∧ p < n ∧ m' p k ≠ 0
  ·obtain ⟨p, hp1, hp2, hp3⟩ := hp
   have hs : Small n (fun i => m' (swapR k p i)) := fun i hi j hj => h1 _ (swapR_lt hk hp2 hi) j hj
   have hu := units_swap hk hp2 hp1 h2
   refine ⟨elim (fun i => m' (swapR k p i)) k, elim_small hk hs, units_elim hk hs hu ?_, fun z hz => ?_⟩
   ·show m' (swapR k p k) k ≠ 0
    rw [show swapR k p k = p from if_pos rfl]
    exact hp3
   ·rw [sol_elim hk hs hz, sol_swap hk hp2, h3 z hz]
  ·have hz0 : ∀ i, k ≤ i → i < n → m' i k = 0 := fun i hi hin => Classical.byContradiction fun hne => hp ⟨i, hi, hin, hne⟩
   have hks := kern_small hk h1
   have hkn : kern m' k n = 0 := by unfold kern; rw [if_neg (by omega), if_neg (by omega)]
   have h4 := hker _ hks hkn ((h3 _ hks).1 (kern_sol hk h1 h2 hz0)) k hk
   unfold kern at h4
   rw [if_neg (by omega), if_pos rfl] at h4
   omega
def ixL : Nat → (Nat → Nat) → Nat → Nat
 | 0, _, _ => 0
 | q + 1, l, i => if l q = i then q else ixL q l i
theorem ixL_at {l : Nat → Nat} : ∀ {q x : Nat}, (∀ x y, x < y → y < q → l x < l y) → x < q → ixL q l (l x) = x
 | 0, _, _, hx => absurd hx (by omega)
 | q + 1, x, hl, hx => by
  unfold ixL
  by_cases e : x = q
  ·rw [if_pos (by rw [e])]; exact e.symm
  ·have h := hl x q (by omega) (by omega)
   rw [if_neg (by omega)]
   exact ixL_at (fun x y h1 h2 => hl x y h1 (by omega)) (by omega)
end Go.Proofs.YtkbndlnmbbbohaaGreatDoor.M
namespace Go.Proofs.YtkbndlnmbbbohaaGreatDoor
open Go Go.RowKit
namespace det
theorem solved {n : Nat} {F : Nat → Nat → Nat} {s : Nat → Nat} (hF : ∀ y x, F y x < 256) (hs : ∀ y, y < n → s y < 256) {G : Nat → Nat → Nat} (h : M.Undo n G F) :
  M.det n F ≠ 0 ∧ (∀ x, x < n → solX n F s x < 256) ∧ ∀ y, y < n → M.xsum n (fun x => M.gmul (F y x) (solX n F s x)) = s y := by
 have hm : M.Small n (joinM n F s) := fun i hi j hj => by
  unfold joinM
  split
  ·exact hF _ _
  ·exact hs i hi
 have hd : ∀ z : Nat → Nat, ∀ i, M.dot (n + 1) (joinM n F s i) z = M.xsum n (fun x => M.gmul (F i x) (z x)) ^^^ M.gmul (s i) (z n) := fun z i => by
  show M.xsum n (fun j => M.gmul (joinM n F s i j) (z j)) ^^^ M.gmul (joinM n F s i n) (z n) = _
  rw [show joinM n F s i n = s i from if_neg (by omega)]
  congr 1
  exact M.xsum_congr fun j hj => by unfold joinM; rw [if_pos hj]
 have hker : ∀ z, M.SmallV n z → z n = 0 → M.Sol n (joinM n F s) z → ∀ j, j < n → z j = 0 := fun z hz h0 hsol => M.undo_zero hF h (fun x hx => hz x (by omega)) fun y hy => by
  have h1 := hsol y hy
  rw [hd, h0, M.gmul_zero_right, Nat.xor_zero] at h1
  exact h1
 obtain ⟨m', hm', hu, he⟩ := M.sweep hm hker n (Nat.le_refl n)
 obtain ⟨X, hXe⟩ : ∃ X : Nat → Nat, X = fun i => m' i n := ⟨_, rfl⟩
 have hX : ∀ i, i < n → X i < 256 := fun i hi => by rw [hXe]; exact hm' i hi n (Nat.le_refl n)
 have hiff : ∀ z, M.SmallV n z → (M.Sol n (joinM n F s) z ↔ ∀ i, i < n → z i = M.gmul (X i) (z n)) := fun z hz => by rw [← he z hz, M.sol_done hu hz, hXe]
 obtain ⟨h1, h2⟩ := tell_one (fun i _ j _ => hF i j) hs hX hiff
 refine ⟨h1, fun x hx => by rw [h2 x hx]; exact hX x hx, fun y hy => ?_⟩
 have hsol := (hiff (vec n X 1) (vec_small hX (by omega))).2 fun i hi => by
  rw [vec_last, M.gmul_one (hX i hi)]
  unfold vec
  rw [if_pos hi]
 have h3 := hsol y hy
 rw [dot_vec, M.gmul_one (hs y hy)] at h3
 have h4 := congrArg (fun t => t ^^^ s y) h3
 simp only [Nat.xor_assoc, Nat.xor_self, Nat.xor_zero, Nat.zero_xor] at h4
 rw [← h4]
 exact M.xsum_congr fun x hx => by rw [h2 x hx]
end det
def docS (k : Nat) (j : Nat → Nat) (X : Nat → Nat → Nat) (v y : Nat) : Nat := X (k + j y) v ^^^ M.par k (j y) X v
def docI (k q : Nat) (l j : Nat → Nat) (X : Nat → Nat → Nat) (i v : Nat) : Nat :=
 if M.isL q l i then det.solX q (M.fac l j) (docS k j X v) (M.ixL q l i) else X i v
def docA (k m q : Nat) (bz : Nat → Int) (l j : Nat → Nat) (X : Nat → Nat → Nat) (i v : Nat) : Nat :=
 if i < k then docI k q l j X i v else if isB m bz i then M.par k (i - k) (docI k q l j X) v else X i v
theorem docS_lt {k q v : Nat} {j : Nat → Nat} {X : Nat → Nat → Nat} (hj2 : ∀ x, x < q → j x < 3) (hX : ∀ i, i < k + 3 → X i v < 256) {y : Nat} (hy : y < q) : docS k j X v y < 256 :=
 M.xor_lt (hX _ (by have := hj2 y hy; omega)) (M.xsum_lt fun _ _ => M.gmul_lt _ _)
section
variable {k q v : Nat} {l j : Nat → Nat} {X : Nat → Nat → Nat} (hq : q ≤ 3) (hk : k ≤ 13)
 (hl : ∀ x y, x < y → y < q → l x < l y) (hl2 : ∀ x, x < q → l x < k) (hj : ∀ x y, x < y → y < q → j x < j y) (hj2 : ∀ x, x < q → j x < 3)
 (hX : ∀ i, i < k + 3 → X i v < 256)
include hq hk hl hl2 hj hj2 hX
theorem doc_solved : M.det q (M.fac l j) ≠ 0 ∧ (∀ x, x < q → det.solX q (M.fac l j) (docS k j X v) x < 256) ∧ ∀ y, y < q → M.xsum q (fun x => M.gmul (M.fac l j y x) (det.solX q (M.fac l j) (docS k j X v) x)) = docS k j X v y := by
 obtain ⟨G, hG⟩ := M.undo_all hq l j hl (fun x hx => by have := hl2 x hx; omega) hj hj2
 exact det.solved (M.fac_lt l j) (fun y hy => docS_lt hj2 hX hy) hG
theorem docI_lt {i : Nat} (hi : i < k) : docI k q l j X i v < 256 := by
 unfold docI
 by_cases h : M.isL q l i = true
 ·rw [if_pos h]
  obtain ⟨x, hx, e⟩ := M.isL_of h
  rw [← e, M.ixL_at hl hx]
  exact (doc_solved hq hk hl hl2 hj hj2 hX).2.1 x hx
 ·rw [if_neg h]
  exact hX i (by omega)
theorem docI_par (h0 : ∀ x, x < q → X (l x) v = 0) {y : Nat} (hy : y < q) : X (k + j y) v = M.par k (j y) (docI k q l j X) v := by
 obtain ⟨_, h1, h2⟩ := doc_solved hq hk hl hl2 hj hj2 hX
 have h3 := h2 y hy
 generalize hS : det.solX q (M.fac l j) (docS k j X v) = S at *
 have e1 : ∀ i, i < k → M.gmul (M.pw (i * j y)) (docI k q l j X i v) = M.gmul (M.pw (i * j y)) (X i v) ^^^ (if M.isL q l i then M.gmul (M.pw (i * j y)) (S (M.ixL q l i)) else 0) := fun i hi => by
  unfold docI
  by_cases h : M.isL q l i = true
  ·obtain ⟨x, hx, e⟩ := M.isL_of h
   rw [if_pos h, if_pos h, hS, ← e, h0 x hx, M.gmul_zero_right, Nat.zero_xor]
  ·rw [if_neg h, if_neg h, Nat.xor_zero]
 have e2 := M.xsum_pick k l (fun i => M.gmul (M.pw (i * j y)) (S (M.ixL q l i))) q hl hl2
 have e3 : M.xsum q (fun x => M.gmul (M.pw (l x * j y)) (S (M.ixL q l (l x)))) = docS k j X v y := by
  rw [← h3]
  exact M.xsum_congr fun x hx => by rw [M.ixL_at hl hx]; rfl
 have e4 : M.par k (j y) (docI k q l j X) v = M.par k (j y) X v ^^^ docS k j X v y := by
  rw [← e3]
  have e5 : M.xsum q (fun x => M.gmul (M.pw (l x * j y)) (S (M.ixL q l (l x)))) = M.xsum q (fun x => (fun i => M.gmul (M.pw (i * j y)) (S (M.ixL q l i))) (l x)) := rfl
  rw [e5, ← e2]
  unfold M.par
  rw [← M.xsum_xor]
  exact M.xsum_congr e1
 rw [e4]
 unfold docS
 rw [Nat.xor_comm (X (k + j y) v), ← Nat.xor_assoc, Nat.xor_self, Nat.zero_xor]
end
end Go.Proofs.YtkbndlnmbbbohaaGreatDoor
namespace Go.Proofs.YtkbndlnmbbbohaaGreatDoor
open Go Go.RowKit
set_option maxRecDepth 100000
set_option linter.unusedVariables false
end Go.Proofs.YtkbndlnmbbbohaaGreatDoor
namespace Go.Proofs.YtkbndlnmbbbohaaGreatDoor
open Go Go.RowKit
set_option maxRecDepth 100000
set_option linter.unusedVariables false
end Go.Proofs.YtkbndlnmbbbohaaGreatDoor
namespace Go.Proofs.YtkbndlnmbbbohaaGreatDoor
open Go Go.RowKit
set_option maxRecDepth 100000
set_option linter.unusedVariables false
end Go.Proofs.YtkbndlnmbbbohaaGreatDoor
namespace Go.Proofs.YtkbndlnmbbbohaaGreatDoor
open Go Go.RowKit
set_option maxRecDepth 100000
set_option linter.unusedVariables false
structure Split (k m q : Nat) (bz : Nat → Int) : Prop where
 le : q ≤ m
 lo : ∀ i, i < q → bz i < (k : Int)
 hi : ∀ i, q ≤ i → i < m → (k : Int) ≤ bz i
theorem split_of {m : Nat} {bz : Nat → Int} {N : Int} (k : Nat) (h : Rise m bz N) : ∃ q, Split k m q bz := by
 by_cases hall : ∀ i, i < m → bz i < (k : Int)
 ·exact ⟨m, Nat.le_refl _, hall, fun i h1 h2 => by omega⟩
 ·obtain ⟨q, hq, hbad, hgood⟩ := least_p hall
  exact ⟨q, by omega, hgood, fun i h1 h2 => by
   rcases Nat.lt_or_ge q i with h3 | h3
   ·have := h.lt h3 h2; omega
   ·obtain rfl : i = q := by omega
    omega⟩
def X0 (m : Nat) (bz : Nat → Int) (x : Nat → Nat → Nat) (i v : Nat) : Nat := if isB m bz i then 0 else x i v
def lz (bz : Nat → Int) (a : Nat) : Nat := (bz a).toNat
def jz (k m : Nat) (bz : Nat → Int) (y : Nat) : Nat := (sndL m bz k 3).getD y 0
section
variable {k m q : Nat} {bz : Nat → Int} {N : Int}
theorem lz_cast (h : Rise m bz N) {a : Nat} (ha : a < m) : ((lz bz a : Nat) : Int) = bz a := by
 have := h.ge a ha
 unfold lz
 omega
theorem lz_rise (h : Rise m bz N) (hs : Split k m q bz) : ∀ x y, x < y → y < q → lz bz x < lz bz y := fun x y hxy hy => by
 have h1 := h.lt hxy (show y < m by have := hs.le; omega)
 have h2 := lz_cast h (show x < m by have := hs.le; omega)
 have h3 := lz_cast h (show y < m by have := hs.le; omega)
 omega
theorem lz_lt (h : Rise m bz N) (hs : Split k m q bz) : ∀ x, x < q → lz bz x < k := fun x hx => by
 have h1 := hs.lo x hx
 have h2 := lz_cast h (show x < m by have := hs.le; omega)
 omega
theorem isB_isL (h : Rise m bz N) (hs : Split k m q bz) (i : Nat) : isB q bz i = M.isL q (lz bz) i := by
 by_cases hb : isB q bz i = true
 ·obtain ⟨a, ha, e⟩ := isB_of hb
  rw [hb, M.isL_true ha]
  have := lz_cast h (show a < m by have := hs.le; omega)
  omega
 ·have hb : isB q bz i = false := by simpa using hb
  rw [hb, M.isL_false]
  intro a ha e
  have := lz_cast h (show a < m by have := hs.le; omega)
  rw [isB_true ha (by omega)] at hb
  cases hb
theorem isB_data (hs : Split k m q bz) {i : Nat} (hi : i < k) : isB m bz i = isB q bz i := by
 by_cases hb : isB m bz i = true
 ·obtain ⟨a, ha, e⟩ := isB_of hb
  rw [hb, isB_true (j := a) (by
   by_cases h : a < q
   ·exact h
   ·have := hs.hi a (by omega) ha; omega) e]
 ·have hb : isB m bz i = false := by simpa using hb
  rw [hb, isB_false]
  intro a ha e
  rw [isB_true (show a < m by have := hs.le; omega) e] at hb
  cases hb
theorem isB_par (hs : Split k m q bz) (j : Nat) : isB m bz (k + j) = isB (m - q) (fun i => bz (q + i)) (k + j) := by
 have hq := hs.le
 by_cases hb : isB m bz (k + j) = true
 ·obtain ⟨a, ha, e⟩ := isB_of hb
  have hqa : q ≤ a := by
   by_cases h : a < q
   ·have := hs.lo a h; omega
   ·omega
  rw [hb, isB_true (j := a - q) (by omega) (by show bz (q + (a - q)) = _; rw [show q + (a - q) = a by omega]; exact e)]
 ·have hb : isB m bz (k + j) = false := by simpa using hb
  rw [hb, isB_false]
  intro a ha e
  rw [isB_true (j := q + a) (by omega) e] at hb
  cases hb
theorem sndL_tail (hs : Split k m q bz) (i : Nat) : sndL m bz k i = sndL (m - q) (fun i => bz (q + i)) k i := by
 unfold sndL
 congr 1
 funext j
 rw [isB_par hs]
theorem jz_facts (h : Rise m bz N) (hs : Split k m q bz) (hm : m ≤ 3) : q ≤ (sndL m bz k 3).length ∧ (∀ x, x < q → jz k m bz x < 3 ∧ isB m bz (k + jz k m bz x) = false) ∧ ∀ x y, x < y → y < q → jz k m bz x < jz k m bz y := by
 have hq := hs.le
 have ht := h.tail hq
 have f := snd_facts (k := k) (q := q) ht (by omega)
 unfold jz
 rw [sndL_tail hs]
 exact ⟨f.1, fun x hx => ⟨(f.2.1 x hx).1, by rw [isB_par hs]; exact (f.2.1 x hx).2⟩, f.2.2⟩
theorem X0_lost (h : Rise m bz N) (hs : Split k m q bz) {x : Nat → Nat → Nat} {a : Nat} (v : Nat) (ha : a < q) : X0 m bz x (lz bz a) v = 0 := by
 unfold X0
 rw [isB_true (j := a) (by have := hs.le; omega) (lz_cast h (by have := hs.le; omega)).symm]
 rfl
theorem X0_good {x : Nat → Nat → Nat} {i : Nat} (v : Nat) (hl : isB m bz i = false) : X0 m bz x i v = x i v := by
 unfold X0
 rw [hl]
 rfl
theorem X0_bad {x : Nat → Nat → Nat} {i : Nat} (v : Nat) (hl : isB m bz i = true) : X0 m bz x i v = 0 := by
 unfold X0
 rw [hl]
 rfl
end
def docC (k m q : Nat) (bz : Nat → Int) (x : Nat → Nat → Nat) : Nat → Nat → Nat := docA k m q bz (lz bz) (jz k m bz) (X0 m bz x)
def docD (k m q : Nat) (bz : Nat → Int) (x : Nat → Nat → Nat) : Nat → Nat → Nat := docI k q (lz bz) (jz k m bz) (X0 m bz x)
theorem docC_data {k m q : Nat} {bz : Nat → Int} {x : Nat → Nat → Nat} {i : Nat} (v : Nat) (hi : i < k) : docC k m q bz x i v = docD k m q bz x i v := if_pos hi
theorem docC_par {k m q : Nat} {bz : Nat → Int} {x : Nat → Nat → Nat} (j v : Nat) : docC k m q bz x (k + j) v = if isB m bz (k + j) then M.par k j (docD k m q bz x) v else X0 m bz x (k + j) v := by
 unfold docC docA
 rw [if_neg (by omega), show k + j - k = j by omega]
 rfl
theorem docD_not {k m q : Nat} {bz : Nat → Int} {x : Nat → Nat → Nat} {i : Nat} (v : Nat) (h : M.isL q (lz bz) i = false) : docD k m q bz x i v = X0 m bz x i v := by
 unfold docD docI
 rw [h]
 rfl
theorem docC_ok {k m q : Nat} {bz : Nat → Int} {x : Nat → Nat → Nat} {N : Int} {n : Nat} (h : Rise m bz N) (hs : Split k m q bz) (hm : m ≤ 3) (hk : k ≤ 13) (hx : ∀ i, i < k + 3 → isB m bz i = false → ∀ v, v < n → x i v < 256) :
  (∀ i, i < k + 3 → ∀ v, v < n → docC k m q bz x i v < 256) ∧ (∀ j, j < 3 → Due m k bz j → ∀ v, v < n → docC k m q bz x (k + j) v = M.par k j (docC k m q bz x) v) ∧ ∀ i, i < k + 3 → isB m bz i = false → ∀ v, v < n → x i v = docC k m q bz x i v := by
 have hq := hs.le
 obtain ⟨j1, j2, j3⟩ := jz_facts h hs hm
 have hX : ∀ v, v < n → ∀ i, i < k + 3 → X0 m bz x i v < 256 := fun v hv i hi => by
  by_cases hb : isB m bz i = true
  ·rw [X0_bad v hb]; omega
  ·have hb : isB m bz i = false := by simpa using hb
   rw [X0_good v hb]; exact hx i hi hb v hv
 have hD : ∀ i, i < k → ∀ v, v < n → docD k m q bz x i v < 256 := fun i hi v hv => docI_lt (by omega) hk (lz_rise h hs) (lz_lt h hs) j3 (fun x hx => (j2 x hx).1) (hX v hv) hi
 have hpc : ∀ j v, M.par k j (docC k m q bz x) v = M.par k j (docD k m q bz x) v := fun j v => M.xsum_congr fun i hi => by rw [docC_data v hi]
 refine ⟨fun i hi v hv => ?_, fun j hj hdue v hv => ?_, fun i hi hb v hv => ?_⟩
 ·by_cases hik : i < k
  ·rw [docC_data v hik]; exact hD i hik v hv
  ·obtain ⟨j, rfl⟩ : ∃ j, i = k + j := ⟨i - k, by omega⟩
   rw [docC_par]
   split
   ·exact M.par_lt _ _ _ _
   ·exact hX v hv _ hi
 ·rw [hpc, docC_par]
  by_cases hb : isB m bz (k + j) = true
  ·rw [hb]; rfl
  ·have hb : isB m bz (k + j) = false := by simpa using hb
   rw [hb]
   rcases hdue with e | ⟨q', a, h1, h2, h3, h4, h5⟩
   ·rw [hb] at e; cases e
   ·have hqq : q' = q := by
     rcases Nat.lt_trichotomy q' q with e | e | e
     ·have a1 := h3 q' (Nat.le_refl _) (by omega)
      have a2 := hs.lo q' e
      omega
     ·exact e
     ·have a1 := h2 q e
      have a2 := hs.hi q (Nat.le_refl _) (by omega)
      omega
    subst hqq
    have e : j = jz k m bz a := by
     unfold jz
     rw [sndL_tail hs]
     exact h5
    rw [e]
    exact docI_par (by omega) hk (lz_rise h hs) (lz_lt h hs) j3 (fun x hx => (j2 x hx).1) (hX v hv) (fun y hy => X0_lost h hs v hy) h4
 ·by_cases hik : i < k
  ·rw [docC_data v hik, docD_not v (by rw [← isB_isL h hs, ← isB_data hs hik]; exact hb), X0_good v hb]
  ·obtain ⟨j, rfl⟩ : ∃ j, i = k + j := ⟨i - k, by omega⟩
   rw [docC_par, hb, X0_good v hb]
   rfl
end Go.Proofs.YtkbndlnmbbbohaaGreatDoor
namespace Go.Proofs.YtkbndlnmbbbohaaGreatDoor
open Go Go.RowKit
set_option maxRecDepth 100000
set_option linter.unusedVariables false
theorem docC_uniq {k m q n : Nat} {bz : Nat → Int} {x D : Nat → Nat → Nat} {N : Int} (h : Rise m bz N) (hs : Split k m q bz) (hm : m ≤ 3) (hk : k ≤ 13)
  (hD : ∀ i, i < k + 3 → ∀ v, v < n → D i v < 256) (hpar : ∀ j, j < 3 → ∀ v, v < n → D (k + j) v = M.par k j D v) (hgood : ∀ i, i < k + 3 → isB m bz i = false → ∀ v, v < n → x i v = D i v) :
  ∀ i, i < k + 3 → ∀ v, v < n → docC k m q bz x i v = D i v := by
 have hq := hs.le
 obtain ⟨c1, c2, c3⟩ := docC_ok (n := n) (x := x) h hs hm hk (fun i hi hb v hv => by rw [hgood i hi hb v hv]; exact hD i hi v hv)
 obtain ⟨_, j2, j3⟩ := jz_facts h hs hm
 generalize hY : docC k m q bz x = Y at *
 have good : ∀ i, i < k + 3 → isB m bz i = false → ∀ v, v < n → Y i v = D i v := fun i hi hb v hv => by rw [← c3 i hi hb v hv]; exact hgood i hi hb v hv
 have data : ∀ i, i < k → ∀ v, v < n → Y i v = D i v := by
  intro i hi v hv
  by_cases hb : isB m bz i = true
  ·have hl : M.isL q (lz bz) i = true := by rw [← isB_isL h hs, ← isB_data hs hi]; exact hb
   obtain ⟨a, ha, e⟩ := M.isL_of hl
   obtain ⟨G, hG⟩ := M.undo_all (n := q) (by omega) (lz bz) (jz k m bz) (lz_rise h hs) (fun y hy => by have := lz_lt h hs y hy; omega) j3 (fun y hy => (j2 y hy).1)
   have hz := M.undo_zero (M.fac_lt (lz bz) (jz k m bz)) hG (z := fun b => Y (lz bz b) v ^^^ D (lz bz b) v) (fun b hb => M.xor_lt (c1 _ (by have := lz_lt h hs b hb; omega) v hv) (hD _ (by have := lz_lt h hs b hb; omega) v hv)) (fun y hy => ?_) a ha
   ·rw [e] at hz
    have h2 := congrArg (fun t => t ^^^ D i v) hz
    simp only [Nat.xor_assoc, Nat.xor_self, Nat.xor_zero, Nat.zero_xor] at h2
    exact h2
   ·have hjy := (j2 y hy).1
    have p1 := c2 (jz k m bz y) hjy (.inr ⟨q, y, hq, hs.lo, hs.hi, hy, by unfold jz; rw [sndL_tail hs]⟩) v hv
    rw [good _ (by omega) (j2 y hy).2 v hv, hpar _ hjy v hv] at p1
    have p2 : M.xsum k (fun i => if M.isL q (lz bz) i then M.gmul (M.pw (i * jz k m bz y)) (Y i v ^^^ D i v) else 0) = 0 := by
     have p3 : M.par k (jz k m bz y) Y v ^^^ M.par k (jz k m bz y) D v = 0 := by rw [p1, Nat.xor_self]
     refine Eq.trans ?_ p3
     unfold M.par
     rw [← M.xsum_xor]
     refine M.xsum_congr fun i hi => ?_
     rw [← M.gmul_xor (M.pw_all _) (c1 i (by omega) v hv) (hD i (by omega) v hv)]
     by_cases hl : M.isL q (lz bz) i = true
     ·rw [hl, if_pos rfl]
     ·have hl : M.isL q (lz bz) i = false := by simpa using hl
      rw [hl, if_neg (by decide), good i (by omega) (by rw [isB_data hs hi, isB_isL h hs]; exact hl) v hv, Nat.xor_self, M.gmul_zero_right]
    rw [M.xsum_pick k (lz bz) (fun i => M.gmul (M.pw (i * jz k m bz y)) (Y i v ^^^ D i v)) q (lz_rise h hs) (lz_lt h hs)] at p2
    exact p2
  ·exact good i (by omega) (by simpa using hb) v hv
 intro i hi v hv
 by_cases hik : i < k
 ·exact data i hik v hv
 ·obtain ⟨j, rfl⟩ : ∃ j, i = k + j := ⟨i - k, by omega⟩
  by_cases hb : isB m bz (k + j) = true
  ·rw [c2 j (by omega) (.inl hb) v hv, hpar j (by omega) v hv]
   exact M.xsum_congr fun i hi => by rw [data i hi v hv]
  ·exact good _ hi (by simpa using hb) v hv
end Go.Proofs.YtkbndlnmbbbohaaGreatDoor
namespace Go.Proofs.YtkbndlnmbbbohaaGreatDoor
open Go Go.RowKit
set_option maxRecDepth 100000
set_option linter.unusedVariables false
namespace docReb
structure Cnt (q i t : Nat) (bz : Nat → Int) : Prop where
 le : t ≤ q
 lo : ∀ a, a < t → bz a < (i : Int)
 hi : ∀ a, t ≤ a → a < q → (i : Int) ≤ bz a
end docReb
end Go.Proofs.YtkbndlnmbbbohaaGreatDoor
namespace Go.Proofs.YtkbndlnmbbbohaaGreatDoor
open Go Go.RowKit
set_option maxRecDepth 100000
set_option linter.unusedVariables false
end Go.Proofs.YtkbndlnmbbbohaaGreatDoor
namespace Go.Proofs.YtkbndlnmbbbohaaGreatDoor
open Go Go.RowKit
set_option maxRecDepth 100000
set_option linter.unusedVariables false
set_option maxHeartbeats 1600000 in
theorem rebuild_someE (k m cd B c B2 f : Nat) (A A2 : Option Addr) (ra : Nat → Option Addr) (rl rc : Nat → Nat) (x D : Nat → Nat → Nat) (bz : Nat → Int) (w : World) (hr : RdR w B A (k + 3) ra rl rc x) (hz : RdZ w B2 A2 m bz) (hB : B ≤ w.heap.size) (hB2 : B2 ≤ w.heap.size) (hmc : m ≤ c) (hcm : c ≤ maxLen) (hri : Rise m bz ((k + 3 : Nat) : Int)) (hf : First m bz f) (hfk : f < k + 3) (hk0 : 0 < k) (hk : k ≤ 13) (hm0 : 0 < m) (hm : m ≤ 3) (ha : AlikeB (k + 3) m (rl f) bz rl)
  (hD : ∀ i, i < k + 3 → ∀ v, v < rl f → D i v < 256) (hpar : ∀ j, j < 3 → Due m k bz j → ∀ v, v < rl f → D (k + j) v = M.par k j D v) (hgood : ∀ i, i < k + 3 → isB m bz i = false → ∀ v, v < rl f → x i v = D i v) :
  Calls Tryz.prog 143 #[.slice A (k + 3) cd, .slice A2 m c] w fun e w' => ∃ v R XX, e = .returned (.tuple #[v, .int .i64 0]) ∧ Cols w' w.heap.size v (k + 3) (rl f) (fun i => (some ⟨R i, 0, none⟩, rl f, rl f)) R XX ∧ (∀ i, i < k + 3 → ∀ v, v < rl f → XX i v = D i v) ∧ Below w.heap.size w w' := by
 have HA := Lib.hid ha
 have HR := Lib.hid hr
 have HZ := Lib.hid hz
 have HRI := Lib.hid hri
 have HF := Lib.hid hf
 have HC := Lib.hid hcm
 have HD := Lib.hid (And.intro hD hpar)
 have HG := Lib.hid hgood
 have HBB := Lib.hid (And.intro hB hB2)
 have hzf := build_field
 clear hr hz hri hf ha hD hpar hgood hcm hB hB2
 go_enter Tryz.func143, Tryz.ntmps143
 go_wp2_with fail
 refine (fault_none (k + 3) cd B m c B2 f A A2 ra rl rc x bz _ HR.out HZ.out hmc HC.out HRI.out HF.out hfk (by omega) (by omega) hm HA.out).mono ?_
 rintro e w1 ⟨rfl, rfl⟩
 go_wp2_with fail
 refine (whole_any (k + 3) cd B m c B2 f A A2 ra rl rc x bz _ HR.out HZ.out HBB.out.1 HBB.out.2 hmc HC.out HRI.out HF.out hfk (by omega) (by omega) HA.out).mono ?_
 rintro e w2 ⟨rfl, H2⟩
 have C2 := Lib.hid (H2.cols (by omega) HA.out.2.1)
 have L2 := Lib.hid H2.below
 clear H2
 go_wp2_with fail
 have B2a : Below w2.heap.size w2 (w2.alloc (.cells (fcells 0 0 0) 236)) := (Below.refl _ _).alloc (Nat.le_refl _) _
 have C3 := Lib.hid (C2.out.below B2a (Nat.le_refl _))
 have L3 := Lib.hid (L2.out.trans (B2a.mono L2.out.size))
 have F3 : Hid (Fld (w2.alloc (.cells (fcells 0 0 0) 236)) w2.heap.size) := .inl (Blk.new _ _ _)
 obtain ⟨W3, hW3⟩ : ∃ W3, W3 = w2.alloc (.cells (fcells 0 0 0) 236) := ⟨_, rfl⟩
 rw [← hW3] at C3 L3 F3 ⊢
 have s2 := L2.out.size
 have s3 := L3.out.size
 have HX3 : Hid (∀ i, i < k + 3 → ∀ v, v < rl f → goodX m bz x i v < 256) := fun i hi v hv => by
  unfold goodX
  cases h : isB m bz i
  ·rw [if_neg (by decide), HG.out i hi h v hv]
   exact HD.out.1 i hi v hv
  ·rw [if_pos rfl]; omega
 have HZ3 : Hid (RdZ W3 W3.heap.size A2 m bz) := fun i hi => by
  obtain ⟨bb, o, e1, e2, e3⟩ := (HZ.out.below L3.out HBB.out.2) i hi
  exact ⟨bb, o, e1, by have := HBB.out.2; omega, e3⟩
 have HNE : Hid (∀ bb, (∃ o, A2 = some ⟨bb, o, none⟩) → bb ≠ w2.heap.size ∧ ∀ i, i < k + 3 → bb ≠ w.heap.size + 1 + i) := fun bb h => by
  obtain ⟨o, e⟩ := h
  obtain ⟨b', o', e1, e2, _⟩ := HZ.out 0 hm0
  rw [e] at e1
  injection e1 with e1
  injection e1 with q1 q2
  have := HBB.out.2
  exact ⟨by omega, fun i hi => by omega⟩
 have HGX : Hid (∀ i, i < k + 3 → isB m bz i = false → ∀ v, v < rl f → goodX m bz x i v = D i v) := fun i hi h v hv => by
  unfold goodX
  rw [h, if_neg (by decide)]
  exact HG.out i hi h v hv
 have HBX : Hid (∀ i, i < k + 3 → isB m bz i = true → ∀ v, v < rl f → goodX m bz x i v = 0) := fun i hi h v hv => by
  unfold goodX
  rw [h, if_pos rfl]
 clear hW3 B2a C2
 refine (mend_any w2.heap.size k m (rl f) w.heap.size (k + 3) w.heap.size c A2 _ _ bz (goodX m bz x) D W3 C3.out ⟨Nat.le_refl _, by unfold maxLen; omega⟩ HX3.out HD.out.1 HD.out.2 HGX.out HBX.out HA.out.1 HA.out.2.1 hk0 hk HZ3.out hmc HC.out HRI.out hm0 hm HNE.out F3.out).mono ?_
 rintro e w4 ⟨rfl, XX, hc4, hd4, hf4, ho4⟩
 have C4 := Lib.hid hc4
 have D4 := Lib.hid hd4
 have L4 : Hid (Below w.heap.size w w4) := Lib.hid (L3.out.trans (ho4.below s2 (fun j hj => by omega) s3))
 clear hc4 hd4 hf4 ho4 C3 F3 HX3 HZ3 HNE HGX HBX
 go_wp2_with fail
 go_ret2
 exact ⟨.slice (some ⟨w.heap.size, 0, none⟩) (k + 3) (k + 3), _, XX, rfl, C4.out, D4.out, L4.out⟩
set_option maxHeartbeats 1600000 in
theorem rebuild_zeroE (k m cd B c2 : Nat) (A A2 : Option Addr) (ra : Nat → Option Addr) (rl rc : Nat → Nat) (x : Nat → Nat → Nat) (w : World) (hr : RdR w B A k ra rl rc x) (hB : B ≤ w.heap.size) (hm : k = m + 3) (hm0 : 0 < m) (hk : k ≤ 16) (ha : Alike k rl) (h0 : A2 = none → c2 = 0) (hcm : c2 ≤ maxLen) :
  Calls Tryz.prog 143 #[.slice A k cd, .slice A2 0 c2] w fun e w' => ∃ v R, e = .returned (.tuple #[v, .int .i64 0]) ∧ Cols w' w.heap.size v k (rl 0) (fun i => (some ⟨R i, 0, none⟩, rl 0, rl 0)) R x ∧ Below w.heap.size w w' := by
 subst hm
 have HA := Lib.hid ha
 have HR := Lib.hid hr
 have hz := build_field
 have HZ : Hid (RdZ w 0 A2 0 (fun _ => 0)) := fun i hi => absurd hi (by omega)
 have HRI : Hid (Rise 0 (fun _ => 0) ((m + 3 : Nat) : Int)) := fun i hi => absurd hi (by omega)
 have HF : Hid (First 0 (fun _ => 0) 0) := ⟨Nat.le_refl _, fun j hj => absurd hj (by omega), fun h => absurd h (by omega)⟩
 have HAB : Hid (AlikeB (m + 3) 0 (rl 0) (fun _ => 0) rl) := ⟨ha.1, ha.2.1, fun i hi _ => ha.2.2 i hi⟩
 have HC0 : Hid (c2 ≤ maxLen) := hcm
 have H0 := Lib.hid h0
 clear hr ha h0
 go_enter Tryz.func143, Tryz.ntmps143
 go_wp2_with fail
 refine (fault_none (m + 3) cd B 0 c2 0 0 A A2 ra rl rc x (fun _ => 0) _ HR.out HZ.out (Nat.zero_le _) HC0.out HRI.out HF.out (by omega) (by omega) (by omega) (by omega) HAB.out).mono ?_
 rintro e w1 ⟨rfl, rfl⟩
 go_wp2_with fail
 refine (whole_any (m + 3) cd B 0 c2 0 0 A A2 ra rl rc x (fun _ => 0) _ HR.out HZ.out hB (by omega) (by omega) HC0.out HRI.out HF.out (by omega) hk (by omega) HAB.out).mono ?_
 rintro e w2 ⟨rfl, H2⟩
 have C2 := Lib.hid (H2.cols hk HA.out.2.1)
 have L2 := Lib.hid H2.below
 have HX : Hid (∀ j, goodX 0 (fun _ => 0) x j = x j) := fun j => by unfold goodX; rw [isB_false (fun j hj => absurd hj (by omega))]; rfl
 clear H2 HZ HRI HF HAB
 go_wp2_with fail
 refine (mend_zero w2.heap.size m (m + 3) c2 (some ⟨w.heap.size, 0, none⟩) A2 _ hk H0.out HC0.out).mono ?_
 rintro e w3 ⟨rfl, hb3⟩
 have B2 : Below w2.heap.size w2 (w2.alloc (.cells (fcells 0 0 0) 236)) := (Below.refl _ _).alloc (Nat.le_refl _) _
 have HB3 := Lib.hid (B2.trans (hb3.mono B2.size))
 clear hb3 B2
 go_wp2_with fail
 go_ret2
 have h := C2.out.below HB3.out (Nat.le_refl _)
 rw [show goodX 0 (fun _ => 0) x = x from funext HX.out] at h
 exact ⟨.slice (some ⟨w.heap.size, 0, none⟩) (m + 3) (m + 3), _, rfl, h, L2.out.trans (HB3.out.mono L2.out.size)⟩
theorem rebuild_docE (k m cd B c B2 f q : Nat) (A A2 : Option Addr) (ra : Nat → Option Addr) (rl rc : Nat → Nat) (x : Nat → Nat → Nat) (bz : Nat → Int) (w : World) (hr : RdR w B A (k + 3) ra rl rc x) (hz : RdZ w B2 A2 m bz) (hB : B ≤ w.heap.size) (hB2 : B2 ≤ w.heap.size) (hmc : m ≤ c) (hcm : c ≤ maxLen) (h0 : A2 = none → c = 0) (hri : Rise m bz ((k + 3 : Nat) : Int)) (hf : First m bz f) (hfk : f < k + 3) (hk0 : 0 < k) (hk : k ≤ 13) (hm : m ≤ 3) (ha : AlikeB (k + 3) m (rl f) bz rl) (hs : Split k m q bz) :
  Calls Tryz.prog 143 #[.slice A (k + 3) cd, .slice A2 m c] w fun e w' => ∃ v R XX, e = .returned (.tuple #[v, .int .i64 0]) ∧ Cols w' w.heap.size v (k + 3) (rl f) (fun i => (some ⟨R i, 0, none⟩, rl f, rl f)) R XX ∧ (∀ i, i < k + 3 → ∀ v, v < rl f → XX i v = docC k m q bz x i v) ∧ Below w.heap.size w w' := by
 have hx256 : ∀ i, i < k + 3 → isB m bz i = false → ∀ v, v < rl f → x i v < 256 := fun i hi hb v hv => by
  obtain ⟨_, _, _, _, _, h⟩ := hr i hi
  rw [ha.2.2 i hi fun j hj e => by rw [isB_true hj e] at hb; cases hb] at h
  obtain ⟨_, _, _, _, _, p⟩ := h v hv
  exact p
 obtain ⟨h1, h2, h3⟩ := docC_ok hri hs hm hk hx256
 by_cases hm0 : m = 0
 ·subst hm0
  have hf0 : f = 0 := by have := hf.1; omega
  subst hf0
  refine (rebuild_zeroE (k + 3) k cd B c A A2 ra rl rc x w hr hB rfl hk0 (by omega) ⟨ha.1, ha.2.1, fun i hi => ha.2.2 i hi fun j hj => absurd hj (Nat.not_lt_zero _)⟩ h0 hcm).mono ?_
  rintro e w' ⟨v, R, e1, e2, e3⟩
  exact ⟨v, R, x, e1, e2, fun i hi v hv => h3 i hi (isB_false fun j hj => absurd hj (Nat.not_lt_zero _)) v hv, e3⟩
 ·exact rebuild_someE k m cd B c B2 f A A2 ra rl rc x (docC k m q bz x) bz w hr hz hB hB2 hmc hcm hri hf hfk hk0 hk (by omega) hm ha h1 h2 h3
end Go.Proofs.YtkbndlnmbbbohaaGreatDoor
namespace Go.Proofs.YtkbndlnmbbbohaaGreatDoor
open Go Go.RowKit
set_option maxRecDepth 100000
set_option linter.unusedVariables false
namespace Arr
def bzL (l : List Nat) (j : Nat) : Int := ((l.getD j 0 : Nat) : Int)
theorem trueL_rise (g : Nat → Bool) (N : Nat) : Rise (trueL g N).length (bzL (trueL g N)) (N : Int) := fun i hi => by
 obtain ⟨h1, h2, _⟩ := trueL_facts g N
 have h3 := (h1 i hi).1
 unfold bzL prv
 by_cases e : i = 0
 ·rw [if_pos e]; omega
 ·rw [if_neg e]
  have h4 := h2 (i - 1) i (by omega) hi
  show (((trueL g N).getD (i - 1) 0 : Nat) : Int) < _ ∧ _
  omega
theorem trueL_isB (g : Nat → Bool) (N : Nat) {i : Nat} (hi : i < N) : isB (trueL g N).length (bzL (trueL g N)) i = g i := by
 obtain ⟨h1, _, h3⟩ := trueL_facts g N
 cases hg : g i with
 | true =>
  obtain ⟨x, hx, e⟩ := h3 i hi hg
  exact isB_true hx (by unfold bzL; rw [e])
 | false =>
  refine isB_false fun j hj e => ?_
  have h4 := (h1 j hj).2
  unfold bzL at e
  have e2 : (trueL g N).getD j 0 = i := by omega
  rw [e2, hg] at h4
  cases h4
open Classical in
noncomputable def qOf (k m : Nat) (bz : Nat → Int) : Nat := if h : ∃ q, Split k m q bz then Classical.choose h else 0
theorem qOf_split {k m : Nat} {bz : Nat → Int} {N : Int} (h : Rise m bz N) : Split k m (qOf k m bz) bz := by
 have hx := split_of k h
 unfold qOf
 rw [dif_pos hx]
 exact Classical.choose_spec hx
theorem first_good {m f : Nat} {bz : Nat → Int} {N : Int} (h : Rise m bz N) (hf : First m bz f) : isB m bz f = false := by
 refine isB_false fun j hj e => ?_
 by_cases h1 : j < f
 ·have := hf.2.1 j h1
  omega
 ·by_cases h2 : f < m
  ·have h3 := hf.2.2 h2
   by_cases h4 : j = f
   ·subst h4; exact h3 e
   ·have h5 := h.lt (i := f) (j := j) (by omega) hj
    have h6 := h.ge f h2
    omega
  ·omega
def pi (k i : Nat) : Nat := if i < k then i + 3 else i - k
theorem pi_mod {k i : Nat} (hi : i < k + 3) : (i + 3) % (k + 3) = pi k i := by
 unfold pi
 by_cases h : i < k
 ·rw [if_pos h, Nat.mod_eq_of_lt (by omega)]
 ·rw [if_neg h, show i + 3 = (i - k) + (k + 3) by omega, Nat.add_mod_right, Nat.mod_eq_of_lt (by omega)]
theorem pi_lt {k i : Nat} (hi : i < k + 3) : pi k i < k + 3 := by unfold pi; split <;> omega
def plc (k : Nat) (bd : Nat → Bool) : List Nat := trueL (fun i => bd (pi k i)) (k + 3)
noncomputable def outRow (k : Nat) (bd : Nat → Bool) (x : Nat → Nat → Nat) (t v : Nat) : Nat :=
 docC k (plc k bd).length (qOf k (plc k bd).length (bzL (plc k bd))) (bzL (plc k bd)) (fun i => x (pi k i)) t v
section
variable {k n : Nat} {bd : Nat → Bool} {x D : Nat → Nat → Nat} (hk : k ≤ 13) (hm : (plc k bd).length ≤ 3)
include hk hm
theorem outRow_lt (hx : ∀ i, i < k + 3 → bd i = false → ∀ v, v < n → x i v < 256) {t v : Nat} (ht : t < k) (hv : v < n) : outRow k bd x t v < 256 := by
 have h := trueL_rise (fun i => bd (pi k i)) (k + 3)
 refine (docC_ok (n := n) (x := fun i => x (pi k i)) h (qOf_split h) hm hk fun i hi hb v hv => ?_).1 t (by omega) v hv
 rw [trueL_isB _ _ hi] at hb
 exact hx _ (pi_lt hi) hb v hv
theorem outRow_good (hD : ∀ i, i < k + 3 → ∀ v, v < n → D i v < 256) (hpar : ∀ j, j < 3 → ∀ v, v < n → D j v = M.par k j (fun t => D (t + 3)) v) (hgood : ∀ i, i < k + 3 → bd i = false → ∀ v, v < n → x i v = D i v) {t v : Nat} (ht : t < k) (hv : v < n) : outRow k bd x t v = D (t + 3) v := by
 have h := trueL_rise (fun i => bd (pi k i)) (k + 3)
 have h1 := docC_uniq (n := n) (x := fun i => x (pi k i)) (D := fun i => D (pi k i)) h (qOf_split h) hm hk (fun i hi v hv => hD _ (pi_lt hi) v hv) (fun j hj v hv => by
  have e : pi k (k + j) = j := by unfold pi; rw [if_neg (by omega)]; omega
  show D (pi k (k + j)) v = _
  rw [e, hpar j hj v hv]
  refine M.xsum_congr fun i hi => ?_
  have e2 : pi k i = i + 3 := by unfold pi; rw [if_pos hi]
  show _ = M.gmul _ (D (pi k i) v)
  rw [e2]) (fun i hi hb v hv => by
  have hb2 := trueL_isB (fun i => bd (pi k i)) (k + 3) hi
  have hb3 : isB (trueL (fun i => bd (pi k i)) (k + 3)).length (bzL (trueL (fun i => bd (pi k i)) (k + 3))) i = false := hb
  rw [hb2] at hb3
  exact hgood _ (pi_lt hi) hb3 v hv) t (by omega) v hv
 have e : pi k t = t + 3 := by unfold pi; rw [if_pos ht]
 show docC _ _ _ _ _ _ _ = _
 rw [← e]
 exact h1
end
end Arr
end Go.Proofs.YtkbndlnmbbbohaaGreatDoor
