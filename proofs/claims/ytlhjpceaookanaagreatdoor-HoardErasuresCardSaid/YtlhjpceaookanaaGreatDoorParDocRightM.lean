/-
  'hoardref02.Det' by a contract: a determinant by the first row. Conditions: the rows read as rows of as many bytes as there are rows, eight at most.
-/
import Derived.Test.YtlhjpceaookanaaGreatDoorDetColsM
import Derived.Test.YtlhjpceaookanaaGreatDoorDetMath
import Derived.Test.YtlhjpceaookanaaGreatDoorParityBoundsWalkM
import Derived.Deep.QuietTactic
import Derived.BigQuiet
import Derived.Test.YtlhjpceaookanaaGreatDoorRows
import Derived.WalkKit
import Derived.Lib.Hide
import Derived.Test.YtlhjpceaookanaaGreatDoorBytesM
import Derived.Test.YtlhjpceaookanaaGreatDoorGenRowM
import Derived.Test.YtlhjpceaookanaaGreatDoorFieldSysM
import Derived.Test.YtlhjpceaookanaaGreatDoorParHealAll
import Derived.Test.YtlhjpceaookanaaGreatDoorParAidM
import Derived.Test.YtlhjpceaookanaaGreatDoorRackHasM
namespace Go.Proofs.YtlhjpceaookanaaGreatDoor
open Go Go.RowKit
set_option maxRecDepth 100000
set_option linter.unusedVariables false

namespace det
theorem cols_grown {w w' : World} {B0 t n m : Nat} {v u : Value} {H : Nat → Hd} {R : Nat → Nat} {x : Nat → Nat → Nat} {X : Nat → Nat} (h : D.Cols w B0 v t n H R x) (ho : Own8 w B0 u m X) (hg : w.grownBy w' u.ownBlock) (hne : ∀ g, u.ownBlock = some g → v.ownBlock ≠ some g ∧ ∀ j, j < t → R j ≠ g) : D.Cols w' B0 v t n H R x := by
  refine ⟨h.own.keep fun g e => hg.block g (h.own.lt e).1 (fun q => (hne g q.symm).1 e), h.hd, fun j hj => ⟨(h.row j hj).1, (h.row j hj).2.heap (hg.block _ (h.row j hj).2.lt (fun q => (hne _ q.symm).2 j hj rfl))⟩, h.apart⟩
theorem cols_ne {w : World} {B0 t n : Nat} {v u u1 : Value} {H : Nat → Hd} {R : Nat → Nat} {x : Nat → Nat → Nat} (h : D.Cols w B0 v t n H R x) (hat : u1.ownBlock = u.ownBlock ∨ u1.ownBlock = some w.heap.size) (hne : ∀ g, u.ownBlock = some g → v.ownBlock ≠ some g ∧ ∀ j, j < t → R j ≠ g) :
    ∀ j, j < t → u1.ownBlock ≠ some (R j) := fun j hj e => by
  rcases hat with q | q
  · exact (hne (R j) (q.symm.trans e)).2 j hj rfl
  · rw [q] at e
    injection e with e
    have := (h.row j hj).2.lt
    omega
theorem cols_ne2 {w : World} {B0 t n : Nat} {v u u1 : Value} {H : Nat → Hd} {R : Nat → Nat} {x : Nat → Nat → Nat} (h : D.Cols w B0 v t n H R x) (hN : ∀ j, j < t → u.ownBlock ≠ some (R j)) (hat : u1.ownBlock = u.ownBlock ∨ u1.ownBlock = some w.heap.size) :
    ∀ j, j < t → u1.ownBlock ≠ some (R j) := fun j hj e => by
  rcases hat with q | q
  · exact hN j hj (q.symm.trans e)
  · rw [q] at e
    injection e with e
    have := (h.row j hj).2.lt
    omega
theorem ownS_ne8 {w : World} {base n m : Nat} {v u : Value} {X : Nat → Hd} {Y : Nat → Nat} (h : OwnS w base v n X) (k : Own8 w base u m Y) : ∀ g, v.ownBlock = some g → some g ≠ u.ownBlock := fun g e q => by
  rcases k with ⟨rfl, _⟩ | ⟨g', cap, cur, fr, rfl, _, hb, _⟩
  · cases q
  · simp [Value.ownBlock] at q
    subst q
    rcases h with ⟨rfl, _⟩ | ⟨g2, cap2, cur2, fr2, rfl, _, hb2, _⟩
    · cases e
    · simp [Value.ownBlock] at e
      subst e
      rw [hb] at hb2
      injection hb2 with hb2
      injection hb2 with _ hb2 _
      exact absurd hb2 (by decide)
theorem cols_grown8 {w w' : World} {B0 t n m : Nat} {v u : Value} {H : Nat → Hd} {R : Nat → Nat} {x : Nat → Nat → Nat} {X : Nat → Nat} (h : D.Cols w B0 v t n H R x) (ho : Own8 w B0 u m X) (hN : ∀ j, j < t → u.ownBlock ≠ some (R j)) (hg : w.grownBy w' u.ownBlock) : D.Cols w' B0 v t n H R x :=
  ⟨h.own.keep fun g e => hg.block g (h.own.lt e).1 (ownS_ne8 h.own ho g e), h.hd, fun j hj => ⟨(h.row j hj).1, (h.row j hj).2.heap (hg.block _ (h.row j hj).2.lt (fun q => hN j hj q.symm))⟩, h.apart⟩
theorem minor_row (x : Nat → Nat → Nat) (k t n v : Nat) (hk : k ≤ n) (hv : v < n) : cat (0 + k) (cat 0 (fun _ => 0) (x (t + 1))) (fun j => x (t + 1) (k + 1 + j)) v = M.minor x k t v := by
  unfold cat M.minor M.skip
  by_cases h : v < k
  · rw [if_pos (by omega), if_neg (by omega), if_pos h]; rfl
  · rw [if_neg (by omega), if_neg h]
    show x (t + 1) (k + 1 + (v - (0 + k))) = _
    rw [show k + 1 + (v - (0 + k)) = v + 1 by omega]

end det
end Go.Proofs.YtlhjpceaookanaaGreatDoor
namespace Go.Proofs.YtlhjpceaookanaaGreatDoor
set_option maxRecDepth 100000
open Go.RowKit

def invV (a : Nat) : Nat := if a = 0 then 0 else M.ginv a
def logV (a : Nat) : Nat := if a = 0 then 0 else M.lg a
def errV (a : Nat) : Int := if a = 0 then 1 else 0
theorem invV_z {a : Nat} (h : a = 0) : invV a = 0 := if_pos h
theorem invV_n {a : Nat} (h : a ≠ 0) : invV a = M.ginv a := if_neg h
theorem logV_z {a : Nat} (h : a = 0) : logV a = 0 := if_pos h
theorem logV_n {a : Nat} (h : a ≠ 0) : logV a = M.lg a := if_neg h
theorem errV_z {a : Nat} (h : a = 0) : errV a = 1 := if_pos h
theorem errV_n {a : Nat} (h : a ≠ 0) : errV a = 0 := if_neg h

theorem inv_iff {a x : Nat} (ha : a < 256) (hx : x < 256) : M.gmul a x = 1 ↔ a ≠ 0 ∧ x = M.ginv a := by
  constructor
  · intro h
    have h0 : a ≠ 0 := by
      rintro rfl
      rw [M.gmul_zero_left] at h
      omega
    refine ⟨h0, ?_⟩
    have h1 := M.gmul_ginv ha h0
    have h2 : M.gmul (M.ginv a) (M.gmul a x) = M.gmul (M.ginv a) 1 := by rw [h]
    rw [M.gmul_assoc, M.gmul_comm (M.ginv a) a, h1, M.gmul_comm 1 x, M.gmul_one hx, M.gmul_one (M.ginv_lt a)] at h2
    exact h2
  · rintro ⟨h0, rfl⟩
    exact M.gmul_ginv ha h0

end Go.Proofs.YtlhjpceaookanaaGreatDoor
namespace Go.Proofs.YtlhjpceaookanaaGreatDoor
open Go Go.RowKit
set_option maxRecDepth 100000
set_option linter.unusedVariables false

namespace det
theorem wpList_append_hd {w : World} {ops : Array Oper} {rest : List Oper} {o : Oper} {a : Act} {Q : Exit → Act → World → Prop} (hgd : o.guard = none) (s x : Operand)
    (ho : o.op = .call { callee := .builtin .append, args := #[s, x], argTypes := #[77, 77] }) {base n B m c : Nat} {v : Value} {A : Option Addr} {X Y : Nat → Hd} (hs : a.eval s = v) (hx : a.eval x = .slice A m c)
    (hown : OwnS w base v n X) (hy : RdH w B A m Y) (h0 : A = none → c = 0) (hmc : m ≤ c) (hl : n + m ≤ 100000) (hb : base ≤ w.heap.size)
    (h : ∀ v' w', OwnS w' base v' (n + m) (catS n X Y) → w.grownBy w' v.ownBlock → (v'.ownBlock = v.ownBlock ∨ v'.ownBlock = some w.heap.size) → wpList Tryz.prog ops Q rest (a.put o.dst v') w') : wpList Tryz.prog ops Q (o :: rest) a w := by
  refine wpList_plain hgd fun K hK => ?_
  obtain ⟨v', w', hrun, h1, h2, h3⟩ := run_append_hd o.type hown hy h0 hmc hl hb
  unfold Oper.wp execOp
  simp only [ho, resolve, invoke, builtin, Sem.run_bind, Sem.run_pure, Result.andThen_ok, List.map_toArray, List.map_cons, List.map_nil, hs, hx, hrun]
  exact hK _ _ (h v' w' h1 h2 h3)
theorem cols_set {w : World} {B0 t n g k : Nat} {v : Value} {H : Nat → Hd} {R : Nat → Nat} {x : Nat → Nat → Nat} (h : D.Cols w B0 v t n H R x) (hR : ∀ j, j < t → R j ≠ g) (hv : v.ownBlock ≠ some g) (u : Value) : D.Cols (w.setCell ⟨g, k, none⟩ u) B0 v t n H R x :=
  ⟨h.own.keep fun g' e => Below.heap_setCell w _ u g' (fun q => hv (by rw [e]; exact congrArg some q)), h.hd, fun j hj => ⟨(h.row j hj).1, (h.row j hj).2.far (p := ⟨g, k, none⟩) (hR j hj) u⟩, h.apart⟩
/-- what the document's 'Solve' answers, by places -/
def solX (n : Nat) (x : Nat → Nat → Nat) (y : Nat → Nat) (k : Nat) : Nat := M.gmul (M.ginv (M.det n x)) (M.det n (M.setc x k y))
theorem solX_lt (n : Nat) (x : Nat → Nat → Nat) (y : Nat → Nat) (k : Nat) : solX n x y k < 256 := M.gmul_lt _ _
theorem solX_push (n : Nat) (x : Nat → Nat → Nat) (y : Nat → Nat) (k : Nat) : ∀ j, j < k + 1 → cat k (solX n x y) (fun _ => solX n x y k) j = solX n x y j := fun j hj => by
  unfold cat
  by_cases h : j < k
  · rw [if_pos h]
  · rw [if_neg h, show j = k by omega]
inductive DSolved (w w' : World) (n : Nat) (x : Nat → Nat → Nat) (y : Nat → Nat) : Ending → Prop where
  | one (v : Value) (h : M.det n x ≠ 0) (ho : Own8 w' w.heap.size v n (solX n x y)) : DSolved w w' n x y (.returned (.tuple #[v, .int .i64 0]))
  | none (h : M.det n x = 0) : DSolved w w' n x y (.returned (.tuple #[.slice none 0 0, .int .i64 7]))

end det
end Go.Proofs.YtlhjpceaookanaaGreatDoor
namespace Go.Proofs.YtlhjpceaookanaaGreatDoor
set_option maxRecDepth 100000
open Go Go.RowKit
set_option linter.unusedVariables false
theorem RowG.rdb' {w : World} {g n : Nat} {X : Nat → Nat} (h : RowG w g n X) (hX : ∀ j, j < n → X j < 256) : RdB w (g + 1) (some ⟨g, 0, none⟩) n X := fun j hj => ⟨g, 0, rfl, by omega, by rw [Nat.zero_add]; exact h.cell hj, hX j hj⟩
namespace det
def cutM (n : Nat) (x : Nat → Nat → Nat) (i j : Nat) : Nat := if i < n ∧ j < n then x i j else 0
def cutV (n : Nat) (y : Nat → Nat) (i : Nat) : Nat := if i < n then y i else 0
theorem cutM_lt {n : Nat} {x : Nat → Nat → Nat} (hx : ∀ i, i < n → ∀ j, j < n → x i j < 256) (i j : Nat) : cutM n x i j < 256 := by
  unfold cutM
  split
  · rename_i h; exact hx i h.1 j h.2
  · omega
theorem cutV_lt {n : Nat} {y : Nat → Nat} (hy : ∀ i, i < n → y i < 256) (i : Nat) : cutV n y i < 256 := by
  unfold cutV
  split
  · rename_i h; exact hy i h
  · omega
theorem cutM_in {n : Nat} (x : Nat → Nat → Nat) {i j : Nat} (hi : i < n) (hj : j < n) : cutM n x i j = x i j := if_pos ⟨hi, hj⟩
theorem cutV_in {n : Nat} (y : Nat → Nat) {i : Nat} (hi : i < n) : cutV n y i = y i := if_pos hi
theorem det_cut (n : Nat) (x : Nat → Nat → Nat) : M.det n (cutM n x) = M.det n x := M.det_congr n _ _ fun i hi j hj => cutM_in x hi hj
theorem det_cut2 (n k : Nat) (x : Nat → Nat → Nat) (y : Nat → Nat) : M.det n (M.setc (cutM n x) k (cutV n y)) = M.det n (M.setc x k y) := M.det_congr n _ _ fun i hi j hj => by
  unfold M.setc
  by_cases h : j = k
  · rw [if_pos h, if_pos h, cutV_in y hi]
  · rw [if_neg h, if_neg h, cutM_in x hi hj]
theorem comb_is {n i : Nat} (x : Nat → Nat → Nat) (v : Nat → Nat) (hi : i < n) : M.comb n (cutM n x) (cutV n v) i = M.xsum n (fun k => M.gmul (x i k) (v k)) := M.xsum_congr fun j hj => by
  rw [cutM_in x hi hj, cutV_in v hj, M.gmul_comm]
theorem tell_one {n : Nat} {x : Nat → Nat → Nat} {y X : Nat → Nat} (hx : ∀ i, i < n → ∀ j, j < n → x i j < 256) (hy : ∀ i, i < n → y i < 256) (hX : ∀ i, i < n → X i < 256)
    (hs : ∀ z, M.SmallV n z → (M.Sol n (joinM n x y) z ↔ ∀ i, i < n → z i = M.gmul (X i) (z n))) : M.det n x ≠ 0 ∧ ∀ k, k < n → solX n x y k = X k := by
  have hd : M.det n x ≠ 0 := fun h0 => by
    rw [← det_cut] at h0
    obtain ⟨z, hz, ⟨j, hj, hne⟩, hker⟩ := M.ker_of_det n (cutM n x) (cutM_lt hx) h0
    have hzi : ∀ i, i < n → M.xsum n (fun k => M.gmul (x i k) (z k)) = 0 := fun i hi => by
      rw [← hker i hi]
      exact M.xsum_congr fun j hj => by rw [cutM_in x hi hj, M.gmul_comm]
    have h1 := (hs (vec n z 0) (vec_small (fun j _ => hz j) (by omega))).1 (fun i hi => by rw [dot_vec, hzi i hi, M.gmul_zero_right, Nat.xor_self]) j hj
    rw [vec_last, M.gmul_zero_right] at h1
    unfold vec at h1
    rw [if_pos hj] at h1
    exact hne h1
  refine ⟨hd, fun k hk => ?_⟩
  have hsol := (hs (vec n X 1) (vec_small hX (by omega))).2 fun i hi => by
    rw [vec_last, M.gmul_one (hX i hi)]
    unfold vec
    rw [if_pos hi]
  have hyi : ∀ i, i < n → y i = M.xsum n (fun k => M.gmul (x i k) (X k)) := fun i hi => by
    have h := hsol i hi
    rw [dot_vec, M.gmul_one (hy i hi)] at h
    have h2 := congrArg (fun t => t ^^^ y i) h
    simp only [Nat.xor_assoc, Nat.xor_self, Nat.xor_zero, Nat.zero_xor] at h2
    exact h2.symm
  have hc := M.cramer (x := cutV n X) (y := cutV n y) hk (cutM_lt hx) (cutV_lt hX) fun i hi => by rw [comb_is x X hi, cutV_in y hi, hyi i hi]
  rw [det_cut2, det_cut, cutV_in X hk] at hc
  unfold solX
  rw [hc, M.gmul_comm (X k), M.gmul_assoc, M.gmul_comm (M.ginv _), M.gmul_ginv (M.det_lt _ _) hd, M.gmul_comm, M.gmul_one (hX k hk)]
theorem tell_none {n : Nat} {x : Nat → Nat → Nat} {y z : Nat → Nat} (hx : ∀ i, i < n → ∀ j, j < n → x i j < 256) (hz : M.SmallV n z) (hn : z n = 0) (hne : ∃ j, j < n ∧ z j ≠ 0) (hs : M.Sol n (joinM n x y) z) : M.det n x = 0 := by
  rw [← det_cut]
  refine M.det_of_ker (cutM_lt hx) ⟨cutV n z, cutV_lt fun i hi => hz i (by omega), ?_, fun i hi => ?_⟩
  · obtain ⟨j, hj, h⟩ := hne
    exact ⟨j, hj, by rw [cutV_in z hj]; exact h⟩
  · rw [comb_is x z hi]
    have h := hs i hi
    have h2 : M.xsum n (fun j => M.gmul (joinM n x y i j) (z j)) ^^^ M.gmul (joinM n x y i n) (z n) = 0 := h
    rw [hn, M.gmul_zero_right, Nat.xor_zero] at h2
    rw [← h2]
    exact M.xsum_congr fun j hj => by unfold joinM; rw [if_pos hj]
end det
end Go.Proofs.YtlhjpceaookanaaGreatDoor
set_option linter.unusedVariables false
namespace Go.Proofs.YtlhjpceaookanaaGreatDoor.M
set_option maxRecDepth 100000
theorem sweep {n : Nat} {m : Nat → Nat → Nat} (hm : Small n m) (hker : ∀ z, SmallV n z → z n = 0 → Sol n m z → ∀ j, j < n → z j = 0) :
    ∀ k, k ≤ n → ∃ m', Small n m' ∧ Units n m' k ∧ ∀ z, SmallV n z → (Sol n m' z ↔ Sol n m z)
  | 0, _ => ⟨m, hm, fun j hj => absurd hj (by omega), fun _ _ => Iff.rfl⟩
  | k + 1, h => by
    obtain ⟨m', h1, h2, h3⟩ := sweep hm hker k (by omega)
    have hk : k < n := by omega
    by_cases hp : ∃ p, k ≤ p ∧ p < n ∧ m' p k ≠ 0
    · obtain ⟨p, hp1, hp2, hp3⟩ := hp
      have hs : Small n (fun i => m' (swapR k p i)) := fun i hi j hj => h1 _ (swapR_lt hk hp2 hi) j hj
      have hu := units_swap hk hp2 hp1 h2
      refine ⟨elim (fun i => m' (swapR k p i)) k, elim_small hk hs, units_elim hk hs hu ?_, fun z hz => ?_⟩
      · show m' (swapR k p k) k ≠ 0
        rw [show swapR k p k = p from if_pos rfl]
        exact hp3
      · rw [sol_elim hk hs hz, sol_swap hk hp2, h3 z hz]
    · have hz0 : ∀ i, k ≤ i → i < n → m' i k = 0 := fun i hi hin => Classical.byContradiction fun hne => hp ⟨i, hi, hin, hne⟩
      have hks := kern_small hk h1
      have hkn : kern m' k n = 0 := by unfold kern; rw [if_neg (by omega), if_neg (by omega)]
      have h4 := hker _ hks hkn ((h3 _ hks).1 (kern_sol hk h1 h2 hz0)) k hk
      unfold kern at h4
      rw [if_neg (by omega), if_pos rfl] at h4
      omega
/-- which of the q missing ones column i is -/
def ixL : Nat → (Nat → Nat) → Nat → Nat
  | 0, _, _ => 0
  | q + 1, l, i => if l q = i then q else ixL q l i
theorem ixL_at {l : Nat → Nat} : ∀ {q x : Nat}, (∀ x y, x < y → y < q → l x < l y) → x < q → ixL q l (l x) = x
  | 0, _, _, hx => absurd hx (by omega)
  | q + 1, x, hl, hx => by
    unfold ixL
    by_cases e : x = q
    · rw [if_pos (by rw [e])]; exact e.symm
    · have h := hl x q (by omega) (by omega)
      rw [if_neg (by omega)]
      exact ixL_at (fun x y h1 h2 => hl x y h1 (by omega)) (by omega)
end Go.Proofs.YtlhjpceaookanaaGreatDoor.M
namespace Go.Proofs.YtlhjpceaookanaaGreatDoor
open Go Go.RowKit
namespace det
theorem solved {n : Nat} {F : Nat → Nat → Nat} {s : Nat → Nat} (hF : ∀ y x, F y x < 256) (hs : ∀ y, y < n → s y < 256) {G : Nat → Nat → Nat} (h : M.Undo n G F) :
    M.det n F ≠ 0 ∧ (∀ x, x < n → solX n F s x < 256) ∧ ∀ y, y < n → M.xsum n (fun x => M.gmul (F y x) (solX n F s x)) = s y := by
  have hm : M.Small n (joinM n F s) := fun i hi j hj => by
    unfold joinM
    split
    · exact hF _ _
    · exact hs i hi
  have hd : ∀ z : Nat → Nat, ∀ i, M.dot (n + 1) (joinM n F s i) z = M.xsum n (fun x => M.gmul (F i x) (z x)) ^^^ M.gmul (s i) (z n) := fun z i => by
    show M.xsum n (fun j => M.gmul (joinM n F s i j) (z j)) ^^^ M.gmul (joinM n F s i n) (z n) = _
    rw [show joinM n F s i n = s i from if_neg (by omega)]
    congr 1
    exact M.xsum_congr fun j hj => by unfold joinM; rw [if_pos hj]
  have hker : ∀ z, M.SmallV n z → z n = 0 → M.Sol n (joinM n F s) z → ∀ j, j < n → z j = 0 := fun z hz h0 hsol => M.undo_zero hF h (fun x hx => hz x (by omega)) fun y hy => by
    have h1 := hsol y hy
    rw [hd, h0, M.gmul_zero_right, Nat.xor_zero] at h1
    exact h1
  obtain ⟨m', hm', hu, he⟩ := M.sweep hm hker n (Nat.le_refl n)
  obtain ⟨X, hXe⟩ : ∃ X : Nat → Nat, X = fun i => m' i n := ⟨_, rfl⟩
  have hX : ∀ i, i < n → X i < 256 := fun i hi => by rw [hXe]; exact hm' i hi n (Nat.le_refl n)
  have hiff : ∀ z, M.SmallV n z → (M.Sol n (joinM n F s) z ↔ ∀ i, i < n → z i = M.gmul (X i) (z n)) := fun z hz => by rw [← he z hz, M.sol_done hu hz, hXe]
  obtain ⟨h1, h2⟩ := tell_one (fun i _ j _ => hF i j) hs hX hiff
  refine ⟨h1, fun x hx => by rw [h2 x hx]; exact hX x hx, fun y hy => ?_⟩
  have hsol := (hiff (vec n X 1) (vec_small hX (by omega))).2 fun i hi => by
    rw [vec_last, M.gmul_one (hX i hi)]
    unfold vec
    rw [if_pos hi]
  have h3 := hsol y hy
  rw [dot_vec, M.gmul_one (hs y hy)] at h3
  have h4 := congrArg (fun t => t ^^^ s y) h3
  simp only [Nat.xor_assoc, Nat.xor_self, Nat.xor_zero, Nat.zero_xor] at h4
  rw [← h4]
  exact M.xsum_congr fun x hx => by rw [h2 x hx]
end det
/-- what is left of the y-th parity that is taken -/
def docS (k : Nat) (j : Nat → Nat) (X : Nat → Nat → Nat) (v y : Nat) : Nat := X (k + j y) v ^^^ M.par k (j y) X v
/-- the data columns: those that are there, and what the equations give for the others -/
def docI (k q : Nat) (l j : Nat → Nat) (X : Nat → Nat → Nat) (i v : Nat) : Nat :=
  if M.isL q l i then det.solX q (M.fac l j) (docS k j X v) (M.ixL q l i) else X i v
/-- all columns -/
def docA (k m q : Nat) (bz : Nat → Int) (l j : Nat → Nat) (X : Nat → Nat → Nat) (i v : Nat) : Nat :=
  if i < k then docI k q l j X i v else if isB m bz i then M.par k (i - k) (docI k q l j X) v else X i v
theorem docS_lt {k q v : Nat} {j : Nat → Nat} {X : Nat → Nat → Nat} (hj2 : ∀ x, x < q → j x < 3) (hX : ∀ i, i < k + 3 → X i v < 256) {y : Nat} (hy : y < q) : docS k j X v y < 256 :=
  M.xor_lt (hX _ (by have := hj2 y hy; omega)) (M.xsum_lt fun _ _ => M.gmul_lt _ _)
section
variable {k q v : Nat} {l j : Nat → Nat} {X : Nat → Nat → Nat} (hq : q ≤ 3) (hk : k ≤ 13)
  (hl : ∀ x y, x < y → y < q → l x < l y) (hl2 : ∀ x, x < q → l x < k) (hj : ∀ x y, x < y → y < q → j x < j y) (hj2 : ∀ x, x < q → j x < 3)
  (hX : ∀ i, i < k + 3 → X i v < 256)
include hq hk hl hl2 hj hj2 hX
theorem doc_solved : M.det q (M.fac l j) ≠ 0 ∧ (∀ x, x < q → det.solX q (M.fac l j) (docS k j X v) x < 256) ∧ ∀ y, y < q → M.xsum q (fun x => M.gmul (M.fac l j y x) (det.solX q (M.fac l j) (docS k j X v) x)) = docS k j X v y := by
  obtain ⟨G, hG⟩ := M.undo_all hq l j hl (fun x hx => by have := hl2 x hx; omega) hj hj2
  exact det.solved (M.fac_lt l j) (fun y hy => docS_lt hj2 hX hy) hG
theorem docI_lt {i : Nat} (hi : i < k) : docI k q l j X i v < 256 := by
  unfold docI
  by_cases h : M.isL q l i = true
  · rw [if_pos h]
    obtain ⟨x, hx, e⟩ := M.isL_of h
    rw [← e, M.ixL_at hl hx]
    exact (doc_solved hq hk hl hl2 hj hj2 hX).2.1 x hx
  · rw [if_neg h]
    exact hX i (by omega)
theorem docI_par (h0 : ∀ x, x < q → X (l x) v = 0) {y : Nat} (hy : y < q) : X (k + j y) v = M.par k (j y) (docI k q l j X) v := by
  obtain ⟨_, h1, h2⟩ := doc_solved hq hk hl hl2 hj hj2 hX
  have h3 := h2 y hy
  generalize hS : det.solX q (M.fac l j) (docS k j X v) = S at *
  have e1 : ∀ i, i < k → M.gmul (M.pw (i * j y)) (docI k q l j X i v) = M.gmul (M.pw (i * j y)) (X i v) ^^^ (if M.isL q l i then M.gmul (M.pw (i * j y)) (S (M.ixL q l i)) else 0) := fun i hi => by
    unfold docI
    by_cases h : M.isL q l i = true
    · obtain ⟨x, hx, e⟩ := M.isL_of h
      rw [if_pos h, if_pos h, hS, ← e, h0 x hx, M.gmul_zero_right, Nat.zero_xor]
    · rw [if_neg h, if_neg h, Nat.xor_zero]
  have e2 := M.xsum_pick k l (fun i => M.gmul (M.pw (i * j y)) (S (M.ixL q l i))) q hl hl2
  have e3 : M.xsum q (fun x => M.gmul (M.pw (l x * j y)) (S (M.ixL q l (l x)))) = docS k j X v y := by
    rw [← h3]
    exact M.xsum_congr fun x hx => by rw [M.ixL_at hl hx]; rfl
  have e4 : M.par k (j y) (docI k q l j X) v = M.par k (j y) X v ^^^ docS k j X v y := by
    rw [← e3]
    have e5 : M.xsum q (fun x => M.gmul (M.pw (l x * j y)) (S (M.ixL q l (l x)))) = M.xsum q (fun x => (fun i => M.gmul (M.pw (i * j y)) (S (M.ixL q l i))) (l x)) := rfl
    rw [e5, ← e2]
    unfold M.par
    rw [← M.xsum_xor]
    exact M.xsum_congr e1
  rw [e4]
  unfold docS
  rw [Nat.xor_comm (X (k + j y) v), ← Nat.xor_assoc, Nat.xor_self, Nat.zero_xor]
end
end Go.Proofs.YtlhjpceaookanaaGreatDoor
namespace Go.Proofs.YtlhjpceaookanaaGreatDoor
open Go Go.RowKit
set_option maxRecDepth 100000
set_option linter.unusedVariables false

theorem first_lt {m f i : Nat} {b : Nat → Int} (h : First m b f) (hi : i < f) : isB m b i = true := isB_true (j := i) (by have := h.1; omega) (h.2.1 i hi)
theorem first_at {m f : Nat} {b : Nat → Int} {N : Int} (h : First m b f) (hr : Rise m b N) : isB m b f = false := isB_false fun j hj e => by
  rcases Nat.lt_trichotomy j f with h1 | h1 | h1
  · have := h.2.1 j h1; omega
  · subst h1; exact h.2.2 hj e
  · have h2 := hr.lt h1 hj
    have h3 := hr.ge f (by omega)
    omega

end Go.Proofs.YtlhjpceaookanaaGreatDoor
namespace Go.Proofs.YtlhjpceaookanaaGreatDoor
open Go Go.RowKit
set_option maxRecDepth 100000
set_option linter.unusedVariables false

end Go.Proofs.YtlhjpceaookanaaGreatDoor
namespace Go.Proofs.YtlhjpceaookanaaGreatDoor
open Go Go.RowKit
set_option maxRecDepth 100000
set_option linter.unusedVariables false

end Go.Proofs.YtlhjpceaookanaaGreatDoor
