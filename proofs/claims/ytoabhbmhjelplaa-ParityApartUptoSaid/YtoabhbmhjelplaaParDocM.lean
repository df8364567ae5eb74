/-
  Determinants tell the same as sweeping: what 'Solve' answers is what the document's 'Solve' answers. Conditions: elements are bytes.
-/
import Derived.Test.YtoabhbmhjelplaaDetSolve
import Derived.Test.YtoabhbmhjelplaaFieldSys
import Derived.Test.YtoabhbmhjelplaaParHealAll
namespace Go.Proofs.Ytoabhbmhjelplaa
open Go Go.RowKit
set_option linter.unusedVariables false
theorem RowG.rdb' {w : World} {g n : Nat} {X : Nat → Nat} (h : RowG w g n X) (hX : ∀ j, j < n → X j < 256) : RdB w (g + 1) (some ⟨g, 0, none⟩) n X := fun j hj => ⟨g, 0, rfl, by omega, by rw [Nat.zero_add]; exact h.cell hj, hX j hj⟩
namespace det
def cutM (n : Nat) (x : Nat → Nat → Nat) (i j : Nat) : Nat := if i < n ∧ j < n then x i j else 0
def cutV (n : Nat) (y : Nat → Nat) (i : Nat) : Nat := if i < n then y i else 0
theorem cutM_lt {n : Nat} {x : Nat → Nat → Nat} (hx : ∀ i, i < n → ∀ j, j < n → x i j < 256) (i j : Nat) : cutM n x i j < 256 := by
  unfold cutM
  split
  · rename_i h; exact hx i h.1 j h.2
  · omega
theorem cutV_lt {n : Nat} {y : Nat → Nat} (hy : ∀ i, i < n → y i < 256) (i : Nat) : cutV n y i < 256 := by
  unfold cutV
  split
  · rename_i h; exact hy i h
  · omega
theorem cutM_in {n : Nat} (x : Nat → Nat → Nat) {i j : Nat} (hi : i < n) (hj : j < n) : cutM n x i j = x i j := if_pos ⟨hi, hj⟩
theorem cutV_in {n : Nat} (y : Nat → Nat) {i : Nat} (hi : i < n) : cutV n y i = y i := if_pos hi
theorem det_cut (n : Nat) (x : Nat → Nat → Nat) : M.det n (cutM n x) = M.det n x := M.det_congr n _ _ fun i hi j hj => cutM_in x hi hj
theorem det_cut2 (n k : Nat) (x : Nat → Nat → Nat) (y : Nat → Nat) : M.det n (M.setc (cutM n x) k (cutV n y)) = M.det n (M.setc x k y) := M.det_congr n _ _ fun i hi j hj => by
  unfold M.setc
  by_cases h : j = k
  · rw [if_pos h, if_pos h, cutV_in y hi]
  · rw [if_neg h, if_neg h, cutM_in x hi hj]
theorem comb_is {n i : Nat} (x : Nat → Nat → Nat) (v : Nat → Nat) (hi : i < n) : M.comb n (cutM n x) (cutV n v) i = M.xsum n (fun k => M.gmul (x i k) (v k)) := M.xsum_congr fun j hj => by
  rw [cutM_in x hi hj, cutV_in v hj, M.gmul_comm]
theorem tell_one {n : Nat} {x : Nat → Nat → Nat} {y X : Nat → Nat} (hx : ∀ i, i < n → ∀ j, j < n → x i j < 256) (hy : ∀ i, i < n → y i < 256) (hX : ∀ i, i < n → X i < 256)
    (hs : ∀ z, M.SmallV n z → (M.Sol n (joinM n x y) z ↔ ∀ i, i < n → z i = M.gmul (X i) (z n))) : M.det n x ≠ 0 ∧ ∀ k, k < n → solX n x y k = X k := by
  have hd : M.det n x ≠ 0 := fun h0 => by
    rw [← det_cut] at h0
    obtain ⟨z, hz, ⟨j, hj, hne⟩, hker⟩ := M.ker_of_det n (cutM n x) (cutM_lt hx) h0
    have hzi : ∀ i, i < n → M.xsum n (fun k => M.gmul (x i k) (z k)) = 0 := fun i hi => by
      rw [← hker i hi]
      exact M.xsum_congr fun j hj => by rw [cutM_in x hi hj, M.gmul_comm]
    have h1 := (hs (vec n z 0) (vec_small (fun j _ => hz j) (by omega))).1 (fun i hi => by rw [dot_vec, hzi i hi, M.gmul_zero_right, Nat.xor_self]) j hj
    rw [vec_last, M.gmul_zero_right] at h1
    unfold vec at h1
    rw [if_pos hj] at h1
    exact hne h1
  refine ⟨hd, fun k hk => ?_⟩
  have hsol := (hs (vec n X 1) (vec_small hX (by omega))).2 fun i hi => by
    rw [vec_last, M.gmul_one (hX i hi)]
    unfold vec
    rw [if_pos hi]
  have hyi : ∀ i, i < n → y i = M.xsum n (fun k => M.gmul (x i k) (X k)) := fun i hi => by
    have h := hsol i hi
    rw [dot_vec, M.gmul_one (hy i hi)] at h
    have h2 := congrArg (fun t => t ^^^ y i) h
    simp only [Nat.xor_assoc, Nat.xor_self, Nat.xor_zero, Nat.zero_xor] at h2
    exact h2.symm
  have hc := M.cramer (x := cutV n X) (y := cutV n y) hk (cutM_lt hx) (cutV_lt hX) fun i hi => by rw [comb_is x X hi, cutV_in y hi, hyi i hi]
  rw [det_cut2, det_cut, cutV_in X hk] at hc
  unfold solX
  rw [hc, M.gmul_comm (X k), M.gmul_assoc, M.gmul_comm (M.ginv _), M.gmul_ginv (M.det_lt _ _) hd, M.gmul_comm, M.gmul_one (hX k hk)]
theorem tell_none {n : Nat} {x : Nat → Nat → Nat} {y z : Nat → Nat} (hx : ∀ i, i < n → ∀ j, j < n → x i j < 256) (hz : M.SmallV n z) (hn : z n = 0) (hne : ∃ j, j < n ∧ z j ≠ 0) (hs : M.Sol n (joinM n x y) z) : M.det n x = 0 := by
  rw [← det_cut]
  refine M.det_of_ker (cutM_lt hx) ⟨cutV n z, cutV_lt fun i hi => hz i (by omega), ?_, fun i hi => ?_⟩
  · obtain ⟨j, hj, h⟩ := hne
    exact ⟨j, hj, by rw [cutV_in z hj]; exact h⟩
  · rw [comb_is x z hi]
    have h := hs i hi
    have h2 : M.xsum n (fun j => M.gmul (joinM n x y i j) (z j)) ^^^ M.gmul (joinM n x y i n) (z n) = 0 := h
    rw [hn, M.gmul_zero_right, Nat.xor_zero] at h2
    rw [← h2]
    exact M.xsum_congr fun j hj => by unfold joinM; rw [if_pos hj]
end det
end Go.Proofs.Ytoabhbmhjelplaa
set_option linter.unusedVariables false
namespace Go.Proofs.Ytoabhbmhjelplaa.M
theorem sweep {n : Nat} {m : Nat → Nat → Nat} (hm : Small n m) (hker : ∀ z, SmallV n z → z n = 0 → Sol n m z → ∀ j, j < n → z j = 0) :
    ∀ k, k ≤ n → ∃ m', Small n m' ∧ Units n m' k ∧ ∀ z, SmallV n z → (Sol n m' z ↔ Sol n m z)
  | 0, _ => ⟨m, hm, fun j hj => absurd hj (by omega), fun _ _ => Iff.rfl⟩
  | k + 1, h => by
    obtain ⟨m', h1, h2, h3⟩ := sweep hm hker k (by omega)
    have hk : k < n := by omega
    by_cases hp : ∃ p, k ≤ p ∧ p < n ∧ m' p k ≠ 0
    · obtain ⟨p, hp1, hp2, hp3⟩ := hp
      have hs : Small n (fun i => m' (swapR k p i)) := fun i hi j hj => h1 _ (swapR_lt hk hp2 hi) j hj
      have hu := units_swap hk hp2 hp1 h2
      refine ⟨elim (fun i => m' (swapR k p i)) k, elim_small hk hs, units_elim hk hs hu ?_, fun z hz => ?_⟩
      · show m' (swapR k p k) k ≠ 0
        rw [show swapR k p k = p from if_pos rfl]
        exact hp3
      · rw [sol_elim hk hs hz, sol_swap hk hp2, h3 z hz]
    · have hz0 : ∀ i, k ≤ i → i < n → m' i k = 0 := fun i hi hin => Classical.byContradiction fun hne => hp ⟨i, hi, hin, hne⟩
      have hks := kern_small hk h1
      have hkn : kern m' k n = 0 := by unfold kern; rw [if_neg (by omega), if_neg (by omega)]
      have h4 := hker _ hks hkn ((h3 _ hks).1 (kern_sol hk h1 h2 hz0)) k hk
      unfold kern at h4
      rw [if_neg (by omega), if_pos rfl] at h4
      omega
/-- which of the q missing ones column i is -/
def ixL : Nat → (Nat → Nat) → Nat → Nat
  | 0, _, _ => 0
  | q + 1, l, i => if l q = i then q else ixL q l i
theorem ixL_at {l : Nat → Nat} : ∀ {q x : Nat}, (∀ x y, x < y → y < q → l x < l y) → x < q → ixL q l (l x) = x
  | 0, _, _, hx => absurd hx (by omega)
  | q + 1, x, hl, hx => by
    unfold ixL
    by_cases e : x = q
    · rw [if_pos (by rw [e])]; exact e.symm
    · have h := hl x q (by omega) (by omega)
      rw [if_neg (by omega)]
      exact ixL_at (fun x y h1 h2 => hl x y h1 (by omega)) (by omega)
end Go.Proofs.Ytoabhbmhjelplaa.M
namespace Go.Proofs.Ytoabhbmhjelplaa
open Go Go.RowKit
namespace det
theorem solved {n : Nat} {F : Nat → Nat → Nat} {s : Nat → Nat} (hF : ∀ y x, F y x < 256) (hs : ∀ y, y < n → s y < 256) {G : Nat → Nat → Nat} (h : M.Undo n G F) :
    M.det n F ≠ 0 ∧ (∀ x, x < n → solX n F s x < 256) ∧ ∀ y, y < n → M.xsum n (fun x => M.gmul (F y x) (solX n F s x)) = s y := by
  have hm : M.Small n (joinM n F s) := fun i hi j hj => by
    unfold joinM
    split
    · exact hF _ _
    · exact hs i hi
  have hd : ∀ z : Nat → Nat, ∀ i, M.dot (n + 1) (joinM n F s i) z = M.xsum n (fun x => M.gmul (F i x) (z x)) ^^^ M.gmul (s i) (z n) := fun z i => by
    show M.xsum n (fun j => M.gmul (joinM n F s i j) (z j)) ^^^ M.gmul (joinM n F s i n) (z n) = _
    rw [show joinM n F s i n = s i from if_neg (by omega)]
    congr 1
    exact M.xsum_congr fun j hj => by unfold joinM; rw [if_pos hj]
  have hker : ∀ z, M.SmallV n z → z n = 0 → M.Sol n (joinM n F s) z → ∀ j, j < n → z j = 0 := fun z hz h0 hsol => M.undo_zero hF h (fun x hx => hz x (by omega)) fun y hy => by
    have h1 := hsol y hy
    rw [hd, h0, M.gmul_zero_right, Nat.xor_zero] at h1
    exact h1
  obtain ⟨m', hm', hu, he⟩ := M.sweep hm hker n (Nat.le_refl n)
  obtain ⟨X, hXe⟩ : ∃ X : Nat → Nat, X = fun i => m' i n := ⟨_, rfl⟩
  have hX : ∀ i, i < n → X i < 256 := fun i hi => by rw [hXe]; exact hm' i hi n (Nat.le_refl n)
  have hiff : ∀ z, M.SmallV n z → (M.Sol n (joinM n F s) z ↔ ∀ i, i < n → z i = M.gmul (X i) (z n)) := fun z hz => by rw [← he z hz, M.sol_done hu hz, hXe]
  obtain ⟨h1, h2⟩ := tell_one (fun i _ j _ => hF i j) hs hX hiff
  refine ⟨h1, fun x hx => by rw [h2 x hx]; exact hX x hx, fun y hy => ?_⟩
  have hsol := (hiff (vec n X 1) (vec_small hX (by omega))).2 fun i hi => by
    rw [vec_last, M.gmul_one (hX i hi)]
    unfold vec
    rw [if_pos hi]
  have h3 := hsol y hy
  rw [dot_vec, M.gmul_one (hs y hy)] at h3
  have h4 := congrArg (fun t => t ^^^ s y) h3
  simp only [Nat.xor_assoc, Nat.xor_self, Nat.xor_zero, Nat.zero_xor] at h4
  rw [← h4]
  exact M.xsum_congr fun x hx => by rw [h2 x hx]
end det
/-- what is left of the y-th parity that is taken -/
def docS (k : Nat) (j : Nat → Nat) (X : Nat → Nat → Nat) (v y : Nat) : Nat := X (k + j y) v ^^^ M.par k (j y) X v
/-- the data columns: those that are there, and what the equations give for the others -/
def docI (k q : Nat) (l j : Nat → Nat) (X : Nat → Nat → Nat) (i v : Nat) : Nat :=
  if M.isL q l i then det.solX q (M.fac l j) (docS k j X v) (M.ixL q l i) else X i v
/-- all columns -/
def docA (k m q : Nat) (bz : Nat → Int) (l j : Nat → Nat) (X : Nat → Nat → Nat) (i v : Nat) : Nat :=
  if i < k then docI k q l j X i v else if isB m bz i then M.par k (i - k) (docI k q l j X) v else X i v
theorem docS_lt {k q v : Nat} {j : Nat → Nat} {X : Nat → Nat → Nat} (hj2 : ∀ x, x < q → j x < 3) (hX : ∀ i, i < k + 3 → X i v < 256) {y : Nat} (hy : y < q) : docS k j X v y < 256 :=
  M.xor_lt (hX _ (by have := hj2 y hy; omega)) (M.xsum_lt fun _ _ => M.gmul_lt _ _)
section
variable {k q v : Nat} {l j : Nat → Nat} {X : Nat → Nat → Nat} (hq : q ≤ 3) (hk : k ≤ 13)
  (hl : ∀ x y, x < y → y < q → l x < l y) (hl2 : ∀ x, x < q → l x < k) (hj : ∀ x y, x < y → y < q → j x < j y) (hj2 : ∀ x, x < q → j x < 3)
  (hX : ∀ i, i < k + 3 → X i v < 256)
include hq hk hl hl2 hj hj2 hX
theorem doc_solved : M.det q (M.fac l j) ≠ 0 ∧ (∀ x, x < q → det.solX q (M.fac l j) (docS k j X v) x < 256) ∧ ∀ y, y < q → M.xsum q (fun x => M.gmul (M.fac l j y x) (det.solX q (M.fac l j) (docS k j X v) x)) = docS k j X v y := by
  obtain ⟨G, hG⟩ := M.undo_all hq l j hl (fun x hx => by have := hl2 x hx; omega) hj hj2
  exact det.solved (M.fac_lt l j) (fun y hy => docS_lt hj2 hX hy) hG
theorem docI_lt {i : Nat} (hi : i < k) : docI k q l j X i v < 256 := by
  unfold docI
  by_cases h : M.isL q l i = true
  · rw [if_pos h]
    obtain ⟨x, hx, e⟩ := M.isL_of h
    rw [← e, M.ixL_at hl hx]
    exact (doc_solved hq hk hl hl2 hj hj2 hX).2.1 x hx
  · rw [if_neg h]
    exact hX i (by omega)
theorem docI_par (h0 : ∀ x, x < q → X (l x) v = 0) {y : Nat} (hy : y < q) : X (k + j y) v = M.par k (j y) (docI k q l j X) v := by
  obtain ⟨_, h1, h2⟩ := doc_solved hq hk hl hl2 hj hj2 hX
  have h3 := h2 y hy
  generalize hS : det.solX q (M.fac l j) (docS k j X v) = S at *
  have e1 : ∀ i, i < k → M.gmul (M.pw (i * j y)) (docI k q l j X i v) = M.gmul (M.pw (i * j y)) (X i v) ^^^ (if M.isL q l i then M.gmul (M.pw (i * j y)) (S (M.ixL q l i)) else 0) := fun i hi => by
    unfold docI
    by_cases h : M.isL q l i = true
    · obtain ⟨x, hx, e⟩ := M.isL_of h
      rw [if_pos h, if_pos h, hS, ← e, h0 x hx, M.gmul_zero_right, Nat.zero_xor]
    · rw [if_neg h, if_neg h, Nat.xor_zero]
  have e2 := M.xsum_pick k l (fun i => M.gmul (M.pw (i * j y)) (S (M.ixL q l i))) q hl hl2
  have e3 : M.xsum q (fun x => M.gmul (M.pw (l x * j y)) (S (M.ixL q l (l x)))) = docS k j X v y := by
    rw [← h3]
    exact M.xsum_congr fun x hx => by rw [M.ixL_at hl hx]; rfl
  have e4 : M.par k (j y) (docI k q l j X) v = M.par k (j y) X v ^^^ docS k j X v y := by
    rw [← e3]
    have e5 : M.xsum q (fun x => M.gmul (M.pw (l x * j y)) (S (M.ixL q l (l x)))) = M.xsum q (fun x => (fun i => M.gmul (M.pw (i * j y)) (S (M.ixL q l i))) (l x)) := rfl
    rw [e5, ← e2]
    unfold M.par
    rw [← M.xsum_xor]
    exact M.xsum_congr e1
  rw [e4]
  unfold docS
  rw [Nat.xor_comm (X (k + j y) v), ← Nat.xor_assoc, Nat.xor_self, Nat.zero_xor]
end
end Go.Proofs.Ytoabhbmhjelplaa
