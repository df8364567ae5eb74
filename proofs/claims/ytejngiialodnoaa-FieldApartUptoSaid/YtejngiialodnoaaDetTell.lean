/-
  Determinants tell the same as sweeping: what 'Solve' answers is what the document's 'Solve' answers. Conditions: elements are bytes.
-/
import Derived.Test.YtejngiialodnoaaDetSolve
import Derived.Test.YtejngiialodnoaaFieldSys
namespace Go.Proofs.Ytejngiialodnoaa
open Go Go.RowKit
set_option linter.unusedVariables false
theorem RowG.rdb' {w : World} {g n : Nat} {X : Nat → Nat} (h : RowG w g n X) (hX : ∀ j, j < n → X j < 256) : RdB w (g + 1) (some ⟨g, 0, none⟩) n X := fun j hj => ⟨g, 0, rfl, by omega, by rw [Nat.zero_add]; exact h.cell hj, hX j hj⟩
namespace det
def cutM (n : Nat) (x : Nat → Nat → Nat) (i j : Nat) : Nat := if i < n ∧ j < n then x i j else 0
def cutV (n : Nat) (y : Nat → Nat) (i : Nat) : Nat := if i < n then y i else 0
theorem cutM_lt {n : Nat} {x : Nat → Nat → Nat} (hx : ∀ i, i < n → ∀ j, j < n → x i j < 256) (i j : Nat) : cutM n x i j < 256 := by
  unfold cutM
  split
  · rename_i h; exact hx i h.1 j h.2
  · omega
theorem cutV_lt {n : Nat} {y : Nat → Nat} (hy : ∀ i, i < n → y i < 256) (i : Nat) : cutV n y i < 256 := by
  unfold cutV
  split
  · rename_i h; exact hy i h
  · omega
theorem cutM_in {n : Nat} (x : Nat → Nat → Nat) {i j : Nat} (hi : i < n) (hj : j < n) : cutM n x i j = x i j := if_pos ⟨hi, hj⟩
theorem cutV_in {n : Nat} (y : Nat → Nat) {i : Nat} (hi : i < n) : cutV n y i = y i := if_pos hi
theorem det_cut (n : Nat) (x : Nat → Nat → Nat) : M.det n (cutM n x) = M.det n x := M.det_congr n _ _ fun i hi j hj => cutM_in x hi hj
theorem det_cut2 (n k : Nat) (x : Nat → Nat → Nat) (y : Nat → Nat) : M.det n (M.setc (cutM n x) k (cutV n y)) = M.det n (M.setc x k y) := M.det_congr n _ _ fun i hi j hj => by
  unfold M.setc
  by_cases h : j = k
  · rw [if_pos h, if_pos h, cutV_in y hi]
  · rw [if_neg h, if_neg h, cutM_in x hi hj]
theorem comb_is {n i : Nat} (x : Nat → Nat → Nat) (v : Nat → Nat) (hi : i < n) : M.comb n (cutM n x) (cutV n v) i = M.xsum n (fun k => M.gmul (x i k) (v k)) := M.xsum_congr fun j hj => by
  rw [cutM_in x hi hj, cutV_in v hj, M.gmul_comm]
theorem tell_one {n : Nat} {x : Nat → Nat → Nat} {y X : Nat → Nat} (hx : ∀ i, i < n → ∀ j, j < n → x i j < 256) (hy : ∀ i, i < n → y i < 256) (hX : ∀ i, i < n → X i < 256)
    (hs : ∀ z, M.SmallV n z → (M.Sol n (joinM n x y) z ↔ ∀ i, i < n → z i = M.gmul (X i) (z n))) : M.det n x ≠ 0 ∧ ∀ k, k < n → solX n x y k = X k := by
  have hd : M.det n x ≠ 0 := fun h0 => by
    rw [← det_cut] at h0
    obtain ⟨z, hz, ⟨j, hj, hne⟩, hker⟩ := M.ker_of_det n (cutM n x) (cutM_lt hx) h0
    have hzi : ∀ i, i < n → M.xsum n (fun k => M.gmul (x i k) (z k)) = 0 := fun i hi => by
      rw [← hker i hi]
      exact M.xsum_congr fun j hj => by rw [cutM_in x hi hj, M.gmul_comm]
    have h1 := (hs (vec n z 0) (vec_small (fun j _ => hz j) (by omega))).1 (fun i hi => by rw [dot_vec, hzi i hi, M.gmul_zero_right, Nat.xor_self]) j hj
    rw [vec_last, M.gmul_zero_right] at h1
    unfold vec at h1
    rw [if_pos hj] at h1
    exact hne h1
  refine ⟨hd, fun k hk => ?_⟩
  have hsol := (hs (vec n X 1) (vec_small hX (by omega))).2 fun i hi => by
    rw [vec_last, M.gmul_one (hX i hi)]
    unfold vec
    rw [if_pos hi]
  have hyi : ∀ i, i < n → y i = M.xsum n (fun k => M.gmul (x i k) (X k)) := fun i hi => by
    have h := hsol i hi
    rw [dot_vec, M.gmul_one (hy i hi)] at h
    have h2 := congrArg (fun t => t ^^^ y i) h
    simp only [Nat.xor_assoc, Nat.xor_self, Nat.xor_zero, Nat.zero_xor] at h2
    exact h2.symm
  have hc := M.cramer (x := cutV n X) (y := cutV n y) hk (cutM_lt hx) (cutV_lt hX) fun i hi => by rw [comb_is x X hi, cutV_in y hi, hyi i hi]
  rw [det_cut2, det_cut, cutV_in X hk] at hc
  unfold solX
  rw [hc, M.gmul_comm (X k), M.gmul_assoc, M.gmul_comm (M.ginv _), M.gmul_ginv (M.det_lt _ _) hd, M.gmul_comm, M.gmul_one (hX k hk)]
theorem tell_none {n : Nat} {x : Nat → Nat → Nat} {y z : Nat → Nat} (hx : ∀ i, i < n → ∀ j, j < n → x i j < 256) (hz : M.SmallV n z) (hn : z n = 0) (hne : ∃ j, j < n ∧ z j ≠ 0) (hs : M.Sol n (joinM n x y) z) : M.det n x = 0 := by
  rw [← det_cut]
  refine M.det_of_ker (cutM_lt hx) ⟨cutV n z, cutV_lt fun i hi => hz i (by omega), ?_, fun i hi => ?_⟩
  · obtain ⟨j, hj, h⟩ := hne
    exact ⟨j, hj, by rw [cutV_in z hj]; exact h⟩
  · rw [comb_is x z hi]
    have h := hs i hi
    have h2 : M.xsum n (fun j => M.gmul (joinM n x y i j) (z j)) ^^^ M.gmul (joinM n x y i n) (z n) = 0 := h
    rw [hn, M.gmul_zero_right, Nat.xor_zero] at h2
    rw [← h2]
    exact M.xsum_congr fun j hj => by unfold joinM; rw [if_pos hj]
end det
end Go.Proofs.Ytejngiialodnoaa
