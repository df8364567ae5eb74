/-
  Sectors, as plain mathematics: what is in one, what is told of one. No conditions.
-/
import Derived.Test.YtllglgkphlkopaaDoorPackBoth
import Derived.Test.YtllglgkphlkopaaDoorShaOpen
namespace Go.Proofs.YtllglgkphlkopaaDoor
open Go Go.RowKit
set_option linter.unusedVariables false
/-- a sum's 32 bytes -/
def sumL (L : List Nat) : List Nat := (List.range 32).map (M.sum L.length (lst L))
theorem sumL_length (L : List Nat) : (sumL L).length = 32 := by simp [sumL]
theorem sumL_lt (L : List Nat) : ∀ b ∈ sumL L, b < 256 := fun b h => by
  obtain ⟨j, _, rfl⟩ := List.mem_map.1 h
  exact M.sum_lt _ _ _
theorem lst_sumL {L : List Nat} {j : Nat} (h : j < 32) : lst (sumL L) j = M.sum L.length (lst L) j := by
  unfold lst sumL
  rw [List.getD_eq_getElem?_getD, List.getElem?_map, List.getElem?_range h]
  rfl
theorem lst_app (L R : List Nat) (j : Nat) : lst (L ++ R) j = if j < L.length then lst L j else lst R (j - L.length) := by
  unfold lst
  rw [List.getD_eq_getElem?_getD, List.getD_eq_getElem?_getD, List.getD_eq_getElem?_getD]
  by_cases h : j < L.length
  · rw [if_pos h, List.getElem?_append_left h]
  · rw [if_neg h, List.getElem?_append_right (by omega)]
theorem lst_in {L : List Nat} {j : Nat} (h : j < L.length) : L[j]? = some (lst L j) := by
  unfold lst
  rw [List.getD_eq_getElem?_getD, List.getElem?_eq_getElem h]
  rfl
theorem list_ext_lst {L R : List Nat} (hl : L.length = R.length) (h : ∀ j, j < L.length → lst L j = lst R j) : L = R := by
  apply List.ext_getElem?
  intro j
  by_cases hj : j < L.length
  · rw [lst_in hj, lst_in (by omega), h j hj]
  · rw [List.getElem?_eq_none (by omega), List.getElem?_eq_none (by omega)]
/-- bytes, and their sum behind -/
theorem cat_sum (L : List Nat) (j : Nat) (h : j < L.length + 32) : cat L.length (lst L) (M.sum L.length (lst L)) j = lst (L ++ sumL L) j := by
  rw [lst_app]
  unfold cat
  by_cases h1 : j < L.length
  · rw [if_pos h1, if_pos h1]
  · rw [if_neg h1, if_neg h1, lst_sumL (by omega)]
theorem strB_sum (L : List Nat) : strB 32 (M.sum L.length (lst L)) = K.txt (sumL L) := by
  rw [← strB_lst, sumL_length]
  exact strB_congr fun j hj => (lst_sumL hj).symm
/-- a sector of bytes -/
def secB (L : List Nat) : List Nat := (L.length + 32) :: (L ++ sumL L) ++ List.replicate (95 - L.length) 0
theorem secB_length {L : List Nat} (h : L.length ≤ 95) : (secB L).length = 128 := by
  unfold secB
  simp [sumL_length]
  omega
theorem secB_lt {L : List Nat} (h : L.length ≤ 95) (hL : ∀ b ∈ L, b < 256) : ∀ b ∈ secB L, b < 256 := fun b hb => by
  unfold secB at hb
  rcases List.mem_append.1 hb with h1 | h1
  · rcases List.mem_cons.1 h1 with rfl | h1
    · omega
    · rcases List.mem_append.1 h1 with h1 | h1
      · exact hL b h1
      · exact sumL_lt L b h1
  · have := (List.mem_replicate.1 h1).2
    omega
/-- what 'Sector' answers -/
def secE (l : List K.It) : Int := if K.fault l ≠ 0 then K.fault l else if 95 < (K.encs l).length then 14 else 0
def secL (l : List K.It) : List Nat := if secE l = 0 then secB (K.encs l) else []
theorem secE_zero {l : List K.It} (h : secE l = 0) : K.fault l = 0 ∧ (K.encs l).length ≤ 95 := by
  unfold secE at h
  by_cases h1 : K.fault l = 0
  · rw [if_neg (fun q => q h1)] at h
    by_cases h2 : 95 < (K.encs l).length
    · rw [if_pos h2] at h; cases h
    · exact ⟨h1, by omega⟩
  · rw [if_pos h1] at h
    exact absurd h h1
theorem secE_ok {l : List K.It} (h1 : K.fault l = 0) (h2 : (K.encs l).length ≤ 95) : secE l = 0 := by
  unfold secE
  rw [if_neg (fun q => q h1), if_neg (by omega)]
/-- the bytes between the count and the noughts -/
def bodyL (L : List Nat) : List Nat := (L.take (1 + lst L 0)).drop 1
/-- what is in a sector, if it is one -/
noncomputable def unsB (L : List Nat) : Option (List Nat) := open Classical in
  if L.length = 128 ∧ lst L 0 ≤ 127 ∧ (∀ b ∈ L.drop (1 + lst L 0), b = 0) ∧ 32 ≤ (bodyL L).length ∧ sealed (bodyL L).length (lst (bodyL L)) then some ((bodyL L).take ((bodyL L).length - 32)) else none
noncomputable def unsL (L : List Nat) : List K.It := match unsB L with | none => [] | some M => outL M
noncomputable def unsE (L : List Nat) : Int := match unsB L with | none => 2 | some M => outE M
theorem lst_take {L : List Nat} {n j : Nat} (h : j < n) : lst (L.take n) j = lst L j := by
  unfold lst
  rw [List.getD_eq_getElem?_getD, List.getD_eq_getElem?_getD, List.getElem?_take_of_lt h]
theorem sealed_app (L : List Nat) : sealed (L ++ sumL L).length (lst (L ++ sumL L)) := fun j hj => by
  have e : (L ++ sumL L).length - 32 = L.length := by simp [sumL_length]
  rw [e, M.sum_congr (Y := lst L) (fun k hk => by rw [lst_app, if_pos hk]), lst_app, if_neg (by omega), show L.length + j - L.length = j by omega, lst_sumL hj]
theorem sealed_eq {B : List Nat} (h32 : 32 ≤ B.length) (hs : sealed B.length (lst B)) : B = B.take (B.length - 32) ++ sumL (B.take (B.length - 32)) := by
  have hl : (B.take (B.length - 32)).length = B.length - 32 := by rw [List.length_take]; omega
  refine list_ext_lst (by rw [List.length_append, hl, sumL_length]; omega) fun j hj => ?_
  rw [lst_app, hl]
  by_cases h : j < B.length - 32
  · rw [if_pos h, lst_take h]
  · rw [if_neg h, lst_sumL (by omega), hl, M.sum_congr (Y := lst B) (fun k hk => lst_take hk), hs (j - (B.length - 32)) (by omega), show B.length - 32 + (j - (B.length - 32)) = j by omega]
theorem bodyL_sec {L : List Nat} : bodyL (secB L) = L ++ sumL L := by
  have e0 : lst (secB L) 0 = L.length + 32 := rfl
  unfold bodyL
  rw [e0]
  unfold secB
  rw [show 1 + (L.length + 32) = (L.length + 32) + 1 by omega, List.cons_append, List.take_succ_cons, List.drop_succ_cons, List.drop_zero, List.take_append_of_le_length (by simp [sumL_length]), List.take_of_length_le (by simp [sumL_length])]
theorem unsB_sec {L : List Nat} (h : L.length ≤ 95) : unsB (secB L) = some L := by
  have e0 : lst (secB L) 0 = L.length + 32 := rfl
  have eb := bodyL_sec (L := L)
  have hl : (L ++ sumL L).length = L.length + 32 := by simp [sumL_length]
  unfold unsB
  rw [if_pos ?_]
  · rw [eb, hl, show L.length + 32 - 32 = L.length by omega, List.take_append_of_le_length (Nat.le_refl _), List.take_of_length_le (Nat.le_refl _)]
  · refine ⟨secB_length h, by rw [e0]; omega, fun b hb => ?_, by rw [eb, hl]; omega, by rw [eb]; exact sealed_app L⟩
    rw [e0] at hb
    unfold secB at hb
    rw [show 1 + (L.length + 32) = (L.length + 32) + 1 by omega, List.cons_append, List.drop_succ_cons, List.drop_append_of_le_length (by simp [sumL_length]), List.drop_of_length_le (by simp [sumL_length])] at hb
    exact (List.mem_replicate.1 (by simpa using hb)).2
/-- what is told is in the sector's form -/
theorem unsB_back {L N : List Nat} (h : unsB L = some N) : N.length ≤ 95 ∧ L = secB N := by
  unfold unsB at h
  split at h
  · rename_i hc
    obtain ⟨h1, h2, h3, h4, h5⟩ := hc
    injection h with h
    have hb := sealed_eq h4 h5
    have hbl : (bodyL L).length = lst L 0 := by unfold bodyL; rw [List.length_drop, List.length_take]; omega
    rw [hbl] at hb h
    have hn : N.length = lst L 0 - 32 := by rw [← h, List.length_take, hbl]; omega
    rw [h] at hb
    refine ⟨by omega, ?_⟩
    have e1 : L = L.take (1 + lst L 0) ++ L.drop (1 + lst L 0) := (List.take_append_drop _ _).symm
    have e2 : L.drop (1 + lst L 0) = List.replicate (95 - N.length) 0 := by
      refine List.eq_replicate_iff.2 ⟨?_, h3⟩
      rw [List.length_drop]
      omega
    have e3 : L.take (1 + lst L 0) = lst L 0 :: bodyL L := by
      unfold bodyL
      cases L with
      | nil => simp at h1
      | cons a t => rw [show 1 + lst (a :: t) 0 = lst (a :: t) 0 + 1 by omega, List.take_succ_cons]; rfl
    unfold secB
    rw [← hb, show N.length + 32 = lst L 0 by rw [hbl] at h4; omega, ← e3, ← e2]
    exact e1
  · cases h
theorem secL_back {l : List K.It} (h : secE l = 0) (hg : ∀ x ∈ l, K.Fits x) : unsL (secL l) = l ∧ unsE (secL l) = 0 := by
  obtain ⟨h1, h2⟩ := secE_zero h
  have hr := K.fault_ok h1
  have hd := K.decs_enc 2000 l hr.1 hr.2 hg
  unfold secL unsL unsE
  rw [if_pos h, unsB_sec h2]
  show (K.decs 2000 (K.encs l)).getD [] = l ∧ (if (K.decs 2000 (K.encs l)).isSome then (0 : Int) else 2) = 0
  rw [hd]
  exact ⟨rfl, rfl⟩
end Go.Proofs.YtllglgkphlkopaaDoor
