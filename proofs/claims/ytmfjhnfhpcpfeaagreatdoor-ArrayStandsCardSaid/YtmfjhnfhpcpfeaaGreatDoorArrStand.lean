/-
  A block of which three drives at most fail: some set of drives left out fits, as mathematics. Conditions: those that each theorem types.
-/
import Derived.Test.YtmfjhnfhpcpfeaaGreatDoorArrFail
namespace Go.Proofs.YtmfjhnfhpcpfeaaGreatDoor
open Go Go.RowKit refRack
set_option maxRecDepth 100000
set_option linter.unusedVariables false
namespace Arr
open Cc
theorem drvL_nodup {N ad m : Nat} (hm : m ≤ N) : (drvL N ad m).Nodup := by
  unfold drvL
  refine List.pairwise_map.2 (List.Pairwise.imp_of_mem (fun {i j} hi hj h => ?_) List.pairwise_lt_range)
  rw [List.mem_range] at hi hj
  intro e
  have h1 := Nat.sub_mod_eq_zero_of_mod_eq e.symm
  rw [show ad + j - (ad + i) = j - i by omega, Nat.mod_eq_of_lt (by omega)] at h1
  omega
theorem srt_nodup {l : List Nat} (h : l.Nodup) : (Sq.srt l).Nodup := (Sq.srt_perm l).nodup_iff.2 h
theorem stand_fit {s t : RS} {l : List Nat} {N n ad c : Nat} {X : Nat → Nat} (hL : LB s N n ad X) (hF : Fl s t l c) (hl : l.length ≤ 3) (h5 : 5 ≤ N) (h16 : N ≤ 16) (h1 : 1 ≤ n) (hX : ∀ j, j < n → X j < 256) :
    (goneB t ad n).length ≤ 3 ∧ ∃ T : List Nat, T.Sublist (hereB t ad n) ∧ T.length + (goneB t ad n).length ≤ 3 ∧ fitB t 2 ad n (sumS n X) T = true := by
  have hnd : t.nd = N := hF.nd.trans hL.nd
  have hdn : (Sq.srt (drvL t.nd ad (min (cost t.nd n) t.nd))).Nodup := srt_nodup (drvL_nodup (Nat.min_le_right _ _))
  have hgn : (goneB t ad n).Nodup := List.Pairwise.filter _ hdn
  have hgl : ∀ d ∈ goneB t ad n, d ∈ l := fun d hd => by
    unfold goneB goneL at hd
    rw [List.mem_filter] at hd
    rcases hF.goneL d hd.2 with h | h
    · rw [hL.gone] at h; cases h
    · exact h
  have hTn : ((hereB t ad n).filter fun d => decide (d ∈ l)).Nodup := List.Pairwise.filter _ (List.Pairwise.filter _ hdn)
  have happ : (((hereB t ad n).filter fun d => decide (d ∈ l)) ++ goneB t ad n).Nodup := by
    rw [List.nodup_append]
    refine ⟨hTn, hgn, fun a ha b hb e => ?_⟩
    subst e
    have h2 : a ∈ hereB t ad n := (List.mem_filter.1 ha).1
    unfold hereB hereL at h2
    unfold goneB goneL at hb
    rw [List.mem_filter] at h2 hb
    have h3 := h2.2
    rw [hb.2] at h3
    cases h3
  have hlen := List.Nodup.length_le_of_subset happ (l₂ := l) (fun d hd => by
    rcases List.mem_append.1 hd with h | h
    · exact of_decide_eq_true (List.mem_filter.1 h).2
    · exact hgl d h)
  rw [List.length_append] at hlen
  refine ⟨by omega, (hereB t ad n).filter fun d => decide (d ∈ l), List.filter_sublist, by omega, ?_⟩
  have hdat : datP t.nd n ad (goneB t ad n) (heldB t 2 ad) ((hereB t ad n).filter fun d => decide (d ∈ l)) = (List.range n).map X := by
    unfold datP
    rw [hnd]
    refine rebL_good h5 h16 h1 (by unfold outP; rw [Sq.srt_length, List.length_append]; omega) hX fun i hi hb v hv => ?_
    have hmem : (ad + i) % N ∈ Sq.srt (drvL t.nd ad (min (cost t.nd n) t.nd)) := by
      rw [Sq.mem_srt, hnd]
      exact mem_drvL (by omega) hi
    unfold outP at hb
    rw [Sq.mem_srt, List.mem_append] at hb
    have hng : t.gone ((ad + i) % N) = false := by
      cases hg : t.gone ((ad + i) % N) with
      | false => rfl
      | true => exact absurd (Or.inl (List.mem_filter.2 ⟨hmem, hg⟩)) hb
    have hnl : (ad + i) % N ∉ l := fun h => hb (Or.inr (List.mem_filter.2 ⟨List.mem_filter.2 ⟨hmem, by rw [hng]; rfl⟩, decide_eq_true h⟩))
    have h2 := hL.sound i (by rw [hL.nd]; exact hi) (hL.gone _) v hv
    rw [hL.nd] at h2
    rw [← h2]
    show t.holds ((ad + i) % t.nd) (2 + (ad + i) / t.nd) v = s.holds ((ad + i) % s.nd) (2 + (ad + i) / s.nd) v
    rw [hnd, hL.nd, hF.holds _ _ hnl]
  unfold fitB fitP
  rw [hdat, sumL_map]
  exact beq_self_eq_true _
end Arr
end Go.Proofs.YtmfjhnfhpcpfeaaGreatDoor
