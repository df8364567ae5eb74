/-
  What Destroy leaves is in form, and has room. No conditions beyond those that each theorem types.
-/
import Derived.Test.YtefgofoocabkkaaDeadFit
namespace Go.Proofs.Ytefgofoocabkkaa
open Go Go.RowKit
set_option maxRecDepth 100000
set_option linter.unusedVariables false
namespace Dd
theorem formTo_iff {L : Ln} : ∀ {n : Nat}, n ≤ L.snaps.length → (formTo L n = true ↔ 0 ≤ L.base ∧ ∀ i s, i < n → L.snaps[i]? = some s → aheadL L i < s.txg ∧ youngL (aheadL L i) s.dead = true)
  | 0, _ => by
    show decide (0 ≤ L.base) = true ↔ _
    rw [decide_eq_true_iff]
    exact ⟨fun h => ⟨h, fun i s hi => by omega⟩, fun h => h.1⟩
  | n + 1, hn => by
    obtain ⟨s, hs⟩ : ∃ s, L.snaps[n]? = some s := ⟨_, List.getElem?_eq_getElem (by omega)⟩
    rw [formTo_step hs, Bool.and_eq_true, Bool.and_eq_true, decide_eq_true_iff, formTo_iff (by omega)]
    constructor
    · rintro ⟨⟨h1, h2⟩, h3, h4⟩
      refine ⟨h1, fun i s' hi hs' => ?_⟩
      by_cases e : i = n
      · subst e
        rw [hs] at hs'
        injection hs' with hs'
        subst hs'
        exact ⟨h3, h4⟩
      · exact h2 i s' (by omega) hs'
    · rintro ⟨h1, h2⟩
      exact ⟨⟨h1, fun i s' hi hs' => h2 i s' (by omega) hs'⟩, h2 n s (by omega) hs⟩
theorem rightL_iff {L : Ln} : rightL L = true ↔ 0 ≤ L.base ∧ (∀ i s, L.snaps[i]? = some s → aheadL L i < s.txg ∧ youngL (aheadL L i) s.dead = true) ∧ youngL (aheadL L L.snaps.length) L.dead = true := by
  unfold rightL
  rw [Bool.and_eq_true, formTo_iff (Nat.le_refl _)]
  constructor
  · rintro ⟨⟨h1, h2⟩, h3⟩
    exact ⟨h1, fun i s hs => h2 i s (List.getElem?_eq_some_iff.1 hs).1 hs, h3⟩
  · rintro ⟨h1, h2, h3⟩
    exact ⟨⟨h1, fun i s _ hs => h2 i s hs⟩, h3⟩
theorem ahead_succ {L : Ln} {i : Nat} {s : Sn} (h : L.snaps[i]? = some s) : aheadL L (i + 1) = s.txg := by
  show (match L.snaps[i]? with | some s => s.txg | none => 0) = _
  rw [h]
theorem young_app {t : Int} {a b : List Pt} (ha : youngL t a = true) (hb : youngL t b = true) : youngL t (a ++ b) = true := by
  unfold youngL at *
  rw [List.all_append, ha, hb]
  rfl
theorem young_older (t : Int) (D : List Pt) : youngL t (olderL t D) = true := by
  unfold youngL olderL
  rw [List.all_eq_true]
  intro p hp
  exact (List.mem_filter.1 hp).2
theorem snaps_in {L : Ln} {i : Nat} (h : i < L.snaps.length) : ∃ s, L.snaps[i]? = some s := ⟨_, List.getElem?_eq_getElem h⟩
/-- the txg of what stands at a place, whatever its list -/
theorem right_des {L : Ln} (hR : rightL L = true) {i : Nat} (hi : i < L.snaps.length) : rightL (desL L i (keepL L i)) = true := by
  obtain ⟨h0, h1, h2⟩ := rightL_iff.1 hR
  obtain ⟨s, hs⟩ := snaps_in hi
  have hK : youngL (aheadL L i) (keepL L i) = true := by
    rw [keepL_eq hs]
    exact young_app (h1 i s hs).2 (young_older _ _)
  by_cases hm : i + 1 < L.snaps.length
  · obtain ⟨s1, hs1⟩ := snaps_in hm
    rw [desL_mid hs1]
    generalize hKK : keepL L i = K at hK ⊢
    have get : ∀ j, ((L.snaps.set (i + 1) (⟨s1.txg, K⟩ : Sn)).eraseIdx i)[j]? = (L.snaps.set (i + 1) (⟨s1.txg, K⟩ : Sn))[up i j]? := fun j => get_erase _ _ _
    have txg : ∀ (q : Nat) (x : Sn), (L.snaps.set (i + 1) (⟨s1.txg, K⟩ : Sn))[q]? = some x → ∃ y, L.snaps[q]? = some y ∧ y.txg = x.txg := fun q x hx => by
      by_cases e : q = i + 1
      · subst e
        rw [List.getElem?_set_self hm] at hx
        injection hx with hx
        exact ⟨s1, hs1, by rw [← hx]⟩
      · rw [List.getElem?_set_ne (fun q => e q.symm)] at hx
        exact ⟨x, hx, rfl⟩
    have hlen : ((L.snaps.set (i + 1) (⟨s1.txg, K⟩ : Sn)).eraseIdx i).length = L.snaps.length - 1 := by rw [List.length_eraseIdx, if_pos (by rw [List.length_set]; exact hi), List.length_set]
    -- the transaction ahead
    have ah : ∀ j, j ≤ L.snaps.length - 1 → aheadL ⟨L.base, (L.snaps.set (i + 1) (⟨s1.txg, K⟩ : Sn)).eraseIdx i, L.dead⟩ j = if j ≤ i then aheadL L j else aheadL L (j + 1) := fun j hj => by
      cases j with
      | zero => rw [if_pos (Nat.zero_le _)]; rfl
      | succ j =>
        obtain ⟨x, hx⟩ : ∃ x, ((L.snaps.set (i + 1) (⟨s1.txg, K⟩ : Sn)).eraseIdx i)[j]? = some x := ⟨_, List.getElem?_eq_getElem (by rw [hlen]; omega)⟩
        have e1 : aheadL ⟨L.base, (L.snaps.set (i + 1) (⟨s1.txg, K⟩ : Sn)).eraseIdx i, L.dead⟩ (j + 1) = x.txg := ahead_succ (L := ⟨L.base, (L.snaps.set (i + 1) (⟨s1.txg, K⟩ : Sn)).eraseIdx i, L.dead⟩) hx
        rw [get] at hx
        obtain ⟨y, hy, hyx⟩ := txg _ _ hx
        rw [e1, ← hyx]
        unfold up at hy
        by_cases hji : j < i
        · rw [if_pos hji] at hy
          rw [if_pos (by omega), ahead_succ hy]
        · rw [if_neg hji] at hy
          rw [if_neg (by omega), ahead_succ hy]
    refine rightL_iff.2 ⟨h0, fun j x hx => ?_, ?_⟩
    · have hjl : j < L.snaps.length - 1 := by have := (List.getElem?_eq_some_iff.1 hx).1; rw [hlen] at this; exact this
      rw [ah j (by omega)]
      have hx' : (L.snaps.set (i + 1) (⟨s1.txg, K⟩ : Sn))[up i j]? = some x := by rw [← get]; exact hx
      unfold up at hx'
      rcases Nat.lt_trichotomy j i with h | h | h
      · rw [if_pos h, List.getElem?_set_ne (by omega)] at hx'
        rw [if_pos (by omega)]
        exact h1 j x hx'
      · subst h
        rw [if_neg (by omega), List.getElem?_set_self hm] at hx'
        injection hx' with hx'
        subst hx'
        rw [if_pos (Nat.le_refl _)]
        refine ⟨?_, hK⟩
        have a1 := (h1 j s hs).1
        have a2 := (h1 (j + 1) s1 hs1).1
        rw [ahead_succ hs] at a2
        show aheadL L j < s1.txg
        omega
      · rw [if_neg (by omega), List.getElem?_set_ne (by omega)] at hx'
        rw [if_neg (by omega)]
        exact h1 (j + 1) x hx'
    · show youngL (aheadL _ ((L.snaps.set (i + 1) (⟨s1.txg, K⟩ : Sn)).eraseIdx i).length) L.dead = true
      rw [hlen, ah _ (Nat.le_refl _), if_neg (by omega), show L.snaps.length - 1 + 1 = L.snaps.length by omega]
      exact h2
  · have hs1 : L.snaps[i + 1]? = none := List.getElem?_eq_none (by omega)
    rw [desL_last hs1]
    generalize hKK : keepL L i = K at hK ⊢
    have hlen : (L.snaps.eraseIdx i).length = i := by rw [List.length_eraseIdx, if_pos hi]; omega
    have get : ∀ j, j < i → (L.snaps.eraseIdx i)[j]? = L.snaps[j]? := fun j hj => by rw [get_erase]; unfold up; rw [if_pos hj]
    have ah : ∀ j, j ≤ i → aheadL ⟨L.base, L.snaps.eraseIdx i, K⟩ j = aheadL L j := fun j hj => by
      cases j with
      | zero => rfl
      | succ j =>
        obtain ⟨y, hy⟩ := snaps_in (L := L) (i := j) (by omega)
        rw [ahead_succ hy]
        exact ahead_succ (L := ⟨L.base, L.snaps.eraseIdx i, K⟩) ((get j (by omega)).trans hy)
    refine rightL_iff.2 ⟨h0, fun j x hx => ?_, ?_⟩
    · have hjl : j < i := by have := (List.getElem?_eq_some_iff.1 hx).1; rw [hlen] at this; exact this
      rw [ah j (by omega)]
      exact h1 j x ((get j hjl).symm.trans hx)
    · show youngL (aheadL _ (L.snaps.eraseIdx i).length) K = true
      rw [hlen, ah i (Nat.le_refl _)]
      exact hK
theorem right_desS {L : Ln} {k : Int} (h : (desS L k).2.2 = 0) : rightL (desS L k).1 = true := by
  unfold desS at h ⊢
  by_cases hR : rightL L = true
  · rw [if_pos hR] at h ⊢
    by_cases hb : k < 0 ∨ (L.snaps.length : Int) ≤ k
    · rw [if_pos hb] at h; cases h
    · rw [if_neg hb]
      exact right_des hR (by omega)
  · rw [if_neg hR] at h; cases h
theorem mem_next {L : Ln} {i : Nat} {p : Pt} (h : p ∈ nextL L i) : p ∈ L.dead ∨ ∃ s ∈ L.snaps, p ∈ s.dead := by
  unfold nextL at h
  cases hq : L.snaps[i + 1]? with
  | none => rw [hq] at h; exact .inl h
  | some s => rw [hq] at h; exact .inr ⟨s, List.mem_of_getElem? hq, h⟩
theorem mem_keep {L : Ln} {i : Nat} {p : Pt} (h : p ∈ keepL L i) : p ∈ L.dead ∨ ∃ s ∈ L.snaps, p ∈ s.dead := by
  unfold keepL at h
  cases hq : L.snaps[i]? with
  | none => rw [hq] at h; cases h
  | some s =>
    rw [hq] at h
    rcases List.mem_append.1 h with h | h
    · exact .inr ⟨s, List.mem_of_getElem? hq, h⟩
    · exact mem_next (List.mem_filter.1 h).1
theorem keep_len {L : Ln} (h : Small L) (i : Nat) : (keepL L i).length ≤ 8388608 := by
  unfold keepL
  cases hq : L.snaps[i]? with
  | none => exact Nat.zero_le _
  | some s =>
    have h1 := h.2.2 s (List.mem_of_getElem? hq)
    have h2 := older_len (aheadL L i) (nextL L i)
    have h3 := h.next i
    show (s.dead ++ olderL (aheadL L i) (nextL L i)).length ≤ _
    rw [List.length_append]
    omega
theorem fit_des {L : Ln} (hf : Fit L) (hs : Small L) (k : Int) : Fit (desS L k).1 := by
  unfold desS
  by_cases hR : rightL L = true
  · rw [if_pos hR]
    by_cases hb : k < 0 ∨ (L.snaps.length : Int) ≤ k
    · rw [if_pos hb]; exact fit0
    · rw [if_neg hb]
      generalize k.toNat = i
      have hz : ∀ p, (p ∈ L.dead ∨ ∃ s ∈ L.snaps, p ∈ s.dead) → Z64 p.birth := fun p h => by
        rcases h with h | ⟨s, h1, h2⟩
        · exact hf.zp p h
        · exact hf.zs s h1 p h2
      have hKl : (keepL L i).length * 40 ≤ room := by have := keep_len hs i; unfold room; omega
      have hKz : ∀ p ∈ keepL L i, Z64 p.birth := fun p hp => hz p (mem_keep hp)
      show Fit (desL L i (keepL L i))
      generalize keepL L i = K at hKl hKz
      have hn := hs.1
      cases hq : L.snaps[i + 1]? with
      | some s1 =>
        rw [desL_mid hq]
        have hall : ∀ s ∈ (L.snaps.set (i + 1) (⟨s1.txg, K⟩ : Sn)).eraseIdx i, s.dead.length * 40 ≤ room ∧ Z64 s.txg ∧ ∀ p ∈ s.dead, Z64 p.birth := fun s h => by
          have h1 := (List.eraseIdx_sublist _ _).subset h
          rcases List.mem_or_eq_of_mem_set h1 with h2 | h2
          · exact ⟨hf.rp s h2, hf.zt s h2, hf.zs s h2⟩
          · subst h2; exact ⟨hKl, hf.zt s1 (List.mem_of_getElem? hq), hKz⟩
        have hl : ((L.snaps.set (i + 1) (⟨s1.txg, K⟩ : Sn)).eraseIdx i).length ≤ L.snaps.length := by
          have := (List.eraseIdx_sublist (L.snaps.set (i + 1) (⟨s1.txg, K⟩ : Sn)) i).length_le
          rw [List.length_set] at this
          exact this
        have hl2 : ((L.snaps.set (i + 1) (⟨s1.txg, K⟩ : Sn)).eraseIdx i).length * 32 ≤ room := by unfold room; omega
        exact ⟨hl2, hf.rd, fun s h => (hall s h).1, hf.zb, fun s h => (hall s h).2.1, hf.zp, fun s h => (hall s h).2.2⟩
      | none =>
        rw [desL_last hq]
        have hall : ∀ s ∈ L.snaps.eraseIdx i, s ∈ L.snaps := fun s h => (List.eraseIdx_sublist _ _).subset h
        have hl : (L.snaps.eraseIdx i).length ≤ L.snaps.length := (List.eraseIdx_sublist L.snaps i).length_le
        have hl2 : (L.snaps.eraseIdx i).length * 32 ≤ room := by unfold room; omega
        exact ⟨hl2, hKl, fun s h => hf.rp s (hall s h), hf.zb, fun s h => hf.zt s (hall s h), hKz, fun s h => hf.zs s (hall s h)⟩
  · rw [if_neg hR]; exact fit0
theorem neq_er0 {a : Int} (h : a ≠ 0) (W : World) : (binOp .neq 32 (.int .i64 a) (.int .i64 0)).run Try.prog W = .ok (.bool true) W := by
  have h1 : (binOp .neq 32 (.int .i64 a) (.int .i64 0)).run Try.prog W = .ok (.bool (a != 0)) W := rfl
  rw [h1, show (a != 0) = true by simp [h]]
end Dd
end Go.Proofs.Ytefgofoocabkkaa
