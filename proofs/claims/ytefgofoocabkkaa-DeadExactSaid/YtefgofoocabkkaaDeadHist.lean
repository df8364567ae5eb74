/-
  The blocks of a line: what a kill, a snapshot and a destroyed snapshot make of them. No conditions beyond those that each theorem types.
-/
import Derived.Test.YtefgofoocabkkaaDeadForm
namespace Go.Proofs.Ytefgofoocabkkaa
open Go Go.RowKit
set_option maxRecDepth 100000
set_option linter.unusedVariables false
namespace Dd
def allB (L : Ln) : List Pt := L.snaps.flatMap (fun s => s.dead) ++ L.dead
theorem cut_mid : ∀ {S : List Sn} {i : Nat} {s s1 : Sn}, S[i]? = some s → S[i + 1]? = some s1 → ∃ pre post, S = pre ++ s :: s1 :: post ∧ ∀ x, (S.set (i + 1) x).eraseIdx i = pre ++ x :: post
  | [], i, s, s1, h, h1 => by simp at h
  | [a], 0, s, s1, h, h1 => by simp at h1
  | a :: b :: S, 0, s, s1, h, h1 => by
    simp at h h1
    subst h h1
    exact ⟨[], S, rfl, fun x => rfl⟩
  | a :: S, i + 1, s, s1, h, h1 => by
    obtain ⟨pre, post, e, f⟩ := cut_mid (S := S) (i := i) (s := s) (s1 := s1) (by simpa using h) (by simpa using h1)
    refine ⟨a :: pre, post, by rw [e]; rfl, fun x => ?_⟩
    show a :: (S.set (i + 1) x).eraseIdx i = _
    rw [f x]
    rfl
theorem cut_last : ∀ {S : List Sn} {i : Nat} {s : Sn}, S[i]? = some s → S[i + 1]? = none → ∃ pre, S = pre ++ [s] ∧ S.eraseIdx i = pre
  | [], i, s, h, h1 => by simp at h
  | [a], 0, s, h, h1 => by
    simp at h
    subst h
    exact ⟨[], rfl, rfl⟩
  | a :: b :: S, 0, s, h, h1 => by simp at h1
  | a :: S, i + 1, s, h, h1 => by
    obtain ⟨pre, e, f⟩ := cut_last (S := S) (i := i) (s := s) (by simpa using h) (by simpa using h1)
    refine ⟨a :: pre, by rw [e]; rfl, ?_⟩
    show a :: S.eraseIdx i = _
    rw [f]
theorem part_perm (t : Int) (D : List Pt) : (olderL t D ++ laterL t D).Perm D := by
  have h := List.filter_append_perm (fun p : Pt => decide (p.birth ≤ t)) D
  have e : laterL t D = D.filter (fun p => !decide (p.birth ≤ t)) := by
    unfold laterL
    apply List.filter_congr
    intro p _
    by_cases hp : p.birth ≤ t
    · simp [hp]
    · simp [hp]; omega
  rw [e]
  exact h
theorem swap_perm {a b c d : List Pt} (h : (a ++ b).Perm c) : (a ++ (d ++ b)).Perm (c ++ d) :=
  ((List.perm_append_comm (l₁ := d) (l₂ := b)).append_left a).trans (by rw [← List.append_assoc]; exact h.append_right d)
theorem des_perm {L : Ln} {i : Nat} (hi : i < L.snaps.length) : (allB (desL L i (keepL L i)) ++ laterL (aheadL L i) (nextL L i)).Perm (allB L) := by
  obtain ⟨s, hs⟩ := snaps_in hi
  rw [keepL_eq hs]
  by_cases hm : i + 1 < L.snaps.length
  · obtain ⟨s1, hs1⟩ := snaps_in hm
    rw [desL_mid hs1, nextL_mid hs1]
    obtain ⟨pre, post, e, f⟩ := cut_mid hs hs1
    unfold allB
    rw [f]
    simp only [e, List.flatMap_append, List.flatMap_cons, List.append_assoc]
    refine List.Perm.append_left _ (List.Perm.append_left _ ?_)
    rw [← List.append_assoc (List.flatMap _ post)]
    exact swap_perm (part_perm _ _)
  · have hs1 : L.snaps[i + 1]? = none := List.getElem?_eq_none (by omega)
    rw [desL_last hs1, nextL_last hs1]
    obtain ⟨pre, e, f⟩ := cut_last hs hs1
    unfold allB
    rw [f]
    simp only [e, List.flatMap_append, List.flatMap_cons, List.flatMap_nil, List.append_nil, List.append_assoc]
    exact List.Perm.append_left _ (List.Perm.append_left _ (part_perm _ _))
theorem des_snaps {L : Ln} {i : Nat} (hi : i < L.snaps.length) (K : List Pt) : (desL L i K).snaps.length = L.snaps.length - 1 ∧ (desL L i K).base = L.base ∧ ∀ x ∈ (desL L i K).snaps, ∃ y ∈ L.snaps, y.txg = x.txg := by
  obtain ⟨s, hs⟩ := snaps_in hi
  by_cases hm : i + 1 < L.snaps.length
  · obtain ⟨s1, hs1⟩ := snaps_in hm
    rw [desL_mid hs1]
    obtain ⟨pre, post, e, f⟩ := cut_mid hs hs1
    refine ⟨?_, rfl, fun x hx => ?_⟩
    · show ((L.snaps.set (i + 1) (⟨s1.txg, K⟩ : Sn)).eraseIdx i).length = _
      rw [f, e]
      simp
    · have hx' : x ∈ pre ++ (⟨s1.txg, K⟩ : Sn) :: post := by rw [← f]; exact hx
      rcases List.mem_append.1 hx' with h | h
      · exact ⟨x, by rw [e]; simp [h], rfl⟩
      · rcases List.mem_cons.1 h with h | h
        · exact ⟨s1, by rw [e]; simp, by rw [h]⟩
        · exact ⟨x, by rw [e]; simp [h], rfl⟩
  · have hs1 : L.snaps[i + 1]? = none := List.getElem?_eq_none (by omega)
    rw [desL_last hs1]
    obtain ⟨pre, e, f⟩ := cut_last hs hs1
    refine ⟨?_, rfl, fun x hx => ?_⟩
    · show (L.snaps.eraseIdx i).length = _
      rw [f, e]
      simp
    · have hx' : x ∈ pre := by rw [← f]; exact hx
      exact ⟨x, by rw [e]; simp [hx'], rfl⟩
/-- a line of the law's history -/
structure Ho (L : Ln) (a : Nat) : Prop where
  R : rightL L = true
  b : L.base = 0
  br : ∀ p ∈ allB L, 1 ≤ p.birth ∧ p.birth ≤ 60
  ad : ∀ p ∈ allB L, 0 ≤ p.addr ∧ p.addr < (a : Int)
  nd : ((allB L).map fun p => p.addr).Nodup
  sn : L.snaps.length ≤ 30
  zt : ∀ s ∈ L.snaps, 0 ≤ s.txg ∧ s.txg ≤ 60
  ln : (allB L).length ≤ 30
theorem Ho.zero : Ho lnZero 0 := ⟨rfl, rfl, fun p h => by simp [allB, lnZero] at h, fun p h => by simp [allB, lnZero] at h, by simp [allB, lnZero], by simp [lnZero], fun s h => by simp [lnZero] at h, by simp [allB, lnZero]⟩
theorem Ho.mono {L : Ln} {a b : Nat} (h : Ho L a) (hb : a ≤ b) : Ho L b := ⟨h.R, h.b, h.br, fun p hp => by have := h.ad p hp; omega, h.nd, h.sn, h.zt, h.ln⟩
theorem len_in {L : Ln} {s : Sn} (h : s ∈ L.snaps) : s.dead.length ≤ (allB L).length := by
  obtain ⟨pre, post, e⟩ := List.append_of_mem h
  unfold allB
  rw [e]
  simp
  omega
theorem Ho.fit {L : Ln} {a : Nat} (h : Ho L a) : Fit L ∧ Small L ∧ Tight L := by
  have h1 := h.sn
  have h2 := h.ln
  have h3 : L.dead.length ≤ (allB L).length := by unfold allB; simp
  have h4 : ∀ s ∈ L.snaps, s.dead.length ≤ 30 := fun s hs => Nat.le_trans (len_in hs) h2
  have hz : ∀ p ∈ allB L, Z64 p.birth := fun p hp => by
    have := h.br p hp
    exact ⟨by omega, by omega⟩
  have f1 : L.snaps.length * 32 ≤ room := by unfold room; omega
  have f2 : L.dead.length * 40 ≤ room := by unfold room; omega
  have f3 : ∀ s ∈ L.snaps, s.dead.length * 40 ≤ room := fun s hs => by have := h4 s hs; unfold room; omega
  have f4 : Z64 L.base := by rw [h.b]; exact ⟨by decide, by decide⟩
  have f5 : ∀ s ∈ L.snaps, Z64 s.txg := fun s hs => by
    have := h.zt s hs
    exact ⟨by omega, by omega⟩
  have f6 : ∀ p ∈ L.dead, Z64 p.birth := fun p hp => hz p (by unfold allB; exact List.mem_append_right _ hp)
  have f7 : ∀ s ∈ L.snaps, ∀ p ∈ s.dead, Z64 p.birth := fun s hs p hp => hz p (by unfold allB; exact List.mem_append_left _ (List.mem_flatMap.2 ⟨s, hs, hp⟩))
  have g1 : L.snaps.length ≤ 4194304 := by omega
  have g2 : L.dead.length ≤ 4194304 := by omega
  have g3 : ∀ s ∈ L.snaps, s.dead.length ≤ 4194304 := fun s hs => by have := h4 s hs; omega
  have t1 : L.dead.length * 40 ≤ 140737488351232 := by omega
  have t2 : L.snaps.length * 32 ≤ 140737488351232 := by omega
  exact ⟨⟨f1, f2, f3, f4, f5, f6, f7⟩, ⟨g1, g2, g3⟩, ⟨t1, t2⟩⟩
theorem ahead_app {b : Int} {S : List Sn} {x : Sn} {d d' : List Pt} {i : Nat} (hi : i ≤ S.length) : aheadL ⟨b, S ++ [x], d⟩ i = aheadL ⟨b, S, d'⟩ i := by
  cases i with
  | zero => rfl
  | succ i =>
    show (match (S ++ [x])[i]? with | some s => s.txg | none => 0) = (match S[i]? with | some s => s.txg | none => 0)
    rw [List.getElem?_append_left (by omega)]
theorem ahead_dead {b : Int} {S : List Sn} {d d' : List Pt} (i : Nat) : aheadL ⟨b, S, d⟩ i = aheadL ⟨b, S, d'⟩ i := by
  cases i <;> rfl
theorem Ho.snap {L : Ln} {a : Nat} {t : Int} (h : Ho L a) (hl : aheadL L L.snaps.length ≤ t) (h0 : 0 ≤ t) (ht : t + 2 ≤ 60) (hs : L.snaps.length < 30) :
    snapS L (t + 2) = (⟨L.base, L.snaps ++ [⟨t + 2, L.dead⟩], []⟩, 0) ∧ Ho ⟨L.base, L.snaps ++ [⟨t + 2, L.dead⟩], []⟩ a ∧ allB ⟨L.base, L.snaps ++ [⟨t + 2, L.dead⟩], []⟩ = allB L ∧ aheadL ⟨L.base, L.snaps ++ [⟨t + 2, L.dead⟩], []⟩ (L.snaps.length + 1) = t + 2 := by
  have hA : allB ⟨L.base, L.snaps ++ [⟨t + 2, L.dead⟩], []⟩ = allB L := by simp [allB]
  have hX : aheadL ⟨L.base, L.snaps ++ [⟨t + 2, L.dead⟩], []⟩ (L.snaps.length + 1) = t + 2 := by
    show (match (L.snaps ++ [(⟨t + 2, L.dead⟩ : Sn)])[L.snaps.length]? with | some s => s.txg | none => 0) = _
    simp
  refine ⟨?_, ⟨?_, h.b, by rw [hA]; exact h.br, by rw [hA]; exact h.ad, by rw [hA]; exact h.nd, ?_, ?_, by rw [hA]; exact h.ln⟩, hA, hX⟩
  · unfold snapS
    rw [if_pos h.R, if_neg (by omega)]
  · obtain ⟨r0, r1, r2⟩ := rightL_iff.1 h.R
    refine rightL_iff.2 ⟨r0, fun i s hi => ?_, ?_⟩
    · have hi' : (L.snaps ++ [(⟨t + 2, L.dead⟩ : Sn)])[i]? = some s := hi
      by_cases hlt : i < L.snaps.length
      · rw [List.getElem?_append_left hlt] at hi'
        rw [ahead_app (d' := L.dead) (Nat.le_of_lt hlt)]
        exact r1 i s hi'
      · have hie : i = L.snaps.length := by
          have := (List.getElem?_eq_some_iff.1 hi').1
          simp at this
          omega
        subst hie
        simp at hi'
        subst hi'
        rw [ahead_app (d' := L.dead) (Nat.le_refl _)]
        refine ⟨?_, r2⟩
        show aheadL L L.snaps.length < t + 2
        omega
    · rfl
  · show (L.snaps ++ [(⟨t + 2, L.dead⟩ : Sn)]).length ≤ 30
    simp
    omega
  · intro s hs
    rcases List.mem_append.1 hs with hs | hs
    · exact h.zt s hs
    · rw [List.mem_singleton.1 hs]
      exact ⟨by show 0 ≤ t + 2; omega, ht⟩
theorem Ho.free {L : Ln} {a : Nat} {t : Int} (h : Ho L a) (hl : aheadL L L.snaps.length ≤ t) : killS L ⟨a, 0, t + 1, ⟨#[]⟩⟩ = (L, true, 0) := by
  unfold killS
  rw [if_pos h.R, if_pos (by show aheadL L L.snaps.length < t + 1; omega)]
theorem Ho.kill {L : Ln} {a : Nat} {t : Int} (h : Ho L a) (hl : aheadL L L.snaps.length = t + 2) (h0 : 0 ≤ t) (ht : t + 1 ≤ 60) (hln : (allB L).length < 30) :
    killS L ⟨a, 0, t + 1, ⟨#[]⟩⟩ = (⟨L.base, L.snaps, L.dead ++ [⟨a, 0, t + 1, ⟨#[]⟩⟩]⟩, false, 0) ∧ Ho ⟨L.base, L.snaps, L.dead ++ [⟨a, 0, t + 1, ⟨#[]⟩⟩]⟩ (a + 1) ∧ allB ⟨L.base, L.snaps, L.dead ++ [⟨a, 0, t + 1, ⟨#[]⟩⟩]⟩ = allB L ++ [⟨a, 0, t + 1, ⟨#[]⟩⟩] := by
  have hA : allB ⟨L.base, L.snaps, L.dead ++ [⟨a, 0, t + 1, ⟨#[]⟩⟩]⟩ = allB L ++ [⟨a, 0, t + 1, ⟨#[]⟩⟩] := by simp [allB]
  have hm : ∀ p ∈ allB L ++ [(⟨a, 0, t + 1, ⟨#[]⟩⟩ : Pt)], (1 ≤ p.birth ∧ p.birth ≤ 60) ∧ 0 ≤ p.addr ∧ p.addr < ((a + 1 : Nat) : Int) := fun p hp => by
    rcases List.mem_append.1 hp with hp | hp
    · have := h.ad p hp
      exact ⟨h.br p hp, by omega, by omega⟩
    · rw [List.mem_singleton.1 hp]
      refine ⟨⟨?_, ht⟩, ?_, ?_⟩
      · show 1 ≤ t + 1; omega
      · show 0 ≤ (a : Int); omega
      · show (a : Int) < ((a + 1 : Nat) : Int); omega
  refine ⟨?_, ⟨?_, h.b, by rw [hA]; exact fun p hp => (hm p hp).1, by rw [hA]; exact fun p hp => (hm p hp).2, ?_, h.sn, h.zt, ?_⟩, hA⟩
  · unfold killS
    rw [if_pos h.R, if_neg (by show ¬ (aheadL L L.snaps.length < t + 1); omega)]
  · obtain ⟨r0, r1, r2⟩ := rightL_iff.1 h.R
    refine rightL_iff.2 ⟨r0, fun i s hi => ?_, ?_⟩
    · rw [ahead_dead (d' := L.dead)]
      exact r1 i s hi
    · rw [ahead_dead (d' := L.dead)]
      refine young_app r2 ?_
      have : t + 1 ≤ aheadL L L.snaps.length := by omega
      simp [youngL]
      exact this
  · rw [hA, List.map_append]
    refine List.nodup_append.2 ⟨h.nd, by simp, fun x hx y hy => ?_⟩
    obtain ⟨p, hp, rfl⟩ := List.mem_map.1 hx
    have := h.ad p hp
    simp at hy
    subst hy
    omega
  · rw [hA, List.length_append, List.length_singleton]
    omega
theorem Ho.des {L : Ln} {a : Nat} {k : Int} (h : Ho L a) (h0 : 0 ≤ k) (hk : k < (L.snaps.length : Int)) :
    ∃ (M : Ln) (F : List Pt), desS L k = (M, F, 0) ∧ Ho M a ∧ (allB M ++ F).Perm (allB L) ∧ M.snaps.length + 1 = L.snaps.length := by
  have hi : k.toNat < L.snaps.length := by omega
  have hp := des_perm hi
  obtain ⟨d1, d2, d3⟩ := des_snaps hi (keepL L k.toNat)
  have hmem : ∀ p ∈ allB (desL L k.toNat (keepL L k.toNat)), p ∈ allB L := fun p hp' => hp.mem_iff.1 (List.mem_append_left _ hp')
  refine ⟨desL L k.toNat (keepL L k.toNat), laterL (aheadL L k.toNat) (nextL L k.toNat), ?_, ⟨right_des h.R hi, d2.trans h.b, fun p hp' => h.br p (hmem p hp'), fun p hp' => h.ad p (hmem p hp'), ?_, ?_, ?_, ?_⟩, hp, ?_⟩
  · unfold desS
    rw [if_pos h.R, if_neg (by omega)]
  · have h1 := (hp.map fun p => p.addr).nodup_iff.2 h.nd
    rw [List.map_append] at h1
    exact (List.nodup_append.1 h1).1
  · have := h.sn; omega
  · intro s hs
    obtain ⟨y, hy, e⟩ := d3 s hs
    rw [← e]
    exact h.zt y hy
  · have h1 := hp.length_eq
    have h2 := h.ln
    rw [List.length_append] at h1
    omega
  · omega
/-- no snapshot left: no block -/
theorem Ho.nil {L : Ln} {a : Nat} (h : Ho L a) (hs : L.snaps.length = 0) : L.dead = [] ∧ allB L = [] := by
  obtain ⟨r0, r1, r2⟩ := rightL_iff.1 h.R
  have hS : L.snaps = [] := List.length_eq_zero_iff.1 hs
  have hD : L.dead = [] := by
    rcases hd : L.dead with _ | ⟨p, D⟩
    · rfl
    · have h1 := h.br p (by unfold allB; rw [hd]; simp)
      rw [hs, hd] at r2
      have h2 : p.birth ≤ aheadL L 0 := by
        simp [youngL] at r2
        exact r2.1
      have h3 : aheadL L 0 = 0 := h.b
      omega
  exact ⟨hD, by unfold allB; rw [hS, hD]; rfl⟩
end Dd
end Go.Proofs.Ytefgofoocabkkaa
