/-
  A line's history told by lists of numbers: which list holds what, who needs it. No conditions beyond those that each theorem types.
-/
import Derived.Test.YtefgofoocabkkaaDeadHist
namespace Go.Proofs.Ytefgofoocabkkaa
open Go Go.RowKit
set_option maxRecDepth 100000
set_option linter.unusedVariables false
namespace Dd
/-- the list of dead blocks at a place; the last one is the head's -/
def dk (L : Ln) (k : Nat) : List Pt := match L.snaps[k]? with | some s => s.dead | none => L.dead
theorem next_dk (L : Ln) (i : Nat) : nextL L i = dk L (i + 1) := rfl
theorem dk_some {L : Ln} {k : Nat} {s : Sn} (h : L.snaps[k]? = some s) : dk L k = s.dead := by unfold dk; rw [h]
theorem dk_none {L : Ln} {k : Nat} (h : L.snaps[k]? = none) : dk L k = L.dead := by unfold dk; rw [h]
theorem mem_all {L : Ln} {p : Pt} : p ∈ allB L ↔ ∃ k, k ≤ L.snaps.length ∧ p ∈ dk L k := by
  unfold allB
  rw [List.mem_append, List.mem_flatMap]
  constructor
  · rintro (⟨s, hs, hp⟩ | hp)
    · obtain ⟨k, hk⟩ := List.getElem?_of_mem hs
      exact ⟨k, Nat.le_of_lt (List.getElem?_eq_some_iff.1 hk).1, by rw [dk_some hk]; exact hp⟩
    · exact ⟨L.snaps.length, Nat.le_refl _, by rw [dk_none (List.getElem?_eq_none (Nat.le_refl _))]; exact hp⟩
  · rintro ⟨k, hk, hp⟩
    cases h : L.snaps[k]? with
    | some s => rw [dk_some h] at hp; exact .inl ⟨s, List.mem_of_getElem? h, hp⟩
    | none => rw [dk_none h] at hp; exact .inr hp
theorem dk_young {L : Ln} (h : rightL L = true) {k : Nat} (hk : k ≤ L.snaps.length) {p : Pt} (hp : p ∈ dk L k) : p.birth ≤ aheadL L k := by
  obtain ⟨h0, h1, h2⟩ := rightL_iff.1 h
  have hy : youngL (aheadL L k) (dk L k) = true := by
    cases hs : L.snaps[k]? with
    | some s => rw [dk_some hs]; exact (h1 k s hs).2
    | none =>
      rw [dk_none hs]
      have := List.getElem?_eq_none_iff.1 hs
      obtain rfl : k = L.snaps.length := by omega
      exact h2
  unfold youngL at hy
  rw [List.all_eq_true] at hy
  exact of_decide_eq_true (hy p hp)
theorem ahead_le {L : Ln} (h : rightL L = true) : ∀ {k i : Nat}, i ≤ k → k ≤ L.snaps.length → aheadL L i ≤ aheadL L k
  | 0, i, hi, _ => by obtain rfl : i = 0 := by omega
                      exact Int.le_refl _
  | k + 1, i, hi, hk => by
    by_cases e : i = k + 1
    · subst e; exact Int.le_refl _
    · obtain ⟨s, hs⟩ := snaps_in (L := L) (i := k) (by omega)
      have h1 := ahead_le h (k := k) (i := i) (by omega) (by omega)
      have h2 := ((rightL_iff.1 h).2.1 k s hs).1
      rw [ahead_succ hs]
      omega
/-- the snapshots behind a destroyed one move down -/
theorem des_at {L : Ln} {k : Nat} (hk : k < L.snaps.length) (j : Nat) (hj : j + 1 < L.snaps.length) : ∃ s x, L.snaps[up k j]? = some s ∧ (desL L k (keepL L k)).snaps[j]? = some x ∧ x.txg = s.txg := by
  by_cases hm : k + 1 < L.snaps.length
  · obtain ⟨s1, hs1⟩ := snaps_in hm
    rw [desL_mid hs1]
    show ∃ s x, _ ∧ ((L.snaps.set (k + 1) (⟨s1.txg, keepL L k⟩ : Sn)).eraseIdx k)[j]? = some x ∧ _
    rw [get_erase]
    by_cases e : up k j = k + 1
    · rw [e]
      exact ⟨s1, ⟨s1.txg, keepL L k⟩, hs1, by rw [List.getElem?_set]; simp [hm], rfl⟩
    · obtain ⟨s, hs⟩ := snaps_in (L := L) (i := up k j) (by unfold up; split <;> omega)
      exact ⟨s, s, hs, by rw [List.getElem?_set, if_neg (fun h => e h.symm)]; exact hs, rfl⟩
  · rw [desL_last (List.getElem?_eq_none (by omega))]
    show ∃ s x, _ ∧ (L.snaps.eraseIdx k)[j]? = some x ∧ _
    rw [get_erase]
    obtain ⟨s, hs⟩ := snaps_in (L := L) (i := up k j) (by unfold up; split <;> omega)
    exact ⟨s, s, hs, hs, rfl⟩
theorem des_len {L : Ln} {k : Nat} (hk : k < L.snaps.length) : (desL L k (keepL L k)).snaps.length + 1 = L.snaps.length := by
  have := (des_snaps hk (keepL L k)).1
  omega
/-- what stands in a list behind a destroyed snapshot stood in this one, or in the one that was joined -/
theorem des_dk {L : Ln} {k : Nat} (hk : k < L.snaps.length) {j : Nat} (hj : j + 1 ≤ L.snaps.length) {p : Pt} (hp : p ∈ dk (desL L k (keepL L k)) j) :
    (j < k ∧ p ∈ dk L j) ∨ (j = k ∧ p ∈ dk L k) ∨ (j ≥ k ∧ p ∈ dk L (j + 1)) := by
  obtain ⟨s0, hs0⟩ := snaps_in hk
  have hkeep : ∀ p, p ∈ keepL L k → p ∈ dk L k ∨ p ∈ dk L (k + 1) := fun p hp => by
    rw [keepL_eq hs0, next_dk] at hp
    rcases List.mem_append.1 hp with hp | hp
    · exact .inl (by rw [dk_some hs0]; exact hp)
    · exact .inr (List.mem_filter.1 hp).1
  have hK : ∀ p, p ∈ keepL L k → (j < k ∧ p ∈ dk L j) ∨ (k = k ∧ p ∈ dk L k) ∨ (k ≥ k ∧ p ∈ dk L (k + 1)) := fun p hp => by
    rcases hkeep p hp with h | h
    · exact .inr (.inl ⟨rfl, h⟩)
    · exact .inr (.inr ⟨Nat.le_refl _, h⟩)
  by_cases hm : k + 1 < L.snaps.length
  · obtain ⟨s1, hs1⟩ := snaps_in hm
    rw [desL_mid hs1] at hp
    have hg : ((L.snaps.set (k + 1) (⟨s1.txg, keepL L k⟩ : Sn)).eraseIdx k)[j]? = (L.snaps.set (k + 1) (⟨s1.txg, keepL L k⟩ : Sn))[up k j]? := get_erase _ _ _
    unfold dk at hp
    dsimp only at hp
    rw [hg, List.getElem?_set] at hp
    by_cases hjk : j < k
    · refine .inl ⟨hjk, ?_⟩
      have e : up k j = j := by unfold up; rw [if_pos hjk]
      rw [e, if_neg (by omega)] at hp
      exact hp
    · have e : up k j = j + 1 := by unfold up; rw [if_neg hjk]
      rw [e] at hp
      by_cases e2 : j = k
      · subst e2
        rw [if_pos rfl, if_pos hm] at hp
        rcases hkeep p hp with h | h
        · exact .inr (.inl ⟨rfl, h⟩)
        · exact .inr (.inr ⟨Nat.le_refl _, h⟩)
      · rw [if_neg (by omega)] at hp
        exact .inr (.inr ⟨by omega, hp⟩)
  · have hL1 : L.snaps[k + 1]? = none := List.getElem?_eq_none (by omega)
    rw [desL_last hL1] at hp
    have hg : (L.snaps.eraseIdx k)[j]? = L.snaps[up k j]? := get_erase _ _ _
    unfold dk at hp
    dsimp only at hp
    rw [hg] at hp
    by_cases hjk : j < k
    · have e : up k j = j := by unfold up; rw [if_pos hjk]
      obtain ⟨s, hs⟩ := snaps_in (L := L) (i := j) (by omega)
      rw [e, hs] at hp
      exact .inl ⟨hjk, by rw [dk_some hs]; exact hp⟩
    · have e : up k j = j + 1 := by unfold up; rw [if_neg hjk]
      obtain rfl : j = k := by omega
      rw [e, hL1] at hp
      rcases hkeep p hp with h | h
      · exact .inr (.inl ⟨rfl, h⟩)
      · exact .inr (.inr ⟨Nat.le_refl _, h⟩)
def bn (B : List Nat) (n : Nat) : Nat := B[n]?.getD 0
theorem bn_old {B : List Nat} {x n : Nat} (h : n < B.length) : bn (B ++ [x]) n = bn B n := by
  unfold bn
  rw [List.getElem?_append_left h]
theorem bn_new (B : List Nat) (x : Nat) : bn (B ++ [x]) B.length = x := by
  unfold bn
  simp
/-- a history: its line, its base, the transaction, the head's blocks, the snapshots', those that it began with, all births, what was told free -/
structure Ex (L : Ln) (b t : Nat) (H : List Nat) (S : List (List Nat)) (O B X : List Nat) : Prop where
  R : rightL L = true
  hb : L.base = (b : Int)
  bt : b < t
  ls : S.length = L.snaps.length
  la : aheadL L L.snaps.length ≤ (t : Int)
  zt : ∀ s ∈ L.snaps, 0 ≤ s.txg ∧ s.txg ≤ (t : Int)
  br : ∀ n, n < B.length → 1 ≤ bn B n ∧ bn B n ≤ t
  hl : ∀ n ∈ H, n < B.length ∧ n ∉ X
  hn : H.Nodup
  ha : ∀ n ∈ H, ∀ p ∈ allB L, p.addr ≠ (n : Int)
  hs : ∀ n ∈ H, ∀ (i : Nat) (V : List Nat) (s : Sn), S[i]? = some V → L.snaps[i]? = some s → (n ∈ V ↔ (bn B n : Int) ≤ s.txg)
  pb : ∀ p ∈ allB L, ∃ n, n < B.length ∧ p.addr = (n : Int) ∧ p.birth = (bn B n : Int) ∧ n ∉ X
  pn : ((allB L).map fun p => p.addr).Nodup
  ps : ∀ k, k ≤ S.length → ∀ p ∈ dk L k, ∀ n : Nat, p.addr = (n : Int) → ∀ (i : Nat) (V : List Nat) (s : Sn), S[i]? = some V → L.snaps[i]? = some s → (n ∈ V ↔ i < k ∧ (bn B n : Int) ≤ s.txg)
  xa : ∀ n ∈ X, n < B.length ∧ b < bn B n ∧ (∀ V ∈ S, n ∉ V) ∧ n ∉ H
  sa : ∀ V ∈ S, ∀ n ∈ V, n < B.length
  al : ∀ n, n < B.length → n ∈ H ∨ (∃ p ∈ allB L, p.addr = (n : Int)) ∨ n ∈ X
  oo : ∀ n, n < B.length → (n ∈ O ↔ bn B n ≤ b)
  oa : ∀ n ∈ O, n < B.length
  nl : (allB L).length ≤ t
  sl : S.length ≤ t
  bl : B.length ≤ t + 4
  cl : H.length ≤ t + 4
  vl : ∀ V ∈ S, V.length ≤ t + 4
  ol : O.length ≤ 4
section
variable {L : Ln} {b t : Nat} {H : List Nat} {S : List (List Nat)} {O B X : List Nat}
theorem Ex.tick (h : Ex L b t H S O B X) : Ex L b (t + 1) H S O B X where
  R := h.R
  hb := h.hb
  bt := by have := h.bt; omega
  ls := h.ls
  la := by have := h.la; omega
  zt := fun s hs => by have := h.zt s hs; omega
  br := fun n hn => by have := h.br n hn; omega
  hl := h.hl
  hn := h.hn
  ha := h.ha
  hs := h.hs
  pb := h.pb
  pn := h.pn
  ps := h.ps
  xa := h.xa
  sa := h.sa
  al := h.al
  oo := h.oo
  oa := h.oa
  nl := by have := h.nl; omega
  sl := by have := h.sl; omega
  bl := by have := h.bl; omega
  cl := by have := h.cl; omega
  vl := fun V hV => by have := h.vl V hV; omega
  ol := h.ol
/-- told free: just those that nobody needs -/
theorem Ex.needed (h : Ex L b t H S O B X) {n : Nat} (hn : n < B.length) : n ∈ X ↔ ¬ (n ∈ H ∨ n ∈ O ∨ ∃ V ∈ S, n ∈ V) := by
  constructor
  · intro hx
    obtain ⟨_, h2, h3, h4⟩ := h.xa n hx
    rintro (h5 | h5 | ⟨V, h5, h6⟩)
    · exact h4 h5
    · have := (h.oo n hn).1 h5; omega
    · exact h3 V h5 h6
  · intro hx
    rcases h.al n hn with h1 | ⟨p, hp, e⟩ | h1
    · exact absurd (.inl h1) hx
    · obtain ⟨k, hk, hpk⟩ := mem_all.1 hp
      have hy := dk_young h.R hk hpk
      obtain ⟨m, hm, e2, e3, _⟩ := h.pb p hp
      have emn : m = n := by omega
      subst emn
      exfalso
      apply hx
      cases k with
      | zero =>
        refine .inr (.inl ((h.oo m hn).2 ?_))
        have e4 : aheadL L 0 = (b : Int) := h.hb
        omega
      | succ j =>
        obtain ⟨s, hs⟩ := snaps_in (L := L) (i := j) (by omega)
        have hjS : j < S.length := by rw [h.ls]; omega
        have hV := List.getElem?_eq_getElem hjS
        refine .inr (.inr ⟨S[j], List.mem_of_getElem? hV, ?_⟩)
        refine (h.ps (j + 1) (by rw [h.ls]; exact hk) p hpk m e2 j _ s hV hs).2 ⟨by omega, ?_⟩
        rw [ahead_succ hs] at hy
        omega
    · exact h1
theorem nd_push {l : List Nat} {x : Nat} (h : l.Nodup) (hx : x ∉ l) : (l ++ [x]).Nodup :=
  List.nodup_append.2 ⟨h, by simp, fun a ha b hb => by
    rw [List.mem_singleton.1 hb]
    rintro rfl
    exact hx ha⟩
theorem Ex.birth (h : Ex L b t H S O B X) : Ex L b (t + 1) (H ++ [B.length]) S O (B ++ [t + 1]) X where
  R := h.R
  hb := h.hb
  bt := by have := h.bt; omega
  ls := h.ls
  la := by have := h.la; omega
  zt := fun s hs => by have := h.zt s hs; omega
  br := fun n hn => by
    rw [List.length_append, List.length_singleton] at hn
    by_cases e : n = B.length
    · subst e; rw [bn_new]; omega
    · rw [bn_old (by omega)]; have := h.br n (by omega); omega
  hl := fun n hn => by
    rw [List.length_append, List.length_singleton]
    rcases List.mem_append.1 hn with hn | hn
    · have := h.hl n hn; exact ⟨by omega, this.2⟩
    · rw [List.mem_singleton.1 hn]
      exact ⟨by omega, fun hx => by have := (h.xa _ hx).1; omega⟩
  hn := nd_push h.hn fun hx => by have := (h.hl _ hx).1; omega
  ha := fun n hn p hp => by
    rcases List.mem_append.1 hn with hn | hn
    · exact h.ha n hn p hp
    · rw [List.mem_singleton.1 hn]
      obtain ⟨m, h1, h2, _⟩ := h.pb p hp
      omega
  hs := fun n hn i V s hV hs => by
    rcases List.mem_append.1 hn with hn | hn
    · rw [bn_old (h.hl n hn).1]; exact h.hs n hn i V s hV hs
    · rw [List.mem_singleton.1 hn, bn_new]
      have h1 := (h.zt s (List.mem_of_getElem? hs)).2
      constructor
      · intro hv; have := h.sa V (List.mem_of_getElem? hV) _ hv; omega
      · intro hv; omega
  pb := fun p hp => by
    obtain ⟨n, h1, h2, h3, h4⟩ := h.pb p hp
    exact ⟨n, by simp; omega, h2, by rw [bn_old h1]; exact h3, h4⟩
  pn := h.pn
  ps := fun k hk p hp n hn i V s hV hs => by
    obtain ⟨m, h1, h2, _⟩ := h.pb p (mem_all.2 ⟨k, by rw [← h.ls]; exact hk, hp⟩)
    have e : m = n := by omega
    subst e
    rw [bn_old h1]
    exact h.ps k hk p hp m hn i V s hV hs
  xa := fun n hn => by
    obtain ⟨h1, h2, h3, h4⟩ := h.xa n hn
    refine ⟨by simp; omega, by rw [bn_old h1]; exact h2, h3, fun hx => ?_⟩
    rcases List.mem_append.1 hx with hx | hx
    · exact h4 hx
    · have := List.mem_singleton.1 hx; omega
  sa := fun V hV n hn => by have := h.sa V hV n hn; simp; omega
  al := fun n hn => by
    rw [List.length_append, List.length_singleton] at hn
    by_cases e : n = B.length
    · subst e; exact .inl (by simp)
    · rcases h.al n (by omega) with h1 | h1
      · exact .inl (List.mem_append_left _ h1)
      · exact .inr h1
  oo := fun n hn => by
    rw [List.length_append, List.length_singleton] at hn
    by_cases e : n = B.length
    · subst e
      rw [bn_new]
      have := h.bt
      constructor
      · intro ho
        exfalso
        have := h.oa _ ho; omega
      · intro ho; omega
    · rw [bn_old (by omega)]; exact h.oo n (by omega)
  oa := fun n hn => by have := h.oa n hn; simp; omega
  nl := by have := h.nl; omega
  sl := by have := h.sl; omega
  bl := by have := h.bl; simp; omega
  cl := by have := h.cl; simp; omega
  vl := fun V hV => by have := h.vl V hV; omega
  ol := h.ol
end
end Dd
end Go.Proofs.Ytefgofoocabkkaa
