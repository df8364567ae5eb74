/-
  A line's history told by lists of numbers: what each kind of step makes of it. No conditions beyond those that each theorem types.
-/
import Derived.Test.YtefgofoocabkkaaDeadEx
namespace Go.Proofs.Ytefgofoocabkkaa
open Go Go.RowKit
set_option maxRecDepth 100000
set_option linter.unusedVariables false
namespace Dd
section
variable {L : Ln} {b t : Nat} {H : List Nat} {S : List (List Nat)} {O B X : List Nat}
theorem Ex.z (h : Ex L b t H S O B X) : Z64 0 := ⟨by decide, by decide⟩
theorem Ex.fit (h : Ex L b t H S O B X) (ht : t ≤ 1000) : Fit L ∧ Small L ∧ Tight L := by
  have h1 := h.sl
  rw [h.ls] at h1
  have h2 := h.nl
  have h3 : L.dead.length ≤ (allB L).length := by unfold allB; simp
  have h4 : ∀ s ∈ L.snaps, s.dead.length ≤ 1000 := fun s hs => by have := len_in hs; omega
  have hz : ∀ p ∈ allB L, Z64 p.birth := fun p hp => by
    obtain ⟨n, n1, n2, n3, _⟩ := h.pb p hp
    have := h.br n n1
    exact ⟨by omega, by omega⟩
  have f1 : L.snaps.length * 32 ≤ room := by unfold room; omega
  have f2 : L.dead.length * 40 ≤ room := by unfold room; omega
  have f3 : ∀ s ∈ L.snaps, s.dead.length * 40 ≤ room := fun s hs => by have := h4 s hs; unfold room; omega
  have hbt := h.bt
  have f4 : Z64 L.base := by rw [h.hb]; exact ⟨by omega, by omega⟩
  have f5 : ∀ s ∈ L.snaps, Z64 s.txg := fun s hs => by
    have := h.zt s hs
    exact ⟨by omega, by omega⟩
  have f6 : ∀ p ∈ L.dead, Z64 p.birth := fun p hp => hz p (by unfold allB; exact List.mem_append_right _ hp)
  have f7 : ∀ s ∈ L.snaps, ∀ p ∈ s.dead, Z64 p.birth := fun s hs p hp => hz p (by unfold allB; exact List.mem_append_left _ (List.mem_flatMap.2 ⟨s, hs, hp⟩))
  have g1 : L.snaps.length ≤ 4194304 := by omega
  have g2 : L.dead.length ≤ 4194304 := by omega
  have g3 : ∀ s ∈ L.snaps, s.dead.length ≤ 4194304 := fun s hs => by have := h4 s hs; omega
  have t1 : L.dead.length * 40 ≤ 140737488351232 := by omega
  have t2 : L.snaps.length * 32 ≤ 140737488351232 := by omega
  exact ⟨⟨f1, f2, f3, f4, f5, f6, f7⟩, ⟨g1, g2, g3⟩, ⟨t1, t2⟩⟩
theorem dk_base (b : Int) (S : List Sn) (d : List Pt) (k : Nat) (hk : k < S.length) (d' : List Pt) : dk ⟨b, S, d⟩ k = dk ⟨b, S, d'⟩ k := by
  have h : S[k]? = some S[k] := List.getElem?_eq_getElem hk
  unfold dk
  dsimp only
  rw [h]
theorem dk_app (b : Int) (S : List Sn) (x : Sn) (k : Nat) : dk ⟨b, S ++ [x], []⟩ k = if k < S.length then dk ⟨b, S, x.dead⟩ k else if k = S.length then x.dead else [] := by
  unfold dk
  dsimp only
  by_cases h : k < S.length
  · rw [if_pos h, List.getElem?_append_left h, List.getElem?_eq_getElem h]
  · rw [if_neg h]
    by_cases e : k = S.length
    · subst e; simp
    · rw [if_neg e, List.getElem?_eq_none (by simp; omega)]
theorem Ex.snap (h : Ex L b t H S O B X) : snapS L ((t : Int) + 1) = (⟨L.base, L.snaps ++ [⟨(t : Int) + 1, L.dead⟩], []⟩, 0) ∧ Ex ⟨L.base, L.snaps ++ [⟨(t : Int) + 1, L.dead⟩], []⟩ b (t + 1) H (S ++ [H]) O B X := by
  have hA : allB ⟨L.base, L.snaps ++ [⟨(t : Int) + 1, L.dead⟩], []⟩ = allB L := by simp [allB]
  have hla := h.la
  have hls := h.ls
  have hT := h.tick
  refine ⟨?_, ?_⟩
  · unfold snapS
    rw [if_pos h.R, if_neg (by omega)]
  · refine ⟨?_, h.hb, hT.bt, by simp [hls], ?_, ?_, hT.br, h.hl, h.hn, by rw [hA]; exact h.ha, ?_, by rw [hA]; exact h.pb, by rw [hA]; exact h.pn, ?_, ?_, ?_, by rw [hA]; exact h.al, h.oo, h.oa, by rw [hA]; exact hT.nl, ?_, hT.bl, hT.cl, ?_, h.ol⟩
    · obtain ⟨r0, r1, r2⟩ := rightL_iff.1 h.R
      refine rightL_iff.2 ⟨r0, fun i s hi => ?_, ?_⟩
      · have hi' : (L.snaps ++ [(⟨(t : Int) + 1, L.dead⟩ : Sn)])[i]? = some s := hi
        by_cases hlt : i < L.snaps.length
        · rw [List.getElem?_append_left hlt] at hi'
          rw [ahead_app (d' := L.dead) (Nat.le_of_lt hlt)]
          exact r1 i s hi'
        · have hie : i = L.snaps.length := by
            have := (List.getElem?_eq_some_iff.1 hi').1
            simp at this
            omega
          subst hie
          simp at hi'
          subst hi'
          rw [ahead_app (d' := L.dead) (Nat.le_refl _)]
          refine ⟨?_, r2⟩
          show aheadL L L.snaps.length < (t : Int) + 1
          omega
      · rfl
    · show aheadL ⟨L.base, L.snaps ++ [⟨(t : Int) + 1, L.dead⟩], []⟩ (L.snaps ++ [(⟨(t : Int) + 1, L.dead⟩ : Sn)]).length ≤ _
      rw [List.length_append, List.length_singleton]
      show (match (L.snaps ++ [(⟨(t : Int) + 1, L.dead⟩ : Sn)])[L.snaps.length]? with | some s => s.txg | none => 0) ≤ _
      simp
    · intro s hs
      rcases List.mem_append.1 hs with hs | hs
      · exact hT.zt s hs
      · rw [List.mem_singleton.1 hs]
        exact ⟨by show 0 ≤ (t : Int) + 1; omega, by show (t : Int) + 1 ≤ ((t + 1 : Nat) : Int); omega⟩
    · intro n hn i V s hV hs
      have hs' : (L.snaps ++ [(⟨(t : Int) + 1, L.dead⟩ : Sn)])[i]? = some s := hs
      by_cases hi : i < L.snaps.length
      · rw [List.getElem?_append_left hi] at hs'
        rw [List.getElem?_append_left (by omega)] at hV
        exact h.hs n hn i V s hV hs'
      · have hi2 : i = L.snaps.length := by
          have := (List.getElem?_eq_some_iff.1 hs').1
          simp at this
          omega
        subst hi2
        rw [← hls] at hV
        simp at hV hs'
        subst hV hs'
        have := h.br n (h.hl n hn).1
        show n ∈ H ↔ (bn B n : Int) ≤ (t : Int) + 1
        exact ⟨fun _ => by omega, fun _ => hn⟩
    · intro k hk p hp n hn i V s hV hs
      have hs' : (L.snaps ++ [(⟨(t : Int) + 1, L.dead⟩ : Sn)])[i]? = some s := hs
      rw [List.length_append, List.length_singleton] at hk
      rw [dk_app] at hp
      have hpd : k ≤ L.snaps.length ∧ p ∈ dk L k := by
        by_cases h1 : k < L.snaps.length
        · rw [if_pos h1] at hp
          exact ⟨by omega, hp⟩
        · rw [if_neg h1] at hp
          by_cases h2 : k = L.snaps.length
          · rw [if_pos h2] at hp
            exact ⟨by omega, by rw [dk_none (List.getElem?_eq_none (by omega))]; exact hp⟩
          · rw [if_neg h2] at hp
            simp at hp
      by_cases hi : i < L.snaps.length
      · rw [List.getElem?_append_left hi] at hs'
        rw [List.getElem?_append_left (by omega)] at hV
        exact h.ps k (by omega) p hpd.2 n hn i V s hV hs'
      · have hi2 : i = L.snaps.length := by
          have := (List.getElem?_eq_some_iff.1 hs').1
          simp at this
          omega
        subst hi2
        rw [← hls] at hV
        simp at hV
        subst hV
        constructor
        · intro hv
          exact absurd hn (h.ha n hv p (mem_all.2 ⟨k, hpd⟩))
        · intro hv
          omega
    · intro n hn
      obtain ⟨h1, h2, h3, h4⟩ := h.xa n hn
      refine ⟨h1, h2, fun V hV => ?_, h4⟩
      rcases List.mem_append.1 hV with hV | hV
      · exact h3 V hV
      · rw [List.mem_singleton.1 hV]; exact h4
    · intro V hV n hn
      rcases List.mem_append.1 hV with hV | hV
      · exact h.sa V hV n hn
      · rw [List.mem_singleton.1 hV] at hn; exact (h.hl n hn).1
    · have := h.sl
      simp
      omega
    · intro V hV
      rcases List.mem_append.1 hV with hV | hV
      · exact hT.vl V hV
      · rw [List.mem_singleton.1 hV]; exact hT.cl
theorem mem_out {l : List Nat} (h : l.Nodup) {i x n : Nat} (hx : l[i]? = some x) : n ∈ l.eraseIdx i ↔ n ∈ l ∧ n ≠ x := by
  obtain ⟨hi, he⟩ := List.getElem?_eq_some_iff.1 hx
  rw [List.mem_eraseIdx_iff_getElem?]
  constructor
  · rintro ⟨j, hj, hl⟩
    refine ⟨List.mem_of_getElem? hl, ?_⟩
    rintro rfl
    exact hj ((List.getElem?_inj (List.getElem?_eq_some_iff.1 hl).1 h).1 (hl.trans hx.symm))
  · rintro ⟨hn, hne⟩
    obtain ⟨j, hj⟩ := List.getElem?_of_mem hn
    refine ⟨j, ?_, hj⟩
    rintro rfl
    rw [hx] at hj
    injection hj with hj
    exact hne hj.symm
/-- killed: free at once -/
theorem Ex.kill_free (h : Ex L b t H S O B X) {i x : Nat} (hx : H[i]? = some x) (hl : aheadL L L.snaps.length < (bn B x : Int)) :
    killS L ⟨x, 0, bn B x, ⟨#[]⟩⟩ = (L, true, 0) ∧ x ∉ X ∧ x < B.length ∧ Ex L b (t + 1) (H.eraseIdx i) S O B (X ++ [x]) := by
  have hT := h.tick
  have hxm := List.mem_of_getElem? hx
  obtain ⟨x1, x2⟩ := h.hl x hxm
  have hal := fun {k : Nat} (hk : k ≤ L.snaps.length) => ahead_le h.R hk (Nat.le_refl _)
  have hb0 : aheadL L 0 = (b : Int) := h.hb
  refine ⟨?_, x2, x1, ?_⟩
  · unfold killS
    rw [if_pos h.R, if_pos hl]
  · refine ⟨h.R, h.hb, hT.bt, h.ls, hT.la, hT.zt, hT.br, fun n hn => ?_, h.hn.eraseIdx i, fun n hn => ?_, fun n hn => ?_, fun p hp => ?_, h.pn, h.ps, fun n hn => ?_, h.sa, fun n hn => ?_, h.oo, h.oa, hT.nl, hT.sl, hT.bl, ?_, hT.vl, h.ol⟩
    · obtain ⟨h1, h2⟩ := (mem_out h.hn hx).1 hn
      obtain ⟨h3, h4⟩ := h.hl n h1
      exact ⟨h3, fun hm => by rcases List.mem_append.1 hm with hm | hm; exact h4 hm; exact h2 (List.mem_singleton.1 hm)⟩
    · exact h.ha n ((mem_out h.hn hx).1 hn).1
    · exact h.hs n ((mem_out h.hn hx).1 hn).1
    · obtain ⟨n, h1, h2, h3, h4⟩ := h.pb p hp
      refine ⟨n, h1, h2, h3, fun hm => ?_⟩
      rcases List.mem_append.1 hm with hm | hm
      · exact h4 hm
      · rw [List.mem_singleton.1 hm] at h2
        exact h.ha x hxm p hp h2
    · rcases List.mem_append.1 hn with hn | hn
      · obtain ⟨h1, h2, h3, h4⟩ := h.xa n hn
        exact ⟨h1, h2, h3, fun hm => h4 ((mem_out h.hn hx).1 hm).1⟩
      · rw [List.mem_singleton.1 hn]
        refine ⟨x1, ?_, fun V hV hv => ?_, fun hm => ((mem_out h.hn hx).1 hm).2 rfl⟩
        · have := hal (Nat.zero_le _); omega
        · obtain ⟨j, hj⟩ := List.getElem?_of_mem hV
          have hjl := (List.getElem?_eq_some_iff.1 hj).1
          obtain ⟨s, hs⟩ := snaps_in (L := L) (i := j) (by rw [← h.ls]; exact hjl)
          have h1 := (h.hs x hxm j V s hj hs).1 hv
          have h2 := hal (k := j + 1) (by rw [← h.ls]; exact hjl)
          rw [ahead_succ hs] at h2
          omega
    · rcases h.al n hn with h1 | h1 | h1
      · by_cases e : n = x
        · exact .inr (.inr (by rw [e]; simp))
        · exact .inl ((mem_out h.hn hx).2 ⟨h1, e⟩)
      · exact .inr (.inl h1)
      · exact .inr (.inr (List.mem_append_left _ h1))
    · have := h.cl
      have := List.length_eraseIdx_le H i
      omega
/-- killed, and needed by a snapshot -/
theorem Ex.kill_dead (h : Ex L b t H S O B X) {i x : Nat} (hx : H[i]? = some x) (hl : ¬ aheadL L L.snaps.length < (bn B x : Int)) :
    killS L ⟨x, 0, bn B x, ⟨#[]⟩⟩ = (⟨L.base, L.snaps, L.dead ++ [⟨x, 0, bn B x, ⟨#[]⟩⟩]⟩, false, 0) ∧ Ex ⟨L.base, L.snaps, L.dead ++ [⟨x, 0, bn B x, ⟨#[]⟩⟩]⟩ b (t + 1) (H.eraseIdx i) S O B X := by
  have hT := h.tick
  have hxm := List.mem_of_getElem? hx
  obtain ⟨x1, x2⟩ := h.hl x hxm
  have hA : allB ⟨L.base, L.snaps, L.dead ++ [⟨x, 0, bn B x, ⟨#[]⟩⟩]⟩ = allB L ++ [⟨x, 0, bn B x, ⟨#[]⟩⟩] := by simp [allB]
  have hdk : ∀ {k : Nat} {p : Pt}, k ≤ L.snaps.length → p ∈ dk ⟨L.base, L.snaps, L.dead ++ [⟨x, 0, bn B x, ⟨#[]⟩⟩]⟩ k → p ∈ dk L k ∨ (k = L.snaps.length ∧ p.addr = (x : Int)) := fun {k p} hk hp => by
    cases hq : L.snaps[k]? with
    | some s =>
      have e : dk ⟨L.base, L.snaps, L.dead ++ [⟨x, 0, bn B x, ⟨#[]⟩⟩]⟩ k = s.dead := dk_some hq
      rw [e] at hp
      exact .inl (by rw [dk_some hq]; exact hp)
    | none =>
      have e : dk ⟨L.base, L.snaps, L.dead ++ [⟨x, 0, bn B x, ⟨#[]⟩⟩]⟩ k = L.dead ++ [⟨x, 0, bn B x, ⟨#[]⟩⟩] := dk_none hq
      rw [e] at hp
      have := List.getElem?_eq_none_iff.1 hq
      rcases List.mem_append.1 hp with hp | hp
      · exact .inl (by rw [dk_none hq]; exact hp)
      · exact .inr ⟨by omega, by rw [List.mem_singleton.1 hp]⟩
  refine ⟨?_, ?_⟩
  · unfold killS
    rw [if_pos h.R, if_neg hl]
  · refine ⟨?_, h.hb, hT.bt, h.ls, ?_, hT.zt, hT.br, fun n hn => ?_, h.hn.eraseIdx i, fun n hn p hp => ?_, fun n hn => ?_, fun p hp => ?_, ?_, fun k hk p hp n hn j V s hV hs => ?_, fun n hn => ?_, h.sa, fun n hn => ?_, h.oo, h.oa, ?_, hT.sl, hT.bl, ?_, hT.vl, h.ol⟩
    · obtain ⟨r0, r1, r2⟩ := rightL_iff.1 h.R
      refine rightL_iff.2 ⟨r0, fun i s hi => ?_, ?_⟩
      · rw [ahead_dead (d' := L.dead)]
        exact r1 i s hi
      · rw [ahead_dead (d' := L.dead)]
        refine young_app r2 ?_
        have : (bn B x : Int) ≤ aheadL L L.snaps.length := by omega
        simp [youngL]
        exact this
    · rw [ahead_dead (d' := L.dead)]
      exact hT.la
    · obtain ⟨h1, h2⟩ := (mem_out h.hn hx).1 hn
      exact h.hl n h1
    · obtain ⟨h1, h2⟩ := (mem_out h.hn hx).1 hn
      rw [hA] at hp
      rcases List.mem_append.1 hp with hp | hp
      · exact h.ha n h1 p hp
      · rw [List.mem_singleton.1 hp]
        show (x : Int) ≠ (n : Int)
        omega
    · exact h.hs n ((mem_out h.hn hx).1 hn).1
    · rw [hA] at hp
      rcases List.mem_append.1 hp with hp | hp
      · exact h.pb p hp
      · rw [List.mem_singleton.1 hp]
        exact ⟨x, x1, rfl, rfl, x2⟩
    · rw [hA, List.map_append]
      refine List.nodup_append.2 ⟨h.pn, by simp, fun y hy z hz => ?_⟩
      obtain ⟨p, hp, rfl⟩ := List.mem_map.1 hy
      simp at hz
      subst hz
      exact h.ha x hxm p hp
    · rcases hdk (by rw [← h.ls]; exact hk) hp with h1 | ⟨h1, h2⟩
      · exact h.ps k hk p h1 n hn j V s hV hs
      · have e : n = x := by omega
        subst e
        rw [h.hs n hxm j V s hV hs]
        have := (List.getElem?_eq_some_iff.1 hs).1
        exact ⟨fun h => ⟨by rw [h1]; exact this, h⟩, fun h => h.2⟩
    · obtain ⟨h1, h2, h3, h4⟩ := h.xa n hn
      exact ⟨h1, h2, h3, fun hm => h4 ((mem_out h.hn hx).1 hm).1⟩
    · rw [hA]
      rcases h.al n hn with h1 | ⟨p, hp, e⟩ | h1
      · by_cases e : n = x
        · exact .inr (.inl ⟨⟨x, 0, bn B x, ⟨#[]⟩⟩, by simp, by rw [e]⟩)
        · exact .inl ((mem_out h.hn hx).2 ⟨h1, e⟩)
      · exact .inr (.inl ⟨p, List.mem_append_left _ hp, e⟩)
      · exact .inr (.inr h1)
    · rw [hA, List.length_append, List.length_singleton]
      have := h.nl
      omega
    · have := h.cl
      have := List.length_eraseIdx_le H i
      omega
theorem nd_map {f : Int → Nat} : ∀ {l : List Int}, l.Nodup → (∀ x ∈ l, ∀ y ∈ l, f x = f y → x = y) → (l.map f).Nodup
  | [], _, _ => by simp
  | x :: l, h, hf => by
    rw [List.map_cons, List.nodup_cons]
    rw [List.nodup_cons] at h
    refine ⟨fun hm => ?_, nd_map h.2 fun y hy z hz => hf y (List.mem_cons_of_mem _ hy) z (List.mem_cons_of_mem _ hz)⟩
    obtain ⟨y, hy, e⟩ := List.mem_map.1 hm
    have := hf y (List.mem_cons_of_mem _ hy) x (by simp) e
    subst this
    exact h.1 hy
/-- the numbers of blocks -/
def nos (F : List Pt) : List Nat := F.map fun p => p.addr.toNat
theorem Ex.des (h : Ex L b t H S O B X) {k : Nat} (hk : k < S.length) :
    ∃ (M : Ln) (F : List Pt), desS L (k : Int) = (M, F, 0) ∧ Ex M b (t + 1) H (S.eraseIdx k) O B (X ++ nos F) ∧ M.snaps.length + 1 = L.snaps.length ∧ (∀ p ∈ F, ∃ n : Nat, p.addr = (n : Int) ∧ n < B.length ∧ n ∉ X) ∧ (nos F).Nodup := by
  have hT := h.tick
  have hkl : k < L.snaps.length := by rw [← h.ls]; exact hk
  have hp := des_perm hkl
  obtain ⟨d1, d2, d3⟩ := des_snaps hkl (keepL L k)
  have dl := des_len hkl
  have hmem : ∀ p ∈ allB (desL L k (keepL L k)), p ∈ allB L := fun p hp' => hp.mem_iff.1 (List.mem_append_left _ hp')
  have hF : ∀ p ∈ laterL (aheadL L k) (nextL L k), p ∈ allB L ∧ p ∈ dk L (k + 1) ∧ aheadL L k < p.birth := fun p hp' => by
    have h1 := List.mem_filter.1 hp'
    exact ⟨hp.mem_iff.1 (List.mem_append_right _ hp'), h1.1, of_decide_eq_true h1.2⟩
  have hFn : ∀ p ∈ laterL (aheadL L k) (nextL L k), ∃ n : Nat, p.addr = (n : Int) ∧ n < B.length ∧ n ∉ X := fun p hp' => by
    obtain ⟨n, h1, h2, _, h4⟩ := h.pb p (hF p hp').1
    exact ⟨n, h2, h1, h4⟩
  have hnd := (hp.map fun p => p.addr).nodup_iff.2 h.pn
  rw [List.map_append] at hnd
  obtain ⟨nd1, nd2, nd3⟩ := List.nodup_append.1 hnd
  have hnos : ∀ {n : Nat}, n ∈ nos (laterL (aheadL L k) (nextL L k)) ↔ ∃ p ∈ laterL (aheadL L k) (nextL L k), p.addr = (n : Int) := fun {n} => by
    unfold nos
    rw [List.mem_map]
    constructor
    · rintro ⟨p, hp', e⟩
      obtain ⟨m, h1, _⟩ := hFn p hp'
      exact ⟨p, hp', by omega⟩
    · rintro ⟨p, hp', e⟩
      exact ⟨p, hp', by omega⟩
  have hup : ∀ {i : Nat} {V : List Nat} {s : Sn}, (S.eraseIdx k)[i]? = some V → (desL L k (keepL L k)).snaps[i]? = some s → ∃ s', S[up k i]? = some V ∧ L.snaps[up k i]? = some s' ∧ s'.txg = s.txg := fun {i V s} hV hs => by
    rw [get_erase] at hV
    have hi := (List.getElem?_eq_some_iff.1 hs).1
    obtain ⟨s', x, e1, e2, e3⟩ := des_at hkl i (by omega)
    rw [e2] at hs
    injection hs with hs
    subst hs
    exact ⟨s', hV, e1, e3.symm⟩
  have hSm : ∀ {V : List Nat}, V ∈ S.eraseIdx k → V ∈ S := fun {V} hV => List.mem_of_mem_eraseIdx hV
  refine ⟨desL L k (keepL L k), laterL (aheadL L k) (nextL L k), ?_, ?_, dl, hFn, ?_⟩
  · unfold desS
    rw [if_pos h.R, if_neg (by omega), Int.toNat_natCast]
  · refine ⟨right_des h.R hkl, d2.trans h.hb, hT.bt, ?_, ?_, fun s hs => ?_, hT.br, fun n hn => ?_, h.hn, fun n hn p hp' => h.ha n hn p (hmem p hp'), fun n hn i V s hV hs => ?_, fun p hp' => ?_, nd1, fun j hj p hp' n hn i V s hV hs => ?_, fun n hn => ?_, fun V hV => h.sa V (hSm hV), fun n hn => ?_, h.oo, h.oa, ?_, ?_, hT.bl, hT.cl, fun V hV => hT.vl V (hSm hV), h.ol⟩
    · rw [List.length_eraseIdx, if_pos hk, h.ls]; omega
    · have hla := hT.la
      cases hlen : (desL L k (keepL L k)).snaps.length with
      | zero =>
        show (desL L k (keepL L k)).base ≤ _
        rw [d2, h.hb]
        have := h.bt; omega
      | succ m =>
        obtain ⟨s, hs⟩ := snaps_in (L := desL L k (keepL L k)) (i := m) (by omega)
        rw [ahead_succ hs]
        obtain ⟨y, hy, e⟩ := d3 s (List.mem_of_getElem? hs)
        rw [← e]
        exact (hT.zt y hy).2
    · obtain ⟨y, hy, e⟩ := d3 s hs
      rw [← e]
      exact hT.zt y hy
    · obtain ⟨h1, h2⟩ := h.hl n hn
      refine ⟨h1, fun hm => ?_⟩
      rcases List.mem_append.1 hm with hm | hm
      · exact h2 hm
      · obtain ⟨p, hp', e⟩ := hnos.1 hm
        exact h.ha n hn p (hF p hp').1 e
    · obtain ⟨s', e1, e2, e3⟩ := hup hV hs
      rw [← e3]
      exact h.hs n hn _ V s' e1 e2
    · obtain ⟨n, h1, h2, h3, h4⟩ := h.pb p (hmem p hp')
      refine ⟨n, h1, h2, h3, fun hm => ?_⟩
      rcases List.mem_append.1 hm with hm | hm
      · exact h4 hm
      · obtain ⟨q, hq, e⟩ := hnos.1 hm
        exact nd3 _ (List.mem_map.2 ⟨p, hp', rfl⟩) _ (List.mem_map.2 ⟨q, hq, rfl⟩) (by rw [e, h2])
    · obtain ⟨s', e1, e2, e3⟩ := hup hV hs
      rw [← e3]
      have hjl : j + 1 ≤ L.snaps.length := by
        rw [List.length_eraseIdx, if_pos hk, h.ls] at hj
        omega
      rcases des_dk hkl hjl hp' with ⟨c1, c2⟩ | ⟨c1, c2⟩ | ⟨c1, c2⟩
      · rw [h.ps j (by rw [h.ls]; omega) p c2 n hn _ V s' e1 e2]
        unfold up
        by_cases hik : i < k
        · rw [if_pos hik]
        · rw [if_neg hik]
          exact ⟨fun h => by omega, fun h => by omega⟩
      · subst c1
        rw [h.ps j (by omega) p c2 n hn _ V s' e1 e2]
        unfold up
        by_cases hik : i < j
        · rw [if_pos hik]
        · rw [if_neg hik]
          exact ⟨fun h => by omega, fun h => by omega⟩
      · rw [h.ps (j + 1) (by rw [h.ls]; omega) p c2 n hn _ V s' e1 e2]
        unfold up
        by_cases hik : i < k
        · rw [if_pos hik]
          exact ⟨fun h => ⟨by omega, h.2⟩, fun h => ⟨by omega, h.2⟩⟩
        · rw [if_neg hik]
          exact ⟨fun h => ⟨by omega, h.2⟩, fun h => ⟨by omega, h.2⟩⟩
    · rcases List.mem_append.1 hn with hn | hn
      · obtain ⟨h1, h2, h3, h4⟩ := h.xa n hn
        exact ⟨h1, h2, fun V hV => h3 V (hSm hV), h4⟩
      · obtain ⟨p, hp', e⟩ := hnos.1 hn
        obtain ⟨f1, f2, f3⟩ := hF p hp'
        obtain ⟨m, g1, g2, g3, g4⟩ := h.pb p f1
        have emn : m = n := by omega
        subst emn
        have hb0 : aheadL L 0 = (b : Int) := h.hb
        have hal := ahead_le h.R (Nat.zero_le k) (Nat.le_of_lt hkl)
        refine ⟨g1, by omega, fun V hV hv => ?_, fun hm => h.ha m hm p f1 e⟩
        obtain ⟨i, hi⟩ := List.getElem?_of_mem hV
        rw [get_erase] at hi
        have hil := (List.getElem?_eq_some_iff.1 hi).1
        obtain ⟨s, hs⟩ := snaps_in (L := L) (i := up k i) (by rw [← h.ls]; exact hil)
        have h1 := (h.ps (k + 1) (by omega) p f2 m e _ V s hi hs).1 hv
        have hne := up_ne k i
        have h2 := ahead_le h.R (i := up k i + 1) (k := k) (by omega) (Nat.le_of_lt hkl)
        rw [ahead_succ hs] at h2
        omega
    · rcases h.al n hn with h1 | ⟨p, hp', e⟩ | h1
      · exact .inl h1
      · rcases List.mem_append.1 (hp.mem_iff.2 hp') with h2 | h2
        · exact .inr (.inl ⟨p, h2, e⟩)
        · exact .inr (.inr (List.mem_append_right _ (hnos.2 ⟨p, h2, e⟩)))
      · exact .inr (.inr (List.mem_append_left _ h1))
    · have h1 := hp.length_eq
      have h2 := h.nl
      rw [List.length_append] at h1
      omega
    · have := h.sl
      have := List.length_eraseIdx_le S k
      omega
  · unfold nos
    have e : (laterL (aheadL L k) (nextL L k)).map (fun p => p.addr.toNat) = ((laterL (aheadL L k) (nextL L k)).map (fun p => p.addr)).map Int.toNat := by rw [List.map_map]; rfl
    rw [e]
    refine nd_map nd2 fun x hx y hy hxy => ?_
    obtain ⟨p, hp', rfl⟩ := List.mem_map.1 hx
    obtain ⟨q, hq', rfl⟩ := List.mem_map.1 hy
    obtain ⟨_, e1, _⟩ := hFn p hp'
    obtain ⟨_, e2, _⟩ := hFn q hq'
    omega
end
end Dd
end Go.Proofs.Ytefgofoocabkkaa
