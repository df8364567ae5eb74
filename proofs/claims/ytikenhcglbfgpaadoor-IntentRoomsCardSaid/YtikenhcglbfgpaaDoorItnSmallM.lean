/-
  Labels on the states of a rack, as mathematics: what is written to all drives, what is the newest. No conditions beyond those that each theorem types.
-/
import Derived.Test.YtikenhcglbfgpaaDoorRackSaysM
import Derived.Test.YtikenhcglbfgpaaDoorRackMapM
namespace Go.Proofs.YtikenhcglbfgpaaDoor
open Go Go.RowKit refRack
set_option maxRecDepth 100000
set_option linter.unusedVariables false
namespace Lab
/-- the value of the last that waits for a place -/
theorem newIn_kept (W : Nat → Wt) (z : Wt) {d d' a : Nat} (hd : d' ≠ d) : ∀ k, (newIn (fun i => (keptL W d k).getD i z) d' a (keptL W d k).length).map (fun i => ((keptL W d k).getD i z).x) = (newIn W d' a k).map (fun i => (W i).x)
  | 0 => rfl
  | k + 1 => by
    have ih := newIn_kept W z (a := a) hd k
    by_cases h : (W k).d = d
    · have e : keptL W d (k + 1) = keptL W d k := if_pos h
      have e2 : newIn W d' a (k + 1) = newIn W d' a k := if_neg (fun q => hd (q.1.symm.trans h))
      rw [e, e2]
      exact ih
    · have e : keptL W d (k + 1) = keptL W d k ++ [W k] := if_neg h
      rw [e]
      generalize keptL W d k = l at *
      have hlen : (l ++ [W k]).length = l.length + 1 := by simp
      rw [hlen]
      have hlast : (l ++ [W k]).getD l.length z = W k := by simp [List.getD_eq_getElem?_getD]
      have hold : ∀ i, i < l.length → (l ++ [W k]).getD i z = l.getD i z := fun i hi => by simp [List.getD_eq_getElem?_getD, List.getElem?_append_left hi]
      have hc : newIn (fun i => (l ++ [W k]).getD i z) d' a l.length = newIn (fun i => l.getD i z) d' a l.length := newIn_congr fun i hi => by
        show ((l ++ [W k]).getD i z).d = (l.getD i z).d ∧ ((l ++ [W k]).getD i z).a = (l.getD i z).a
        rw [hold i hi]
        exact ⟨rfl, rfl⟩
      unfold newIn
      show Option.map _ (if ((l ++ [W k]).getD l.length z).d = d' ∧ ((l ++ [W k]).getD l.length z).a = a then some l.length else newIn (fun i => (l ++ [W k]).getD i z) d' a l.length) = _
      rw [hlast, hc]
      by_cases hm : (W k).d = d' ∧ (W k).a = a
      · rw [if_pos hm, if_pos hm]
        show some (((l ++ [W k]).getD l.length z).x) = some (W k).x
        rw [hlast]
      · rw [if_neg hm, if_neg hm, ← ih]
        cases hn : newIn (fun i => l.getD i z) d' a l.length with
        | none => rfl
        | some i =>
          have hi := (newIn_lt hn).1
          show some ((l ++ [W k]).getD i z).x = some (l.getD i z).x
          rw [hold i hi]
theorem holds_map (s : RS) (d a : Nat) : s.holds d a = ((newIn s.W d a s.nw).map fun i => (s.W i).x).getD (s.last d a) := by
  unfold RS.holds
  cases newIn s.W d a s.nw <;> rfl
theorem holds_lost {s : RS} {d d' : Nat} (a : Nat) (h : d' ≠ d) : (s.lost d).holds d' a = s.holds d' a := by
  rw [holds_map, holds_map]
  show ((newIn (fun i => (keptL s.W d s.nw).getD i ⟨0, 0, zeros⟩) d' a (keptL s.W d s.nw).length).map fun i => ((keptL s.W d s.nw).getD i ⟨0, 0, zeros⟩).x).getD (if d' = d then zeros else s.last d' a) = _
  rw [newIn_kept s.W ⟨0, 0, zeros⟩ h s.nw, if_neg h]
/-- one record to the first k drives -/
def wall (s : RS) (q : Nat) (X : Nat → Nat) : Nat → RS
  | 0 => s
  | k + 1 => if s.gone k = true then wall s q X k else (wall s q X k).wrote k q X
def cntW (s : RS) : Nat → Nat
  | 0 => 0
  | k + 1 => if s.gone k = true then cntW s k else cntW s k + 1
theorem wall_succ (s : RS) (q : Nat) (X : Nat → Nat) (k : Nat) : wall s q X (k + 1) = if s.gone k = true then wall s q X k else (wall s q X k).wrote k q X := rfl
theorem cntW_succ (s : RS) (k : Nat) : cntW s (k + 1) = if s.gone k = true then cntW s k else cntW s k + 1 := rfl
structure Like (s t : RS) : Prop where
  nd : t.nd = s.nd
  ns : t.ns = s.ns
  gone : t.gone = s.gone
  off : t.off = s.off
  armed : t.armed = s.armed
  last : t.last = s.last
theorem wall_like (s : RS) (q : Nat) (X : Nat → Nat) : ∀ k, Like s (wall s q X k) ∧ (wall s q X k).cost ≤ s.cost + k
  | 0 => ⟨⟨rfl, rfl, rfl, rfl, rfl, rfl⟩, Nat.le_refl _⟩
  | k + 1 => by
    obtain ⟨h, hc⟩ := wall_like s q X k
    rw [wall_succ]
    split
    · exact ⟨h, by omega⟩
    · exact ⟨⟨h.nd, h.ns, h.gone, h.off, h.armed, h.last⟩, by show (wall s q X k).cost + 1 ≤ _; omega⟩
theorem wall_holds (s : RS) (q : Nat) (X : Nat → Nat) (d a : Nat) : ∀ k, (wall s q X k).holds d a = if d < k ∧ s.gone d = false ∧ a = q then X else s.holds d a
  | 0 => by rw [if_neg (fun h => absurd h.1 (Nat.not_lt_zero _))]; rfl
  | k + 1 => by
    rw [wall_succ]
    by_cases hg : s.gone k = true
    · rw [if_pos hg, wall_holds s q X d a k]
      by_cases hd : d = k
      · subst hd
        rw [if_neg (fun h => by omega), if_neg (fun h => by rw [hg] at h; cases h.2.1)]
      · by_cases hlt : d < k ∧ s.gone d = false ∧ a = q
        · rw [if_pos hlt, if_pos ⟨by omega, hlt.2⟩]
        · rw [if_neg hlt, if_neg (fun h => hlt ⟨by omega, h.2⟩)]
    · rw [if_neg hg, holds_wrote, wall_holds s q X d a k]
      have hg' : s.gone k = false := by simpa using hg
      by_cases hd : d = k ∧ a = q
      · rw [if_pos hd, if_pos ⟨by omega, by rw [hd.1]; exact hg', hd.2⟩]
      · rw [if_neg hd]
        by_cases hlt : d < k ∧ s.gone d = false ∧ a = q
        · rw [if_pos hlt, if_pos ⟨by omega, hlt.2⟩]
        · rw [if_neg hlt, if_neg (fun h => hlt ⟨by
            have : d ≠ k := fun e => hd ⟨e, h.2.2⟩
            omega, h.2⟩)]
theorem Like.calm {s t : RS} (h : Like s t) (hc : s.calm) : t.calm := ⟨by rw [h.off]; exact hc.1, by rw [h.armed]; exact hc.2⟩
theorem why_of {s : RS} {d a : Nat} (hd : d < s.nd) (ha : a < s.ns) : s.why (d : Int) (a : Int) = if s.gone d = true then 3 else 0 := by
  have hp : s.isP (d : Int) (a : Int) = true := by simp [RS.isP, RS.isD]; omega
  unfold RS.why
  rw [if_pos hp, Int.toNat_natCast]
theorem WR_calm {s : RS} (hc : s.calm) {q : Nat} (hq : q < s.ns) (X : Nat → Nat) : ∀ f k, k + f ≤ s.nd → WR (q : Int) X f k (wall s q X k) (cntW s k) = (wall s q X (k + f), ((cntW s (k + f) : Nat) : Int), if cntW s (k + f) = 0 then 4 else 0)
  | 0, k, _ => rfl
  | f + 1, k, h => by
    obtain ⟨hl, _⟩ := wall_like s q X k
    have hwy : (wall s q X k).why (k : Int) (q : Int) = if s.gone k = true then 3 else 0 := by
      rw [why_of (by rw [hl.nd]; omega) (by rw [hl.ns]; exact hq), hl.gone]
    have hcl := hl.calm hc
    have hE : wrE (wall s q X k) (k : Int) (q : Int) 128 = if s.gone k = true then 3 else 0 := by
      unfold wrE
      rw [if_pos rfl, hwy, hcl.pow]
      by_cases hg : s.gone k = true
      · rw [if_pos hg, if_neg (by omega)]
      · rw [if_neg hg, if_pos rfl, if_pos rfl]
    have hS : wrS (wall s q X k) (k : Int) (q : Int) 128 X = wall s q X (k + 1) := by
      unfold wrS
      rw [hwy, hcl.pow, hcl.spent, wall_succ]
      by_cases hg : s.gone k = true
      · rw [if_pos hg, if_pos hg, if_neg (by omega)]
      · rw [if_neg hg, if_neg hg, if_pos ⟨rfl, rfl⟩, if_pos rfl, Int.toNat_natCast, Int.toNat_natCast]
    show (if wrE (wall s q X k) (k : Int) (q : Int) 128 = 16 then _ else WR (q : Int) X f (k + 1) (wrS (wall s q X k) (k : Int) (q : Int) 128 X) (if wrE (wall s q X k) (k : Int) (q : Int) 128 = 0 then cntW s k + 1 else cntW s k)) = _
    rw [hE, hS]
    have hcn : (if (if s.gone k = true then (3 : Int) else 0) = 0 then cntW s k + 1 else cntW s k) = cntW s (k + 1) := by
      rw [cntW_succ]
      by_cases hg : s.gone k = true
      · rw [if_pos hg, if_pos hg, if_neg (by omega)]
      · rw [if_neg hg, if_neg hg, if_pos rfl]
    rw [hcn, if_neg (by split <;> omega), WR_calm hc hq X f (k + 1) (by omega)]
    rw [show k + 1 + f = k + (f + 1) by omega]
theorem wroteL_calm {s : RS} (hc : s.calm) (h8 : 8 < s.ns) {t : Nat} {p : K.Pt} (hok : okU ⟨(t : Int), p⟩ = true) :
    wroteL s ⟨(t : Int), p⟩ = (wall s (t % 8) (lst (encL ⟨(t : Int), p⟩)) s.nd, ((cntW s s.nd : Nat) : Int), if cntW s s.nd = 0 then 4 else 0) := by
  have hq : ((t : Int)).tmod 8 = ((t % 8 : Nat) : Int) := by
    rw [Int.tmod_eq_emod_of_nonneg (by omega)]
    omega
  unfold wroteL
  rw [if_pos h8, if_pos hok]
  show WR (((t : Int)).tmod 8) _ _ _ _ _ = _
  rw [hq]
  have h := WR_calm hc (q := t % 8) (by omega) (lst (encL ⟨(t : Int), p⟩)) s.nd 0 (by omega)
  rw [Nat.zero_add] at h
  exact h
/-- no record -/
theorem not_zero {u : U} {L : List Nat} (h : Is L u) : lst L 0 ≠ 0 := by
  rw [h.2]
  unfold encL secB lst
  show (K.encs (itsU u)).length + 32 ≠ 0
  omega
theorem sec_is {s : RS} {d a : Nat} {u : U} (hu : Ok u) (h : ∀ j, j < 128 → s.holds d a j = lst (encL u) j) : sec s d a = encL u := by
  refine list_ext_lst (by rw [sec_length, encL_length (ok_p hu) hu.2]) fun j hj => ?_
  rw [sec_length] at hj
  rw [sec_lst s d a j hj, h j hj]
theorem deny_of {s : RS} {d a : Nat} (ho : s.off = false) (hd : d < s.nd) (ha : a < s.ns) : s.deny (d : Int) (a : Int) = if s.gone d = true then 3 else 0 := by
  unfold RS.deny
  rw [why_of hd ha, ho]
  by_cases hg : s.gone d = true
  · rw [if_pos hg, if_neg (by omega)]
  · rw [if_neg hg, if_pos rfl, if_neg (by simp)]
section
variable {s : RS} {d a : Nat}
theorem look_gone (ho : s.off = false) (hd : d < s.nd) (ha : a < s.ns) (hg : s.gone d = true) : lookU s d a = zeroU ∧ lookE s d a = 3 := by
  have h := deny_of ho hd ha
  rw [if_pos hg] at h
  unfold lookU lookE
  rw [h, if_neg (by omega), if_neg (by omega)]
  exact ⟨rfl, rfl⟩
theorem look_rec (ho : s.off = false) (hd : d < s.nd) (ha : a < s.ns) (hg : s.gone d = false) {u : U} (hu : Ok u) (hx : ∀ j, j < 128 → s.holds d a j = lst (encL u) j) (ht : u.t.tmod 8 = (a : Int)) : lookU s d a = u ∧ lookE s d a = 0 := by
  have h := deny_of ho hd ha
  rw [if_neg (by rw [hg]; simp)] at h
  have hf := found_some (s := s) (d := d) (a := a) (u := u) ⟨⟨hu, sec_is hu hx⟩, ht⟩
  unfold lookU lookE
  rw [h, if_pos rfl, if_pos rfl, hf]
  exact ⟨rfl, rfl⟩
theorem look_none (ho : s.off = false) (hd : d < s.nd) (ha : a < s.ns) (hg : s.gone d = false) (hx : s.holds d a 0 = 0) : lookU s d a = zeroU ∧ lookE s d a = 7 := by
  have h := deny_of ho hd ha
  rw [if_neg (by rw [hg]; simp)] at h
  have hf : found s d a = none := found_none fun u hu => not_zero hu.1 (by rw [sec_lst s d a 0 (by omega)]; exact hx)
  unfold lookU lookE
  rw [h, if_pos rfl, if_pos rfl, hf]
  exact ⟨rfl, rfl⟩
theorem lookE_on (ho : s.off = false) (hd : d < s.nd) (ha : a < s.ns) : lookE s d a ≠ 16 := by
  have h := deny_of ho hd ha
  unfold lookE
  rw [h]
  by_cases hg : s.gone d = true
  · rw [if_pos hg]; omega
  · rw [if_neg hg]
    rw [if_pos rfl]
    split <;> omega
end
theorem NRow_spec {s : RS} {d : Nat} (h16 : ∀ a, a < 8 → lookE s d a ≠ 16) : ∀ f a b, a + f = 8 → ∃ c, NRow s d f a b = some c ∧ b.t ≤ c.t ∧ (c = b ∨ ∃ a', a' < 8 ∧ c = lookU s d a') ∧ ∀ a', a ≤ a' → a' < 8 → (lookU s d a').t ≤ c.t
  | 0, a, b, h => ⟨b, rfl, Int.le_refl _, .inl rfl, fun a' h1 h2 => by omega⟩
  | f + 1, a, b, h => by
    obtain ⟨c, h1, h2, h3, h4⟩ := NRow_spec h16 f (a + 1) (stepU b (lookU s d a)) (by omega)
    have hs : b.t ≤ (stepU b (lookU s d a)).t ∧ (lookU s d a).t ≤ (stepU b (lookU s d a)).t ∧ (stepU b (lookU s d a) = b ∨ stepU b (lookU s d a) = lookU s d a) := by
      unfold stepU
      split
      · exact ⟨by omega, Int.le_refl _, .inr rfl⟩
      · exact ⟨Int.le_refl _, by omega, .inl rfl⟩
    refine ⟨c, ?_, by omega, ?_, fun a' ha1 ha2 => ?_⟩
    · show (if lookE s d a = 16 then none else NRow s d f (a + 1) (stepU b (lookU s d a))) = _
      rw [if_neg (h16 a (by omega))]
      exact h1
    · rcases h3 with h3 | h3
      · rcases hs.2.2 with h5 | h5
        · exact .inl (h3.trans h5)
        · exact .inr ⟨a, by omega, h3.trans h5⟩
      · exact .inr h3
    · by_cases e : a' = a
      · rw [e]; omega
      · exact h4 a' (by omega) ha2
theorem NAll_spec {s : RS} {nd : Nat} (h16 : ∀ d a, d < nd → a < 8 → lookE s d a ≠ 16) : ∀ f d b, d + f = nd → ∃ c, NAll s f d b = some c ∧ b.t ≤ c.t ∧ (c = b ∨ ∃ d' a', d' < nd ∧ a' < 8 ∧ c = lookU s d' a') ∧ ∀ d' a', d ≤ d' → d' < nd → a' < 8 → (lookU s d' a').t ≤ c.t
  | 0, d, b, h => ⟨b, rfl, Int.le_refl _, .inl rfl, fun d' a' h1 h2 => by omega⟩
  | f + 1, d, b, h => by
    obtain ⟨c1, g1, g2, g3, g4⟩ := NRow_spec (s := s) (d := d) (fun a ha => h16 d a (by omega) ha) 8 0 b rfl
    obtain ⟨c, h1, h2, h3, h4⟩ := NAll_spec h16 f (d + 1) c1 (by omega)
    refine ⟨c, ?_, by omega, ?_, fun d' a' hd1 hd2 ha => ?_⟩
    · show (NRow s d 8 0 b).bind (NAll s f (d + 1)) = _
      rw [g1]
      exact h1
    · rcases h3 with h3 | h3
      · rcases g3 with g3 | ⟨a', g5, g6⟩
        · exact .inl (h3.trans g3)
        · exact .inr ⟨d, a', by omega, g5, h3.trans g6⟩
      · exact .inr h3
    · by_cases e : d' = d
      · rw [e]
        have := g4 a' (by omega) ha
        omega
      · exact h4 d' a' (by omega) hd2 ha
theorem newU_is {s : RS} (ho : s.off = false) (h8 : 8 < s.ns) {u : U} (h1 : 1 ≤ u.t) (hx : ∃ d a, d < s.nd ∧ a < 8 ∧ lookU s d a = u) (ha : ∀ d a, d < s.nd → a < 8 → lookU s d a = u ∨ (lookU s d a).t < u.t) : newU s = (u, 0) := by
  obtain ⟨c, g1, g2, g3, g4⟩ := NAll_spec (s := s) (nd := s.nd) (fun d a hd ha => lookE_on ho hd (by omega)) s.nd 0 zeroU (by omega)
  obtain ⟨d, a, hd, ha8, e⟩ := hx
  have h2 := g4 d a (Nat.zero_le _) hd ha8
  rw [e] at h2
  have hc : c = u := by
    rcases g3 with g3 | ⟨d', a', g5, g6, g7⟩
    · rw [g3] at h2
      have : (zeroU).t = 0 := rfl
      omega
    · rcases ha d' a' g5 g6 with h3 | h3
      · exact g7.trans h3
      · rw [← g7] at h3; omega
  unfold newU
  rw [if_pos h8, g1, hc]
  exact if_neg (by omega)
theorem newU_none {s : RS} (ho : s.off = false) (h8 : 8 < s.ns) (ha : ∀ d a, d < s.nd → a < 8 → lookU s d a = zeroU) : newU s = (zeroU, 7) := by
  obtain ⟨c, g1, g2, g3, g4⟩ := NAll_spec (s := s) (nd := s.nd) (fun d a hd ha => lookE_on ho hd (by omega)) s.nd 0 zeroU (by omega)
  have hc : c = zeroU := by
    rcases g3 with g3 | ⟨d', a', g5, g6, g7⟩
    · exact g3
    · exact g7.trans (ha d' a' g5 g6)
  unfold newU
  rw [if_pos h8, g1, hc]
  rfl
end Lab
end Go.Proofs.YtikenhcglbfgpaaDoor
namespace Go.Proofs.YtikenhcglbfgpaaDoor
open Go Go.RowKit refRack
set_option maxRecDepth 100000
set_option linter.unusedVariables false
namespace Itn
open Lab (sec)
open Classical in
noncomputable def pcAt (L : List Nat) (b k : Int) : Option Pc := if h : ∃ p, Is L b k p then some h.choose else none
section
variable {L : List Nat} {b k : Int} {p : Pc} {s : RS} {q : Nat}
theorem pcAt_some (h : Is L b k p) : pcAt L b k = some p := by
  have hx : ∃ p, Is L b k p := ⟨p, h⟩
  unfold pcAt
  rw [dif_pos hx]
  exact congrArg some (hx.choose_spec.one h).2.2
theorem pcAt_none (h : ∀ p, ¬ Is L b k p) : pcAt L b k = none := by
  unfold pcAt
  rw [dif_neg (fun ⟨p, hp⟩ => h p hp)]
theorem pcAt_is (h : pcAt L b k = some p) : Is L b k p := by
  by_cases hx : ∃ p, Is L b k p
  · obtain ⟨q, hq⟩ := hx
    rw [pcAt_some hq] at h
    injection h with h
    subst h
    exact hq
  · rw [pcAt_none fun p hp => hx ⟨p, hp⟩] at h
    cases h
/-- piece k of a base on the least of f drives from d on -/
noncomputable def lookF (s : RS) (q : Nat) (b k : Int) : Nat → Nat → Option Pc
  | 0, _ => none
  | f + 1, d => if s.gone d = true then lookF s q b k f (d + 1) else match pcAt (sec s d q) b k with
    | some p => some p
    | none => lookF s q b k f (d + 1)
noncomputable def lookP (s : RS) (q : Nat) (b k : Int) : Option Pc := lookF s q b k s.nd 0
theorem look_zero (hd : 0 < s.nd) (hg : s.gone 0 = false) (h : Is (sec s 0 q) b k p) : lookP s q b k = some p := by
  unfold lookP
  obtain ⟨n, hn⟩ : ∃ n, s.nd = n + 1 := ⟨s.nd - 1, by omega⟩
  rw [hn]
  unfold lookF
  rw [if_neg (by rw [hg]; decide), pcAt_some h]
theorem lookF_none : ∀ f d, (∀ d', d ≤ d' → d' < d + f → s.gone d' = false → ∀ p, ¬ Is (sec s d' q) b k p) → lookF s q b k f d = none
  | 0, d, _ => rfl
  | f + 1, d, h => by
    unfold lookF
    have ih := lookF_none f (d + 1) fun d' h1 h2 => h d' (by omega) (by omega)
    by_cases hg : s.gone d = true
    · rw [if_pos hg]; exact ih
    · rw [if_neg hg, pcAt_none (h d (Nat.le_refl _) (by omega) (by simpa using hg))]
      exact ih
theorem look_none (h : ∀ d, d < s.nd → s.gone d = false → ∀ p, ¬ Is (sec s d q) b k p) : lookP s q b k = none :=
  lookF_none _ _ fun d' _ h2 => h d' (by omega)
theorem lookF_len : ∀ f d {p : Pc}, lookF s q b k f d = some p → p.s.size ≤ 56
  | 0, d, p, h => by cases h
  | f + 1, d, p, h => by
    unfold lookF at h
    by_cases hg : s.gone d = true
    · rw [if_pos hg] at h; exact lookF_len f (d + 1) h
    · rw [if_neg hg] at h
      cases hp : pcAt (sec s d q) b k with
      | some p' =>
        rw [hp] at h
        injection h with h
        subst h
        exact (pcAt_is hp).1.s
      | none => rw [hp] at h; exact lookF_len f (d + 1) h
/-- a piece's sector begins with its length, and its first item's kind -/
theorem pcL_head (h : OkI b k p) : 32 ≤ lst (pcL b k p) 0 ∧ lst (pcL b k p) 1 = 1 := by
  constructor
  · show 32 ≤ (K.encs (itsI b k p)).length + 32
    omega
  · rfl
theorem not_zero (h : Is L b k p) : lst L 0 ≠ 0 := by
  rw [h.2]
  have := (pcL_head h.1).1
  omega
/-- the pieces that stand there from k on, f at most: the intents, and how many pieces are used -/
noncomputable def colF (s : RS) (first : Nat) (b : Int) : Nat → Nat → ByteArray → List ByteArray → Nat → List ByteArray × Nat
  | 0, _, _, out, used => (out, used)
  | f + 1, k, x, out, used => match lookP s (first + k) b (k : Int) with
    | none => (out, used)
    | some p => if p.l = true then colF s first b f (k + 1) ⟨#[]⟩ (out ++ [x ++ p.s]) (k + 1) else colF s first b f (k + 1) (x ++ p.s) out used
end
end Itn
end Go.Proofs.YtikenhcglbfgpaaDoor
namespace Go.Proofs.YtikenhcglbfgpaaDoor
open Go Go.RowKit refRack
set_option maxRecDepth 100000
set_option linter.unusedVariables false
namespace Itn
theorem isize_item : (Tryd.prog.info? 81).map (·.size) = some 3 := by kernel_rfl
set_option maxHeartbeats 1600000 in
theorem number_at (n : Int) (w : World) : Calls Tryd.prog 36 #[.int .i64 n] w fun e w' => e = .returned (.agg #[.int .i64 1, .int .i64 n, .string ⟨#[]⟩]) ∧ Below w.heap.size w w' := by
  have L0 : Below w.heap.size w (w.alloc (.cells #[.int .i64 1, .int .i64 n, .string ⟨#[]⟩] 81)) := (Below.refl _ _).alloc (Nat.le_refl _) _
  have HL := Lib.hid L0
  have X0 := Lib.hid (Blk.new w 81 #[.int .i64 1, .int .i64 n, .string ⟨#[]⟩])
  clear L0
  go_enter Tryd.func36, Tryd.ntmps36
  go_wp2_with fail
  refine bodyPost_ret (results_cell rfl rfl (loadVar_blk X0.out Tryd.underlying81 rfl isize_item)) rfl ?_
  exact ⟨rfl, HL.out⟩
set_option maxHeartbeats 1600000 in
theorem text_at (s : ByteArray) (w : World) : Calls Tryd.prog 37 #[.string s] w fun e w' => e = .returned (.agg #[.int .i64 2, .int .i64 0, .string s]) ∧ Below w.heap.size w w' := by
  have L0 : Below w.heap.size w (w.alloc (.cells #[.int .i64 2, .int .i64 0, .string s] 81)) := (Below.refl _ _).alloc (Nat.le_refl _) _
  have HL := Lib.hid L0
  have X0 := Lib.hid (Blk.new w 81 #[.int .i64 2, .int .i64 0, .string s])
  clear L0
  go_enter Tryd.func37, Tryd.ntmps37
  go_wp2_with fail
  refine bodyPost_ret (results_cell rfl rfl (loadVar_blk X0.out Tryd.underlying81 rfl isize_item)) rfl ?_
  exact ⟨rfl, HL.out⟩
/-- how many pieces -/
def needN (n : Nat) : Nat := 1 + (n - 1) / 56
set_option maxHeartbeats 1600000 in
theorem need_at (s : ByteArray) (w : World) (hs : s.size ≤ 1000000) : Calls Tryd.prog 12 #[.string s] w fun e w' => e = .returned (.int .i64 (needN s.size : Nat)) ∧ w' = w := by
  obtain ⟨n, hn⟩ : ∃ n, n = s.size := ⟨_, rfl⟩
  rw [← hn] at hs ⊢
  have HN := Lib.hid hn
  clear hn
  rcases (show n = 0 ∨ n = 1 ∨ 2 ≤ n by omega) with h0 | h0 | h0
  · subst h0
    have h1 := HN.out.symm
    go_enter Tryd.func12, Tryd.ntmps12
    go_wp2_with fail
    go_ret
    exact ⟨rfl, rfl⟩
  · subst h0
    have h1 := HN.out.symm
    go_enter Tryd.func12, Tryd.ntmps12
    go_wp2_with fail
    go_ret
    exact ⟨rfl, rfl⟩
  · obtain ⟨m, hm⟩ : ∃ m, n = m + 1 := ⟨n - 1, by omega⟩
    subst hm
    have h1 := HN.out.symm
    have hq : needN (m + 1) = 1 + m / 56 := rfl
    rw [hq]
    have h2 : 0 < m := by omega
    clear hq h0
    go_enter Tryd.func12, Tryd.ntmps12
    go_wp2_with fail
    go_ret
    exact ⟨by simp, rfl⟩
set_option maxHeartbeats 1600000 in
theorem isbase_at (n : Nat) (hn : n ≤ 1000000) (w : World) : Calls Tryd.prog 20 #[.int .i64 (n : Int)] w fun e w' => e = .returned (.bool true) ∧ w' = w := by
  have h1 : (0 : Int) ≤ (n : Int) := by omega
  have h2 : (n : Int) ≤ 1125899906842624 := by omega
  go_enter Tryd.func20, Tryd.ntmps20
  go_wp2_with fail
  go_ret
  exact ⟨rfl, rfl⟩
theorem its_good {b k : Int} {p : Pc} (h : OkI b k p) : ∀ x ∈ itsI b k p, Good x := fun x hx => by
  refine ⟨its_fits h x hx, ?_⟩
  have hs := h.s
  unfold itsI at hx
  simp only [List.mem_cons, List.not_mem_nil, or_false] at hx
  rcases hx with rfl | rfl | rfl | rfl | rfl
  · show 0 ≤ _; exact Nat.zero_le _
  · show 0 ≤ _; exact Nat.zero_le _
  · show 0 ≤ _; exact Nat.zero_le _
  · show 0 ≤ _; exact Nat.zero_le _
  · show p.s.size ≤ _
    unfold maxLen
    omega
theorem exec_bs5 {P : Program} {w w' : World} {o : Oper} {a : Act} {ty : TypeId} {n : Nat} {x0 x1 x2 x3 x4 : Operand} {u0 u1 u2 u3 u4 v : Value} (ho : o.op = .buildSlice ty n #[(0, x0), (1, x1), (2, x2), (3, x3), (4, x4)]) (h0 : a.eval x0 = u0) (h1 : a.eval x1 = u1) (h2 : a.eval x2 = u2) (h3 : a.eval x3 = u3) (h4 : a.eval x4 = u4)
    (hl : (Instr.buildSlice ty n #[(0, u0), (1, u1), (2, u2), (3, u3), (4, u4)]).run P w = .ok v w') : (execOp a.eval o).run P w = .ok (.value v) w' := by
  unfold execOp
  simp only [ho, List.map_toArray, List.map_cons, List.map_nil, h0, h1, h2, h3, h4, hl, Sem.run_bind, Sem.run_pure, Result.andThen_ok]
theorem exec_ext {P : Program} {a : Act} {o : Oper} {x : Operand} {k : Nat} {vs : Array Value} {v : Value} (w : World) (e : o.op = .extract x k) (hx : a.eval x = .tuple vs) (hv : vs[k]? = some v) : (execOp a.eval o).run P w = .ok (.value v) w := by
  unfold execOp; simp only [e, hx, Instr.extract, hv, Sem.run_bind, Sem.run_pure, Result.andThen_ok]
theorem bs_items (b k lb : Int) (s : ByteArray) (w : World) : (Instr.buildSlice 84 5 #[(0, .agg #[.int .i64 1, .int .i64 55, .string ⟨#[]⟩]), (1, .agg #[.int .i64 1, .int .i64 b, .string ⟨#[]⟩]), (2, .agg #[.int .i64 1, .int .i64 k, .string ⟨#[]⟩]), (3, .agg #[.int .i64 1, .int .i64 lb, .string ⟨#[]⟩]), (4, .agg #[.int .i64 2, .int .i64 0, .string s])]).run Tryd.prog w =
    .ok (.slice (some ⟨w.heap.size, 0, none⟩) 5 5) (w.alloc (.cells #[.int .i64 1, .int .i64 55, .string ⟨#[]⟩, .int .i64 1, .int .i64 b, .string ⟨#[]⟩, .int .i64 1, .int .i64 k, .string ⟨#[]⟩, .int .i64 1, .int .i64 lb, .string ⟨#[]⟩, .int .i64 2, .int .i64 0, .string s] 81)) := by kernel_rfl
end Itn
end Go.Proofs.YtikenhcglbfgpaaDoor
