/-
  Labels on the states of a rack, as mathematics: what is written to all drives, what is the newest. No conditions beyond those that each theorem types.
-/
import Derived.Test.YtjnnmeolonbedaaDoorRackSaysM
import Derived.Test.YtjnnmeolonbedaaDoorRackRotRowM
import Derived.Test.YtjnnmeolonbedaaDoorDrawSeqM
import Derived.Test.YtjnnmeolonbedaaDoorLawCalmM
import Derived.ProofKit
import Derived.Deep.Grids
namespace Go.Proofs.YtjnnmeolonbedaaDoor
open Go Go.RowKit refRack
set_option maxRecDepth 100000
set_option linter.unusedVariables false
namespace Lab
/-- the value of the last that waits for a place -/
theorem newIn_kept (W : Nat → Wt) (z : Wt) {d d' a : Nat} (hd : d' ≠ d) : ∀ k, (newIn (fun i => (keptL W d k).getD i z) d' a (keptL W d k).length).map (fun i => ((keptL W d k).getD i z).x) = (newIn W d' a k).map (fun i => (W i).x)
  | 0 => rfl
  | k + 1 => by
    have ih := newIn_kept W z (a := a) hd k
    by_cases h : (W k).d = d
    · have e : keptL W d (k + 1) = keptL W d k := if_pos h
      have e2 : newIn W d' a (k + 1) = newIn W d' a k := if_neg (fun q => hd (q.1.symm.trans h))
      rw [e, e2]
      exact ih
    · have e : keptL W d (k + 1) = keptL W d k ++ [W k] := if_neg h
      rw [e]
      generalize keptL W d k = l at *
      have hlen : (l ++ [W k]).length = l.length + 1 := by simp
      rw [hlen]
      have hlast : (l ++ [W k]).getD l.length z = W k := by simp [List.getD_eq_getElem?_getD]
      have hold : ∀ i, i < l.length → (l ++ [W k]).getD i z = l.getD i z := fun i hi => by simp [List.getD_eq_getElem?_getD, List.getElem?_append_left hi]
      have hc : newIn (fun i => (l ++ [W k]).getD i z) d' a l.length = newIn (fun i => l.getD i z) d' a l.length := newIn_congr fun i hi => by
        show ((l ++ [W k]).getD i z).d = (l.getD i z).d ∧ ((l ++ [W k]).getD i z).a = (l.getD i z).a
        rw [hold i hi]
        exact ⟨rfl, rfl⟩
      unfold newIn
      show Option.map _ (if ((l ++ [W k]).getD l.length z).d = d' ∧ ((l ++ [W k]).getD l.length z).a = a then some l.length else newIn (fun i => (l ++ [W k]).getD i z) d' a l.length) = _
      rw [hlast, hc]
      by_cases hm : (W k).d = d' ∧ (W k).a = a
      · rw [if_pos hm, if_pos hm]
        show some (((l ++ [W k]).getD l.length z).x) = some (W k).x
        rw [hlast]
      · rw [if_neg hm, if_neg hm, ← ih]
        cases hn : newIn (fun i => l.getD i z) d' a l.length with
        | none => rfl
        | some i =>
          have hi := (newIn_lt hn).1
          show some ((l ++ [W k]).getD i z).x = some (l.getD i z).x
          rw [hold i hi]
theorem holds_map (s : RS) (d a : Nat) : s.holds d a = ((newIn s.W d a s.nw).map fun i => (s.W i).x).getD (s.last d a) := by
  unfold RS.holds
  cases newIn s.W d a s.nw <;> rfl
theorem holds_lost {s : RS} {d d' : Nat} (a : Nat) (h : d' ≠ d) : (s.lost d).holds d' a = s.holds d' a := by
  rw [holds_map, holds_map]
  show ((newIn (fun i => (keptL s.W d s.nw).getD i ⟨0, 0, zeros⟩) d' a (keptL s.W d s.nw).length).map fun i => ((keptL s.W d s.nw).getD i ⟨0, 0, zeros⟩).x).getD (if d' = d then zeros else s.last d' a) = _
  rw [newIn_kept s.W ⟨0, 0, zeros⟩ h s.nw, if_neg h]
/-- one record to the first k drives -/
def wall (s : RS) (q : Nat) (X : Nat → Nat) : Nat → RS
  | 0 => s
  | k + 1 => if s.gone k = true then wall s q X k else (wall s q X k).wrote k q X
def cntW (s : RS) : Nat → Nat
  | 0 => 0
  | k + 1 => if s.gone k = true then cntW s k else cntW s k + 1
theorem wall_succ (s : RS) (q : Nat) (X : Nat → Nat) (k : Nat) : wall s q X (k + 1) = if s.gone k = true then wall s q X k else (wall s q X k).wrote k q X := rfl
theorem cntW_succ (s : RS) (k : Nat) : cntW s (k + 1) = if s.gone k = true then cntW s k else cntW s k + 1 := rfl
structure Like (s t : RS) : Prop where
  nd : t.nd = s.nd
  ns : t.ns = s.ns
  gone : t.gone = s.gone
  off : t.off = s.off
  armed : t.armed = s.armed
  last : t.last = s.last
theorem wall_like (s : RS) (q : Nat) (X : Nat → Nat) : ∀ k, Like s (wall s q X k) ∧ (wall s q X k).cost ≤ s.cost + k
  | 0 => ⟨⟨rfl, rfl, rfl, rfl, rfl, rfl⟩, Nat.le_refl _⟩
  | k + 1 => by
    obtain ⟨h, hc⟩ := wall_like s q X k
    rw [wall_succ]
    split
    · exact ⟨h, by omega⟩
    · exact ⟨⟨h.nd, h.ns, h.gone, h.off, h.armed, h.last⟩, by show (wall s q X k).cost + 1 ≤ _; omega⟩
theorem wall_holds (s : RS) (q : Nat) (X : Nat → Nat) (d a : Nat) : ∀ k, (wall s q X k).holds d a = if d < k ∧ s.gone d = false ∧ a = q then X else s.holds d a
  | 0 => by rw [if_neg (fun h => absurd h.1 (Nat.not_lt_zero _))]; rfl
  | k + 1 => by
    rw [wall_succ]
    by_cases hg : s.gone k = true
    · rw [if_pos hg, wall_holds s q X d a k]
      by_cases hd : d = k
      · subst hd
        rw [if_neg (fun h => by omega), if_neg (fun h => by rw [hg] at h; cases h.2.1)]
      · by_cases hlt : d < k ∧ s.gone d = false ∧ a = q
        · rw [if_pos hlt, if_pos ⟨by omega, hlt.2⟩]
        · rw [if_neg hlt, if_neg (fun h => hlt ⟨by omega, h.2⟩)]
    · rw [if_neg hg, holds_wrote, wall_holds s q X d a k]
      have hg' : s.gone k = false := by simpa using hg
      by_cases hd : d = k ∧ a = q
      · rw [if_pos hd, if_pos ⟨by omega, by rw [hd.1]; exact hg', hd.2⟩]
      · rw [if_neg hd]
        by_cases hlt : d < k ∧ s.gone d = false ∧ a = q
        · rw [if_pos hlt, if_pos ⟨by omega, hlt.2⟩]
        · rw [if_neg hlt, if_neg (fun h => hlt ⟨by
            have : d ≠ k := fun e => hd ⟨e, h.2.2⟩
            omega, h.2⟩)]
theorem Like.calm {s t : RS} (h : Like s t) (hc : s.calm) : t.calm := ⟨by rw [h.off]; exact hc.1, by rw [h.armed]; exact hc.2⟩
theorem why_of {s : RS} {d a : Nat} (hd : d < s.nd) (ha : a < s.ns) : s.why (d : Int) (a : Int) = if s.gone d = true then 3 else 0 := by
  have hp : s.isP (d : Int) (a : Int) = true := by simp [RS.isP, RS.isD]; omega
  unfold RS.why
  rw [if_pos hp, Int.toNat_natCast]
theorem WR_calm {s : RS} (hc : s.calm) {q : Nat} (hq : q < s.ns) (X : Nat → Nat) : ∀ f k, k + f ≤ s.nd → WR (q : Int) X f k (wall s q X k) (cntW s k) = (wall s q X (k + f), ((cntW s (k + f) : Nat) : Int), if cntW s (k + f) = 0 then 4 else 0)
  | 0, k, _ => rfl
  | f + 1, k, h => by
    obtain ⟨hl, _⟩ := wall_like s q X k
    have hwy : (wall s q X k).why (k : Int) (q : Int) = if s.gone k = true then 3 else 0 := by
      rw [why_of (by rw [hl.nd]; omega) (by rw [hl.ns]; exact hq), hl.gone]
    have hcl := hl.calm hc
    have hE : wrE (wall s q X k) (k : Int) (q : Int) 128 = if s.gone k = true then 3 else 0 := by
      unfold wrE
      rw [if_pos rfl, hwy, hcl.pow]
      by_cases hg : s.gone k = true
      · rw [if_pos hg, if_neg (by omega)]
      · rw [if_neg hg, if_pos rfl, if_pos rfl]
    have hS : wrS (wall s q X k) (k : Int) (q : Int) 128 X = wall s q X (k + 1) := by
      unfold wrS
      rw [hwy, hcl.pow, hcl.spent, wall_succ]
      by_cases hg : s.gone k = true
      · rw [if_pos hg, if_pos hg, if_neg (by omega)]
      · rw [if_neg hg, if_neg hg, if_pos ⟨rfl, rfl⟩, if_pos rfl, Int.toNat_natCast, Int.toNat_natCast]
    show (if wrE (wall s q X k) (k : Int) (q : Int) 128 = 16 then _ else WR (q : Int) X f (k + 1) (wrS (wall s q X k) (k : Int) (q : Int) 128 X) (if wrE (wall s q X k) (k : Int) (q : Int) 128 = 0 then cntW s k + 1 else cntW s k)) = _
    rw [hE, hS]
    have hcn : (if (if s.gone k = true then (3 : Int) else 0) = 0 then cntW s k + 1 else cntW s k) = cntW s (k + 1) := by
      rw [cntW_succ]
      by_cases hg : s.gone k = true
      · rw [if_pos hg, if_pos hg, if_neg (by omega)]
      · rw [if_neg hg, if_neg hg, if_pos rfl]
    rw [hcn, if_neg (by split <;> omega), WR_calm hc hq X f (k + 1) (by omega)]
    rw [show k + 1 + f = k + (f + 1) by omega]
theorem wroteL_calm {s : RS} (hc : s.calm) (h8 : 8 < s.ns) {t : Nat} {p : K.Pt} (hok : okU ⟨(t : Int), p⟩ = true) :
    wroteL s ⟨(t : Int), p⟩ = (wall s (t % 8) (lst (encL ⟨(t : Int), p⟩)) s.nd, ((cntW s s.nd : Nat) : Int), if cntW s s.nd = 0 then 4 else 0) := by
  have hq : ((t : Int)).tmod 8 = ((t % 8 : Nat) : Int) := by
    rw [Int.tmod_eq_emod_of_nonneg (by omega)]
    omega
  unfold wroteL
  rw [if_pos h8, if_pos hok]
  show WR (((t : Int)).tmod 8) _ _ _ _ _ = _
  rw [hq]
  have h := WR_calm hc (q := t % 8) (by omega) (lst (encL ⟨(t : Int), p⟩)) s.nd 0 (by omega)
  rw [Nat.zero_add] at h
  exact h
/-- no record -/
theorem not_zero {u : U} {L : List Nat} (h : Is L u) : lst L 0 ≠ 0 := by
  rw [h.2]
  unfold encL secB lst
  show (K.encs (itsU u)).length + 32 ≠ 0
  omega
theorem sec_is {s : RS} {d a : Nat} {u : U} (hu : Ok u) (h : ∀ j, j < 128 → s.holds d a j = lst (encL u) j) : sec s d a = encL u := by
  refine list_ext_lst (by rw [sec_length, encL_length (ok_p hu) hu.2]) fun j hj => ?_
  rw [sec_length] at hj
  rw [sec_lst s d a j hj, h j hj]
theorem deny_of {s : RS} {d a : Nat} (ho : s.off = false) (hd : d < s.nd) (ha : a < s.ns) : s.deny (d : Int) (a : Int) = if s.gone d = true then 3 else 0 := by
  unfold RS.deny
  rw [why_of hd ha, ho]
  by_cases hg : s.gone d = true
  · rw [if_pos hg, if_neg (by omega)]
  · rw [if_neg hg, if_pos rfl, if_neg (by simp)]
section
variable {s : RS} {d a : Nat}
theorem look_gone (ho : s.off = false) (hd : d < s.nd) (ha : a < s.ns) (hg : s.gone d = true) : lookU s d a = zeroU ∧ lookE s d a = 3 := by
  have h := deny_of ho hd ha
  rw [if_pos hg] at h
  unfold lookU lookE
  rw [h, if_neg (by omega), if_neg (by omega)]
  exact ⟨rfl, rfl⟩
theorem look_rec (ho : s.off = false) (hd : d < s.nd) (ha : a < s.ns) (hg : s.gone d = false) {u : U} (hu : Ok u) (hx : ∀ j, j < 128 → s.holds d a j = lst (encL u) j) (ht : u.t.tmod 8 = (a : Int)) : lookU s d a = u ∧ lookE s d a = 0 := by
  have h := deny_of ho hd ha
  rw [if_neg (by rw [hg]; simp)] at h
  have hf := found_some (s := s) (d := d) (a := a) (u := u) ⟨⟨hu, sec_is hu hx⟩, ht⟩
  unfold lookU lookE
  rw [h, if_pos rfl, if_pos rfl, hf]
  exact ⟨rfl, rfl⟩
theorem look_none (ho : s.off = false) (hd : d < s.nd) (ha : a < s.ns) (hg : s.gone d = false) (hx : s.holds d a 0 = 0) : lookU s d a = zeroU ∧ lookE s d a = 7 := by
  have h := deny_of ho hd ha
  rw [if_neg (by rw [hg]; simp)] at h
  have hf : found s d a = none := found_none fun u hu => not_zero hu.1 (by rw [sec_lst s d a 0 (by omega)]; exact hx)
  unfold lookU lookE
  rw [h, if_pos rfl, if_pos rfl, hf]
  exact ⟨rfl, rfl⟩
theorem lookE_on (ho : s.off = false) (hd : d < s.nd) (ha : a < s.ns) : lookE s d a ≠ 16 := by
  have h := deny_of ho hd ha
  unfold lookE
  rw [h]
  by_cases hg : s.gone d = true
  · rw [if_pos hg]; omega
  · rw [if_neg hg]
    rw [if_pos rfl]
    split <;> omega
end
theorem NRow_spec {s : RS} {d : Nat} (h16 : ∀ a, a < 8 → lookE s d a ≠ 16) : ∀ f a b, a + f = 8 → ∃ c, NRow s d f a b = some c ∧ b.t ≤ c.t ∧ (c = b ∨ ∃ a', a' < 8 ∧ c = lookU s d a') ∧ ∀ a', a ≤ a' → a' < 8 → (lookU s d a').t ≤ c.t
  | 0, a, b, h => ⟨b, rfl, Int.le_refl _, .inl rfl, fun a' h1 h2 => by omega⟩
  | f + 1, a, b, h => by
    obtain ⟨c, h1, h2, h3, h4⟩ := NRow_spec h16 f (a + 1) (stepU b (lookU s d a)) (by omega)
    have hs : b.t ≤ (stepU b (lookU s d a)).t ∧ (lookU s d a).t ≤ (stepU b (lookU s d a)).t ∧ (stepU b (lookU s d a) = b ∨ stepU b (lookU s d a) = lookU s d a) := by
      unfold stepU
      split
      · exact ⟨by omega, Int.le_refl _, .inr rfl⟩
      · exact ⟨Int.le_refl _, by omega, .inl rfl⟩
    refine ⟨c, ?_, by omega, ?_, fun a' ha1 ha2 => ?_⟩
    · show (if lookE s d a = 16 then none else NRow s d f (a + 1) (stepU b (lookU s d a))) = _
      rw [if_neg (h16 a (by omega))]
      exact h1
    · rcases h3 with h3 | h3
      · rcases hs.2.2 with h5 | h5
        · exact .inl (h3.trans h5)
        · exact .inr ⟨a, by omega, h3.trans h5⟩
      · exact .inr h3
    · by_cases e : a' = a
      · rw [e]; omega
      · exact h4 a' (by omega) ha2
theorem NAll_spec {s : RS} {nd : Nat} (h16 : ∀ d a, d < nd → a < 8 → lookE s d a ≠ 16) : ∀ f d b, d + f = nd → ∃ c, NAll s f d b = some c ∧ b.t ≤ c.t ∧ (c = b ∨ ∃ d' a', d' < nd ∧ a' < 8 ∧ c = lookU s d' a') ∧ ∀ d' a', d ≤ d' → d' < nd → a' < 8 → (lookU s d' a').t ≤ c.t
  | 0, d, b, h => ⟨b, rfl, Int.le_refl _, .inl rfl, fun d' a' h1 h2 => by omega⟩
  | f + 1, d, b, h => by
    obtain ⟨c1, g1, g2, g3, g4⟩ := NRow_spec (s := s) (d := d) (fun a ha => h16 d a (by omega) ha) 8 0 b rfl
    obtain ⟨c, h1, h2, h3, h4⟩ := NAll_spec h16 f (d + 1) c1 (by omega)
    refine ⟨c, ?_, by omega, ?_, fun d' a' hd1 hd2 ha => ?_⟩
    · show (NRow s d 8 0 b).bind (NAll s f (d + 1)) = _
      rw [g1]
      exact h1
    · rcases h3 with h3 | h3
      · rcases g3 with g3 | ⟨a', g5, g6⟩
        · exact .inl (h3.trans g3)
        · exact .inr ⟨d, a', by omega, g5, h3.trans g6⟩
      · exact .inr h3
    · by_cases e : d' = d
      · rw [e]
        have := g4 a' (by omega) ha
        omega
      · exact h4 d' a' (by omega) hd2 ha
theorem newU_is {s : RS} (ho : s.off = false) (h8 : 8 < s.ns) {u : U} (h1 : 1 ≤ u.t) (hx : ∃ d a, d < s.nd ∧ a < 8 ∧ lookU s d a = u) (ha : ∀ d a, d < s.nd → a < 8 → lookU s d a = u ∨ (lookU s d a).t < u.t) : newU s = (u, 0) := by
  obtain ⟨c, g1, g2, g3, g4⟩ := NAll_spec (s := s) (nd := s.nd) (fun d a hd ha => lookE_on ho hd (by omega)) s.nd 0 zeroU (by omega)
  obtain ⟨d, a, hd, ha8, e⟩ := hx
  have h2 := g4 d a (Nat.zero_le _) hd ha8
  rw [e] at h2
  have hc : c = u := by
    rcases g3 with g3 | ⟨d', a', g5, g6, g7⟩
    · rw [g3] at h2
      have : (zeroU).t = 0 := rfl
      omega
    · rcases ha d' a' g5 g6 with h3 | h3
      · exact g7.trans h3
      · rw [← g7] at h3; omega
  unfold newU
  rw [if_pos h8, g1, hc]
  exact if_neg (by omega)
theorem newU_none {s : RS} (ho : s.off = false) (h8 : 8 < s.ns) (ha : ∀ d a, d < s.nd → a < 8 → lookU s d a = zeroU) : newU s = (zeroU, 7) := by
  obtain ⟨c, g1, g2, g3, g4⟩ := NAll_spec (s := s) (nd := s.nd) (fun d a hd ha => lookE_on ho hd (by omega)) s.nd 0 zeroU (by omega)
  have hc : c = zeroU := by
    rcases g3 with g3 | ⟨d', a', g5, g6, g7⟩
    · exact g3
    · exact g7.trans (ha d' a' g5 g6)
  unfold newU
  rw [if_pos h8, g1, hc]
  rfl
end Lab
end Go.Proofs.YtjnnmeolonbedaaDoor
namespace Go.Proofs.YtjnnmeolonbedaaDoor
open Go Go.RowKit refRack
set_option maxRecDepth 100000
set_option linter.unusedVariables false
namespace Lab
/-- the pointer of a number -/
def pS (n : Nat) : ByteArray := strB 32 fun j => (n + j) % 256
def P (n : Nat) : K.Pt := ⟨(n : Int) % 1000, 1 + (n : Int) % 1024, (n : Int) % 77, pS n⟩
theorem pS_size (n : Nat) : (pS n).size = 32 := by
  unfold pS
  have h := strB_list 32 fun j => (n + j) % 256
  have h2 := congrArg List.length h
  rw [ByteArray.toList_eq] at h2
  simpa using h2
theorem P_ok (n : Nat) : K.okP (P n) = true := by
  unfold K.okP P
  rw [decide_eq_true_iff]
  refine ⟨?_, ?_, ?_, ?_, pS_size n⟩ <;> dsimp only <;> omega
theorem P_fit (n : Nat) : K.FitP (P n) := by
  refine ⟨⟨?_, ?_⟩, ⟨?_, ?_⟩, ⟨?_, ?_⟩, ?_⟩
  all_goals (try (show (pS n).size ≤ _; rw [pS_size]; unfold maxLen; omega))
  all_goals (unfold P; dsimp only; omega)
/-- the record of a transaction -/
def rec_ (t n : Nat) : U := ⟨(t : Int), P n⟩
theorem rec_ok {t n : Nat} (h1 : 1 ≤ t) (h2 : t ≤ 1000000) : Ok (rec_ t n) := by
  refine ⟨?_, ⟨?_, ?_⟩, P_fit n⟩
  · unfold okU rec_
    dsimp only
    rw [P_ok, Bool.and_true, decide_eq_true_iff]
    omega
  · show -9223372036854775808 ≤ (t : Int); omega
  · show (t : Int) ≤ 9223372036854775807; omega
theorem rec_mod {t n : Nat} : (rec_ t n).t.tmod 8 = ((t % 8 : Nat) : Int) := by
  show ((t : Int)).tmod 8 = _
  rw [Int.tmod_eq_emod_of_nonneg (by omega)]
  omega
def pTo (n i j : Nat) : Nat := if j < i then (n + j) % 256 else 0
set_option maxHeartbeats 1600000 in
theorem law_ptr (n : Nat) (w : World) (hn : n ≤ 1000000) :
    Calls Tryd.prog 16 #[.int .i64 (n : Int)] w fun e w' => e = .returned (.agg (ptA (P n))) ∧ Below w.heap.size w w' := by
  have hmk := make_long 32 (by omega) (w.alloc (.cells #[.int .i64 0, .int .i64 0, .int .i64 0, .string ⟨#[]⟩] 23)) 32 rfl
  have L0 : Hid (Below w.heap.size w ((w.alloc (.cells #[.int .i64 0, .int .i64 0, .int .i64 0, .string ⟨#[]⟩] 23)).alloc (.cells (rowArr 32 fun _ => 0) 5))) := Lib.hid (((Below.refl _ _).alloc (Nat.le_refl _) _).alloc (by simp) _)
  have X0 : Hid (Blk ((w.alloc (.cells #[.int .i64 0, .int .i64 0, .int .i64 0, .string ⟨#[]⟩] 23)).alloc (.cells (rowArr 32 fun _ => 0) 5)) w.heap.size 23 #[.int .i64 0, .int .i64 0, .int .i64 0, .string ⟨#[]⟩]) := Lib.hid ((Blk.new _ _ _).alloc _)
  have B0 := Lib.hid (Blk.new (w.alloc (.cells #[.int .i64 0, .int .i64 0, .int .i64 0, .string ⟨#[]⟩] 23)) 5 (rowArr 32 fun _ => 0))
  go_enter Tryd.func16, Tryd.ntmps16
  go_wp2_with fail
  clear hmk
  have hgb : (w.alloc (.cells #[.int .i64 0, .int .i64 0, .int .i64 0, .string ⟨#[]⟩] 23)).heap.size = w.heap.size + 1 := by simp
  rw [hgb] at B0
  clear hgb
  go_loopw [4] (fun x wr => ∃ i : Nat, i ≤ 32 ∧ x = .int .i64 i ∧ Hid (Below w.heap.size w wr) ∧ Hid (Blk wr w.heap.size 23 #[.int .i64 0, .int .i64 0, .int .i64 0, .string ⟨#[]⟩]) ∧ Hid (Blk wr (w.heap.size + 1) 5 (rowArr 32 (pTo n i)))) (fun x _ => 32 - (intOf x).toNat)
  case atStart => exact ⟨0, by omega, rfl, L0, X0, Lib.hid (by
    have h := B0.out
    rw [rowArr_congr (g := pTo n 0) (fun c _ => (if_neg (Nat.not_lt_zero c)).symm)] at h
    exact h)⟩
  case round =>
    obtain ⟨i, hi, rfl, L1, X1, B1⟩ := hrel
    clear L0 X0 B0
    by_cases hlt : i < 32
    · have t1 : decide ((i : Int) < 32) = true := by simp; omega
      have c0 : wr.cell? ⟨w.heap.size + 1, i, none⟩ = some (.int .u8 ((pTo n i i : Nat) : Int)) := (B1.out.cell i).trans (rowArr_get hlt)
      have f0 := B1.out.frozen i
      have xw : IntKind.u8.wrap ((n : Int) + (i : Int)) = (((n + i) % 256 : Nat) : Int) := by rw [IntKind.wrap_u8]; omega
      have B2 : Hid (Blk (wr.setCell ⟨w.heap.size + 1, i, none⟩ (.int .u8 (((n + i) % 256 : Nat) : Int))) (w.heap.size + 1) 5 (rowArr 32 (pTo n (i + 1)))) := Lib.hid (by
        have h := B1.out.set_ i (.int .u8 (((n + i) % 256 : Nat) : Int))
        rw [rowArr_set hlt, rowArr_congr (g := pTo n (i + 1)) (fun c _ => by
          unfold pTo
          by_cases e : c = i
          · rw [if_pos e, if_pos (by omega), e]
          · rw [if_neg e]
            by_cases e2 : c < i
            · rw [if_pos e2, if_pos (by omega)]
            · rw [if_neg e2, if_neg (by omega)])] at h
        exact h)
      have L2 := Lib.hid (L1.out.setCell (p := ⟨w.heap.size + 1, i, none⟩) (by simp) (.int .u8 (((n + i) % 256 : Nat) : Int)))
      have X2 := Lib.hid (X1.out.far (p := ⟨w.heap.size + 1, i, none⟩) (by simp) (.int .u8 (((n + i) % 256 : Nat) : Int)))
      obtain ⟨v, hv⟩ : ∃ v : Int, v = (((n + i) % 256 : Nat) : Int) := ⟨_, rfl⟩
      rw [← hv] at xw B2 L2 X2
      clear L1 X1 B1 hv
      go_wp2_with fail
      go_roundw
      case rel => exact ⟨i + 1, by omega, by go_num, L2, X2, B2⟩
      case measure => simp [intOf]; omega
    · have t1 : decide ((i : Int) < 32) = false := by simp; omega
      have hi32 : i = 32 := by omega
      subst hi32
      have cv := conv_bytes (c := 32) B1.out (X := pTo n 32) (o := 0) (n := 32) (fun j hj => by rw [Nat.zero_add]; exact rowArr_get hj)
      have hps : strB 32 (pTo n 32) = pS n := strB_congr fun j hj => if_pos hj
      rw [hps] at cv
      have hz : IntKind.i64.wrap (1 + (n : Int) % 1024) = 1 + (n : Int) % 1024 := by rw [IntKind.wrap_i64]; omega
      have HV : Hid (Ending.returned (.agg #[.int .i64 ((n : Int) % 1000), .int .i64 (1 + (n : Int) % 1024), .int .i64 ((n : Int) % 77), .string (pS n)]) = .returned (.agg (ptA (P n)))) := Lib.hid rfl
      obtain ⟨ps, hpp⟩ : ∃ ps, ps = pS n := ⟨_, rfl⟩
      rw [← hpp] at cv HV
      obtain ⟨⟨d0, d1, d2, d3⟩, e0, e1, e2, e3⟩ := ptr_facts X1.out
      clear hps hpp B1
      go_wp2_with fail
      refine bodyPost_ret (results_cell rfl rfl (set4_load X1.out _ _ _ _)) rfl ?_
      exact ⟨HV.out, set4_below L1.out (Nat.le_refl _) _ _ _ _⟩
end Lab
end Go.Proofs.YtjnnmeolonbedaaDoor
namespace Go.Proofs.YtjnnmeolonbedaaDoor
open Go Go.RowKit refRack
set_option maxRecDepth 100000
set_option linter.unusedVariables false
theorem eqG_agg {P : Program} (op : BinOp) (t : TypeId) (x y : Operand) (a b : Array Value) (h : (!P.eqGuardType P.depth t) = true) (w : World) : (eqGuard op t x y (.agg a) (.agg b)).run P w = .ok () w := by
  have h2 : P.eqGuardType P.depth t = false := by simpa using h
  unfold eqGuard
  cases op <;> simp [Sem.run_bind, run_program, h2]
theorem eqG_bool (op : BinOp) (t : TypeId) (x y : Operand) (i j : Bool) (P : Program) (w : World) : (eqGuard op t x y (.bool i) (.bool j)).run P w = .ok () w := by
  unfold eqGuard
  cases op <;> rfl
theorem exec_bld2 {P : Program} {a : Act} {o : Oper} {ty : TypeId} {i j : Nat} {x y : Operand} {u0 u1 r : Value} (w : World) (e : o.op = .build ty #[(i, x), (j, y)]) (hx : a.eval x = u0) (hy : a.eval y = u1)
    (hl : (Instr.build ty #[(i, u0), (j, u1)]).run P w = .ok r w) : (execOp a.eval o).run P w = .ok (.value r) w := by
  unfold execOp; simp only [e, List.map_toArray, List.map_cons, List.map_nil, hx, hy, hl, Sem.run_bind, Sem.run_pure, Result.andThen_ok]
namespace Lab
theorem eq_uber (u : U) (W : World) : (binOp .eql 25 (.agg (uA u)) (.agg (uA u))).run Tryd.prog W = .ok (.bool true) W := by
  unfold uA
  simp [go_sem, run_eql_struct]
theorem eq_ptr (p : K.Pt) (W : World) : (binOp .eql 23 (.agg (ptA p)) (.agg (ptA p))).run Tryd.prog W = .ok (.bool true) W := by
  unfold ptA
  simp [go_sem, run_eql_struct]
theorem build_uber (t : Int) (p : K.Pt) (W : World) : (Instr.build 25 #[(0, .int .i64 t), (1, .agg (ptA p))]).run Tryd.prog W = .ok (.agg (uA ⟨t, p⟩)) W := by
  obtain ⟨a, z, b, s⟩ := p
  kernel_rfl
theorem law_ptrL (n : Nat) (w : World) (hn : n ≤ 1000000) :
    Calls Tryd.prog 16 #[.int .i64 (n : Int)] w fun e w' => ∃ pa pz pb ps, P n = ⟨pa, pz, pb, ps⟩ ∧ e = .returned (.agg #[.int .i64 pa, .int .i64 pz, .int .i64 pb, .string ps]) ∧ Below w.heap.size w w' :=
  (law_ptr n w hn).mono fun e w' ⟨h1, h2⟩ => ⟨_, _, _, _, rfl, h1, h2⟩
theorem uA_rec {t n : Nat} {pa pz pb : Int} {ps : ByteArray} (h : P n = ⟨pa, pz, pb, ps⟩) : (#[.int .i64 (t : Int), .int .i64 pa, .int .i64 pz, .int .i64 pb, .string ps] : Array Value) = uA (rec_ t n) := by
  unfold rec_ uA
  rw [h]
theorem load_uber {W : World} {g : Nat} {u : U} (h : Blk W g 25 (uA u)) : (Instr.loadAt 25 (.pointer (some ⟨g, 0, none⟩))).run Tryd.prog W = .ok (.agg (uA u)) W := load_blk h Tryd.underlying25 rfl isize_uber
theorem load_root {W : World} {g : Nat} {u : U} (h : Blk W g 25 (uA u)) : (Instr.loadAt 23 (.pointer (some ⟨g, 1, none⟩))).run Tryd.prog W = .ok (.agg (ptA u.p)) W :=
  load_part (cs' := ptA u.p) h Tryd.underlying23 rfl isize_ptr (fun j hj => by
    have : j < 4 := hj
    match j, this with
    | 0, _ => rfl
    | 1, _ => rfl
    | 2, _ => rfl
    | 3, _ => rfl)
end Lab
end Go.Proofs.YtjnnmeolonbedaaDoor
namespace Go.Proofs.YtjnnmeolonbedaaDoor
set_option maxRecDepth 100000
open Go Go.RowKit
set_option linter.unusedVariables false

end Go.Proofs.YtjnnmeolonbedaaDoor
namespace Go.Proofs.YtjnnmeolonbedaaDoor
set_option maxRecDepth 100000
open Go.RowKit Go.ChangeShapes Go.WideShapes Go.ChangeAt
set_option linter.unusedVariables false

def I64 (x : Int) : Prop := -9223372036854775808 ≤ x ∧ x ≤ 9223372036854775807
/-- n ints, below block B -/
def RdI (w : World) (B : Nat) (A : Option Addr) (n : Nat) (x : Nat → Int) : Prop :=
  ∀ i, i < n → ∃ b o, A = some ⟨b, o, none⟩ ∧ b < B ∧ w.cell? ⟨b, o + i, none⟩ = some (.int .i64 (x i)) ∧ I64 (x i)
def RdO (w : World) (B : Nat) (A : Option Addr) (n : Nat) (x : Nat → Bool) : Prop :=
  ∀ i, i < n → ∃ b o, A = some ⟨b, o, none⟩ ∧ b < B ∧ w.cell? ⟨b, o + i, none⟩ = some (.bool (x i))
theorem RdI.below {w w' : World} {B : Nat} {A : Option Addr} {n : Nat} {x : Nat → Int} (h : RdI w B A n x) (hb : Below B w w') : RdI w' B A n x := fun i hi => by
  obtain ⟨b, o, h1, h2, h3, h4⟩ := h i hi
  exact ⟨b, o, h1, h2, (hb.cell (p := ⟨b, o + i, none⟩) h2).trans h3, h4⟩
theorem RdO.below {w w' : World} {B : Nat} {A : Option Addr} {n : Nat} {x : Nat → Bool} (h : RdO w B A n x) (hb : Below B w w') : RdO w' B A n x := fun i hi => by
  obtain ⟨b, o, h1, h2, h3⟩ := h i hi
  exact ⟨b, o, h1, h2, (hb.cell (p := ⟨b, o + i, none⟩) h2).trans h3⟩
theorem add_blockA (a : Addr) (j : Nat) : (a.add j).block = a.block := by unfold Addr.add; split <;> rfl
theorem rdi_of_cells {w : World} {a : Addr} {n : Nat} {zs : List Int} (hn : n ≤ zs.length) (hc : ∀ i, i < zs.length → w.cell? (a.add i) = some (.int .i64 (zs.getD i 0))) (hw : ∀ z ∈ zs, (Lit.int .i64 z).wf = true) :
    RdI w w.heap.size (some a) n (fun j => zs.getD j 0) := by
  intro j hj
  obtain ⟨b, o, sp⟩ := a
  have h0 := hc j (by omega)
  have hsp : sp = none := by
    have h1 := hc 0 (by omega)
    have h2 := World.cell?_spot h1
    simpa [Addr.add] using h2
  subst hsp
  rw [add_plain] at h0
  exact ⟨b, o, rfl, block_lt_of_cell h0, h0, bounds_i64 (hw _ (getD_mem (show j < zs.length by omega)))⟩
theorem rdo_of_cells {w : World} {a : Addr} {n c : Nat} {zs : Nat → Bool} (hn : n ≤ c) (hc : ∀ i, i < c → w.cell? (a.add i) = some (.bool (zs i))) :
    RdO w w.heap.size (some a) n zs := by
  intro j hj
  obtain ⟨b, o, sp⟩ := a
  have h0 := hc j (by omega)
  have hsp : sp = none := by
    have h1 := hc 0 (by omega)
    have h2 := World.cell?_spot h1
    simpa [Addr.add] using h2
  subst hsp
  rw [add_plain] at h0
  exact ⟨b, o, rfl, block_lt_of_cell h0, h0⟩
section
variable {H : Type} {enc : TypeId × Value → H} {P : Program} {W : World} {base : Nat} {held : Bool}
theorem rdi_of_trod {t e : TypeId} {fuel len cap : Nat} {a : Option Addr} {x : DataW H × List MemPlace} (ht : P.underlying t = some (.slice e)) (he : P.underlying e = some (.int .i64)) (hc : P.cellsOf e = 1)
    (h : DataW.trod enc P W base (fun _ => true) held fuel t (Value.slice a len cap).cells.toList = some x) : ∃ y, RdI W W.heap.size a len y ∧ len ≤ cap ∧ cap ≤ maxLen := by
  rcases open_ints ht he hc h with ⟨hcs, _⟩ | ⟨x, l, c, zs, hcs, _, hl, hm, hz, _, hcell, hwz⟩
  · simp [Value.cells] at hcs
    obtain ⟨rfl, rfl, rfl⟩ := hcs
    exact ⟨fun _ => 0, fun j hj => absurd hj (by omega), by omega, by omega⟩
  · simp [Value.cells] at hcs
    obtain ⟨rfl, rfl, rfl⟩ := hcs
    simp at hz
    exact ⟨_, rdi_of_cells (by omega) hcell hwz, hl, hm⟩
theorem rdo_of_trod {t e : TypeId} {fuel len cap : Nat} {a : Option Addr} {x : DataW H × List MemPlace} (ht : P.underlying t = some (.slice e)) (he : P.underlying e = some .bool) (hc : P.cellsOf e = 1)
    (h : DataW.trod enc P W base (fun _ => true) held fuel t (Value.slice a len cap).cells.toList = some x) : ∃ y, RdO W W.heap.size a len y ∧ len ≤ cap ∧ cap ≤ maxLen := by
  rcases Go.Deep.open_bools ht he hc h with ⟨hcs, _⟩ | ⟨x, l, c, zs, hcs, _, hl, hm, _, hcell⟩
  · simp [Value.cells] at hcs
    obtain ⟨rfl, rfl, rfl⟩ := hcs
    exact ⟨fun _ => false, fun j hj => absurd hj (by omega), by omega, by omega⟩
  · simp [Value.cells] at hcs
    obtain ⟨rfl, rfl, rfl⟩ := hcs
    exact ⟨_, rdo_of_cells hl hcell, hl, hm⟩
end
end Go.Proofs.YtjnnmeolonbedaaDoor
