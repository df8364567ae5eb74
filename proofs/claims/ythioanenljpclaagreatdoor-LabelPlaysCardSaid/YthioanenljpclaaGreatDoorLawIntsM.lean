/-
  What a rack holds behind a write, a flush, a crash: plain words on its state. No conditions beyond those that each theorem types.
-/
import Derived.Test.YthioanenljpclaaGreatDoorLabLookM
import Derived.Test.YthioanenljpclaaGreatDoorLabNewestM
import Derived.Test.YthioanenljpclaaGreatDoorRackRotRowM
import Derived.Test.YthioanenljpclaaGreatDoorDrawSeqM
import Derived.ProofKit
import Derived.Deep.Grids
import Derived.Maps.AppendAt
import Derived.Laws.OwnMore
import Derived.SizedLaws
namespace Go.Proofs.YthioanenljpclaaGreatDoor
set_option maxRecDepth 100000
open Go Go.RowKit
set_option linter.unusedVariables false

theorem newIn_wrote (s : RS) (d a : Nat) (X : Nat → Nat) (d' a' : Nat) : ∀ k, k ≤ s.nw → newIn (s.wrote d a X).W d' a' k = newIn s.W d' a' k := fun k hk =>
  newIn_congr fun i hi => by
    have : (s.wrote d a X).W i = s.W i := if_neg (by omega)
    rw [this]
    exact ⟨rfl, rfl⟩
theorem newIn_succ (W : Nat → Wt) (d a k : Nat) : newIn W d a (k + 1) = if (W k).d = d ∧ (W k).a = a then some k else newIn W d a k := rfl
theorem holds_wrote (s : RS) (d a : Nat) (X : Nat → Nat) (d' a' : Nat) : (s.wrote d a X).holds d' a' = if d' = d ∧ a' = a then X else s.holds d' a' := by
  have e : (s.wrote d a X).W s.nw = ⟨d, a, X⟩ := if_pos rfl
  unfold RS.holds
  show (match newIn (s.wrote d a X).W d' a' (s.nw + 1) with | some i => ((s.wrote d a X).W i).x | none => s.last d' a') = _
  rw [newIn_succ, e]
  by_cases h : d = d' ∧ a = a'
  · obtain ⟨rfl, rfl⟩ := h
    rw [if_pos ⟨rfl, rfl⟩, if_pos ⟨rfl, rfl⟩]
    show ((s.wrote d a X).W s.nw).x = X
    rw [e]
  · rw [if_neg h, if_neg (fun x => h ⟨x.1.symm, x.2.symm⟩), newIn_wrote s d a X d' a' s.nw (Nat.le_refl _)]
    cases hi : newIn s.W d' a' s.nw with
    | none => rfl
    | some i =>
      have hlt := (newIn_lt hi).1
      have : (s.wrote d a X).W i = s.W i := if_neg (by omega)
      simp only [this]
end Go.Proofs.YthioanenljpclaaGreatDoor
namespace Go.Proofs.YthioanenljpclaaGreatDoor
open Go Go.RowKit refRack
set_option maxRecDepth 100000
set_option linter.unusedVariables false
namespace Lab
/-- one record to the first k drives -/
def wall (s : RS) (q : Nat) (X : Nat → Nat) : Nat → RS
  | 0 => s
  | k + 1 => if s.gone k = true then wall s q X k else (wall s q X k).wrote k q X
def cntW (s : RS) : Nat → Nat
  | 0 => 0
  | k + 1 => if s.gone k = true then cntW s k else cntW s k + 1
theorem wall_succ (s : RS) (q : Nat) (X : Nat → Nat) (k : Nat) : wall s q X (k + 1) = if s.gone k = true then wall s q X k else (wall s q X k).wrote k q X := rfl
theorem cntW_succ (s : RS) (k : Nat) : cntW s (k + 1) = if s.gone k = true then cntW s k else cntW s k + 1 := rfl
structure Like (s t : RS) : Prop where
  nd : t.nd = s.nd
  ns : t.ns = s.ns
  gone : t.gone = s.gone
  off : t.off = s.off
  armed : t.armed = s.armed
  last : t.last = s.last
theorem wall_like (s : RS) (q : Nat) (X : Nat → Nat) : ∀ k, Like s (wall s q X k) ∧ (wall s q X k).cost ≤ s.cost + k
  | 0 => ⟨⟨rfl, rfl, rfl, rfl, rfl, rfl⟩, Nat.le_refl _⟩
  | k + 1 => by
    obtain ⟨h, hc⟩ := wall_like s q X k
    rw [wall_succ]
    split
    · exact ⟨h, by omega⟩
    · exact ⟨⟨h.nd, h.ns, h.gone, h.off, h.armed, h.last⟩, by show (wall s q X k).cost + 1 ≤ _; omega⟩
theorem wall_holds (s : RS) (q : Nat) (X : Nat → Nat) (d a : Nat) : ∀ k, (wall s q X k).holds d a = if d < k ∧ s.gone d = false ∧ a = q then X else s.holds d a
  | 0 => by rw [if_neg (fun h => absurd h.1 (Nat.not_lt_zero _))]; rfl
  | k + 1 => by
    rw [wall_succ]
    by_cases hg : s.gone k = true
    · rw [if_pos hg, wall_holds s q X d a k]
      by_cases hd : d = k
      · subst hd
        rw [if_neg (fun h => by omega), if_neg (fun h => by rw [hg] at h; cases h.2.1)]
      · by_cases hlt : d < k ∧ s.gone d = false ∧ a = q
        · rw [if_pos hlt, if_pos ⟨by omega, hlt.2⟩]
        · rw [if_neg hlt, if_neg (fun h => hlt ⟨by omega, h.2⟩)]
    · rw [if_neg hg, holds_wrote, wall_holds s q X d a k]
      have hg' : s.gone k = false := by simpa using hg
      by_cases hd : d = k ∧ a = q
      · rw [if_pos hd, if_pos ⟨by omega, by rw [hd.1]; exact hg', hd.2⟩]
      · rw [if_neg hd]
        by_cases hlt : d < k ∧ s.gone d = false ∧ a = q
        · rw [if_pos hlt, if_pos ⟨by omega, hlt.2⟩]
        · rw [if_neg hlt, if_neg (fun h => hlt ⟨by
            have : d ≠ k := fun e => hd ⟨e, h.2.2⟩
            omega, h.2⟩)]
theorem Like.calm {s t : RS} (h : Like s t) (hc : s.calm) : t.calm := ⟨by rw [h.off]; exact hc.1, by rw [h.armed]; exact hc.2⟩
theorem why_of {s : RS} {d a : Nat} (hd : d < s.nd) (ha : a < s.ns) : s.why (d : Int) (a : Int) = if s.gone d = true then 3 else 0 := by
  have hp : s.isP (d : Int) (a : Int) = true := by simp [RS.isP, RS.isD]; omega
  unfold RS.why
  rw [if_pos hp, Int.toNat_natCast]
theorem WR_calm {s : RS} (hc : s.calm) {q : Nat} (hq : q < s.ns) (X : Nat → Nat) : ∀ f k, k + f ≤ s.nd → WR (q : Int) X f k (wall s q X k) (cntW s k) = (wall s q X (k + f), ((cntW s (k + f) : Nat) : Int), if cntW s (k + f) = 0 then 4 else 0)
  | 0, k, _ => rfl
  | f + 1, k, h => by
    obtain ⟨hl, _⟩ := wall_like s q X k
    have hwy : (wall s q X k).why (k : Int) (q : Int) = if s.gone k = true then 3 else 0 := by
      rw [why_of (by rw [hl.nd]; omega) (by rw [hl.ns]; exact hq), hl.gone]
    have hcl := hl.calm hc
    have hE : wrE (wall s q X k) (k : Int) (q : Int) 128 = if s.gone k = true then 3 else 0 := by
      unfold wrE
      rw [if_pos rfl, hwy, hcl.pow]
      by_cases hg : s.gone k = true
      · rw [if_pos hg, if_neg (by omega)]
      · rw [if_neg hg, if_pos rfl, if_pos rfl]
    have hS : wrS (wall s q X k) (k : Int) (q : Int) 128 X = wall s q X (k + 1) := by
      unfold wrS
      rw [hwy, hcl.pow, hcl.spent, wall_succ]
      by_cases hg : s.gone k = true
      · rw [if_pos hg, if_pos hg, if_neg (by omega)]
      · rw [if_neg hg, if_neg hg, if_pos ⟨rfl, rfl⟩, if_pos rfl, Int.toNat_natCast, Int.toNat_natCast]
    show (if wrE (wall s q X k) (k : Int) (q : Int) 128 = 16 then _ else WR (q : Int) X f (k + 1) (wrS (wall s q X k) (k : Int) (q : Int) 128 X) (if wrE (wall s q X k) (k : Int) (q : Int) 128 = 0 then cntW s k + 1 else cntW s k)) = _
    rw [hE, hS]
    have hcn : (if (if s.gone k = true then (3 : Int) else 0) = 0 then cntW s k + 1 else cntW s k) = cntW s (k + 1) := by
      rw [cntW_succ]
      by_cases hg : s.gone k = true
      · rw [if_pos hg, if_pos hg, if_neg (by omega)]
      · rw [if_neg hg, if_neg hg, if_pos rfl]
    rw [hcn, if_neg (by split <;> omega), WR_calm hc hq X f (k + 1) (by omega)]
    rw [show k + 1 + f = k + (f + 1) by omega]
theorem wroteL_calm {s : RS} (hc : s.calm) (h8 : 8 < s.ns) {t : Nat} {p : K.Pt} (hok : okU ⟨(t : Int), p⟩ = true) :
    wroteL s ⟨(t : Int), p⟩ = (wall s (t % 8) (lst (encL ⟨(t : Int), p⟩)) s.nd, ((cntW s s.nd : Nat) : Int), if cntW s s.nd = 0 then 4 else 0) := by
  have hq : ((t : Int)).tmod 8 = ((t % 8 : Nat) : Int) := by
    rw [Int.tmod_eq_emod_of_nonneg (by omega)]
    omega
  unfold wroteL
  rw [if_pos h8, if_pos hok]
  show WR (((t : Int)).tmod 8) _ _ _ _ _ = _
  rw [hq]
  have h := WR_calm hc (q := t % 8) (by omega) (lst (encL ⟨(t : Int), p⟩)) s.nd 0 (by omega)
  rw [Nat.zero_add] at h
  exact h
/-- no record -/
theorem not_zero {u : U} {L : List Nat} (h : Is L u) : lst L 0 ≠ 0 := by
  rw [h.2]
  unfold encL secB lst
  show (K.encs (itsU u)).length + 32 ≠ 0
  omega
theorem sec_is {s : RS} {d a : Nat} {u : U} (hu : Ok u) (h : ∀ j, j < 128 → s.holds d a j = lst (encL u) j) : sec s d a = encL u := by
  refine list_ext_lst (by rw [sec_length, encL_length (ok_p hu) hu.2]) fun j hj => ?_
  rw [sec_length] at hj
  rw [sec_lst s d a j hj, h j hj]
theorem deny_of {s : RS} {d a : Nat} (ho : s.off = false) (hd : d < s.nd) (ha : a < s.ns) : s.deny (d : Int) (a : Int) = if s.gone d = true then 3 else 0 := by
  unfold RS.deny
  rw [why_of hd ha, ho]
  by_cases hg : s.gone d = true
  · rw [if_pos hg, if_neg (by omega)]
  · rw [if_neg hg, if_pos rfl, if_neg (by simp)]
section
variable {s : RS} {d a : Nat}
theorem look_rec (ho : s.off = false) (hd : d < s.nd) (ha : a < s.ns) (hg : s.gone d = false) {u : U} (hu : Ok u) (hx : ∀ j, j < 128 → s.holds d a j = lst (encL u) j) (ht : u.t.tmod 8 = (a : Int)) : lookU s d a = u ∧ lookE s d a = 0 := by
  have h := deny_of ho hd ha
  rw [if_neg (by rw [hg]; simp)] at h
  have hf := found_some (s := s) (d := d) (a := a) (u := u) ⟨⟨hu, sec_is hu hx⟩, ht⟩
  unfold lookU lookE
  rw [h, if_pos rfl, if_pos rfl, hf]
  exact ⟨rfl, rfl⟩
theorem look_none (ho : s.off = false) (hd : d < s.nd) (ha : a < s.ns) (hg : s.gone d = false) (hx : s.holds d a 0 = 0) : lookU s d a = zeroU ∧ lookE s d a = 7 := by
  have h := deny_of ho hd ha
  rw [if_neg (by rw [hg]; simp)] at h
  have hf : found s d a = none := found_none fun u hu => not_zero hu.1 (by rw [sec_lst s d a 0 (by omega)]; exact hx)
  unfold lookU lookE
  rw [h, if_pos rfl, if_pos rfl, hf]
  exact ⟨rfl, rfl⟩
theorem lookE_on (ho : s.off = false) (hd : d < s.nd) (ha : a < s.ns) : lookE s d a ≠ 16 := by
  have h := deny_of ho hd ha
  unfold lookE
  rw [h]
  by_cases hg : s.gone d = true
  · rw [if_pos hg]; omega
  · rw [if_neg hg]
    rw [if_pos rfl]
    split <;> omega
end
theorem NRow_spec {s : RS} {d : Nat} (h16 : ∀ a, a < 8 → lookE s d a ≠ 16) : ∀ f a b, a + f = 8 → ∃ c, NRow s d f a b = some c ∧ b.t ≤ c.t ∧ (c = b ∨ ∃ a', a' < 8 ∧ c = lookU s d a') ∧ ∀ a', a ≤ a' → a' < 8 → (lookU s d a').t ≤ c.t
  | 0, a, b, h => ⟨b, rfl, Int.le_refl _, .inl rfl, fun a' h1 h2 => by omega⟩
  | f + 1, a, b, h => by
    obtain ⟨c, h1, h2, h3, h4⟩ := NRow_spec h16 f (a + 1) (stepU b (lookU s d a)) (by omega)
    have hs : b.t ≤ (stepU b (lookU s d a)).t ∧ (lookU s d a).t ≤ (stepU b (lookU s d a)).t ∧ (stepU b (lookU s d a) = b ∨ stepU b (lookU s d a) = lookU s d a) := by
      unfold stepU
      split
      · exact ⟨by omega, Int.le_refl _, .inr rfl⟩
      · exact ⟨Int.le_refl _, by omega, .inl rfl⟩
    refine ⟨c, ?_, by omega, ?_, fun a' ha1 ha2 => ?_⟩
    · show (if lookE s d a = 16 then none else NRow s d f (a + 1) (stepU b (lookU s d a))) = _
      rw [if_neg (h16 a (by omega))]
      exact h1
    · rcases h3 with h3 | h3
      · rcases hs.2.2 with h5 | h5
        · exact .inl (h3.trans h5)
        · exact .inr ⟨a, by omega, h3.trans h5⟩
      · exact .inr h3
    · by_cases e : a' = a
      · rw [e]; omega
      · exact h4 a' (by omega) ha2
theorem NAll_spec {s : RS} {nd : Nat} (h16 : ∀ d a, d < nd → a < 8 → lookE s d a ≠ 16) : ∀ f d b, d + f = nd → ∃ c, NAll s f d b = some c ∧ b.t ≤ c.t ∧ (c = b ∨ ∃ d' a', d' < nd ∧ a' < 8 ∧ c = lookU s d' a') ∧ ∀ d' a', d ≤ d' → d' < nd → a' < 8 → (lookU s d' a').t ≤ c.t
  | 0, d, b, h => ⟨b, rfl, Int.le_refl _, .inl rfl, fun d' a' h1 h2 => by omega⟩
  | f + 1, d, b, h => by
    obtain ⟨c1, g1, g2, g3, g4⟩ := NRow_spec (s := s) (d := d) (fun a ha => h16 d a (by omega) ha) 8 0 b rfl
    obtain ⟨c, h1, h2, h3, h4⟩ := NAll_spec h16 f (d + 1) c1 (by omega)
    refine ⟨c, ?_, by omega, ?_, fun d' a' hd1 hd2 ha => ?_⟩
    · show (NRow s d 8 0 b).bind (NAll s f (d + 1)) = _
      rw [g1]
      exact h1
    · rcases h3 with h3 | h3
      · rcases g3 with g3 | ⟨a', g5, g6⟩
        · exact .inl (h3.trans g3)
        · exact .inr ⟨d, a', by omega, g5, h3.trans g6⟩
      · exact .inr h3
    · by_cases e : d' = d
      · rw [e]
        have := g4 a' (by omega) ha
        omega
      · exact h4 d' a' (by omega) hd2 ha
theorem newU_is {s : RS} (ho : s.off = false) (h8 : 8 < s.ns) {u : U} (h1 : 1 ≤ u.t) (hx : ∃ d a, d < s.nd ∧ a < 8 ∧ lookU s d a = u) (ha : ∀ d a, d < s.nd → a < 8 → lookU s d a = u ∨ (lookU s d a).t < u.t) : newU s = (u, 0) := by
  obtain ⟨c, g1, g2, g3, g4⟩ := NAll_spec (s := s) (nd := s.nd) (fun d a hd ha => lookE_on ho hd (by omega)) s.nd 0 zeroU (by omega)
  obtain ⟨d, a, hd, ha8, e⟩ := hx
  have h2 := g4 d a (Nat.zero_le _) hd ha8
  rw [e] at h2
  have hc : c = u := by
    rcases g3 with g3 | ⟨d', a', g5, g6, g7⟩
    · rw [g3] at h2
      have : (zeroU).t = 0 := rfl
      omega
    · rcases ha d' a' g5 g6 with h3 | h3
      · exact g7.trans h3
      · rw [← g7] at h3; omega
  unfold newU
  rw [if_pos h8, g1, hc]
  exact if_neg (by omega)
end Lab
end Go.Proofs.YthioanenljpclaaGreatDoor
namespace Go.Proofs.YthioanenljpclaaGreatDoor
open Go Go.RowKit refRack
set_option maxRecDepth 100000
set_option linter.unusedVariables false
namespace Lab
/-- the pointer of a number -/
def pS (n : Nat) : ByteArray := strB 32 fun j => (n + j) % 256
def P (n : Nat) : K.Pt := ⟨(n : Int) % 1000, 1 + (n : Int) % 1024, (n : Int) % 77, pS n⟩
theorem pS_size (n : Nat) : (pS n).size = 32 := by
  unfold pS
  have h := strB_list 32 fun j => (n + j) % 256
  have h2 := congrArg List.length h
  rw [ByteArray.toList_eq] at h2
  simpa using h2
theorem P_ok (n : Nat) : K.okP (P n) = true := by
  unfold K.okP P
  rw [decide_eq_true_iff]
  refine ⟨?_, ?_, ?_, ?_, pS_size n⟩ <;> dsimp only <;> omega
theorem P_fit (n : Nat) : K.FitP (P n) := by
  refine ⟨⟨?_, ?_⟩, ⟨?_, ?_⟩, ⟨?_, ?_⟩, ?_⟩
  all_goals (try (show (pS n).size ≤ _; rw [pS_size]; unfold maxLen; omega))
  all_goals (unfold P; dsimp only; omega)
/-- the record of a transaction -/
def rec_ (t n : Nat) : U := ⟨(t : Int), P n⟩
theorem rec_ok {t n : Nat} (h1 : 1 ≤ t) (h2 : t ≤ 1000000) : Ok (rec_ t n) := by
  refine ⟨?_, ⟨?_, ?_⟩, P_fit n⟩
  · unfold okU rec_
    dsimp only
    rw [P_ok, Bool.and_true, decide_eq_true_iff]
    omega
  · show -9223372036854775808 ≤ (t : Int); omega
  · show (t : Int) ≤ 9223372036854775807; omega
theorem rec_mod {t n : Nat} : (rec_ t n).t.tmod 8 = ((t % 8 : Nat) : Int) := by
  show ((t : Int)).tmod 8 = _
  rw [Int.tmod_eq_emod_of_nonneg (by omega)]
  omega
def pTo (n i j : Nat) : Nat := if j < i then (n + j) % 256 else 0
set_option maxHeartbeats 1600000 in
theorem law_ptr (n : Nat) (w : World) (hn : n ≤ 1000000) :
    Calls Tryz.prog 8 #[.int .i64 (n : Int)] w fun e w' => e = .returned (.agg (ptA (P n))) ∧ Below w.heap.size w w' := by
  have hmk := make_long 32 (by omega) (w.alloc (.cells #[.int .i64 0, .int .i64 0, .int .i64 0, .string ⟨#[]⟩] 38)) 32 rfl
  have L0 : Hid (Below w.heap.size w ((w.alloc (.cells #[.int .i64 0, .int .i64 0, .int .i64 0, .string ⟨#[]⟩] 38)).alloc (.cells (rowArr 32 fun _ => 0) 5))) := Lib.hid (((Below.refl _ _).alloc (Nat.le_refl _) _).alloc (by simp) _)
  have X0 : Hid (Blk ((w.alloc (.cells #[.int .i64 0, .int .i64 0, .int .i64 0, .string ⟨#[]⟩] 38)).alloc (.cells (rowArr 32 fun _ => 0) 5)) w.heap.size 38 #[.int .i64 0, .int .i64 0, .int .i64 0, .string ⟨#[]⟩]) := Lib.hid ((Blk.new _ _ _).alloc _)
  have B0 := Lib.hid (Blk.new (w.alloc (.cells #[.int .i64 0, .int .i64 0, .int .i64 0, .string ⟨#[]⟩] 38)) 5 (rowArr 32 fun _ => 0))
  go_enter Tryz.func8, Tryz.ntmps8
  go_wp2_with fail
  clear hmk
  have hgb : (w.alloc (.cells #[.int .i64 0, .int .i64 0, .int .i64 0, .string ⟨#[]⟩] 38)).heap.size = w.heap.size + 1 := by simp
  rw [hgb] at B0
  clear hgb
  go_loopw [4] (fun x wr => ∃ i : Nat, i ≤ 32 ∧ x = .int .i64 i ∧ Hid (Below w.heap.size w wr) ∧ Hid (Blk wr w.heap.size 38 #[.int .i64 0, .int .i64 0, .int .i64 0, .string ⟨#[]⟩]) ∧ Hid (Blk wr (w.heap.size + 1) 5 (rowArr 32 (pTo n i)))) (fun x _ => 32 - (intOf x).toNat)
  case atStart => exact ⟨0, by omega, rfl, L0, X0, Lib.hid (by
    have h := B0.out
    rw [rowArr_congr (g := pTo n 0) (fun c _ => (if_neg (Nat.not_lt_zero c)).symm)] at h
    exact h)⟩
  case round =>
    obtain ⟨i, hi, rfl, L1, X1, B1⟩ := hrel
    clear L0 X0 B0
    by_cases hlt : i < 32
    · have t1 : decide ((i : Int) < 32) = true := by simp; omega
      have c0 : wr.cell? ⟨w.heap.size + 1, i, none⟩ = some (.int .u8 ((pTo n i i : Nat) : Int)) := (B1.out.cell i).trans (rowArr_get hlt)
      have f0 := B1.out.frozen i
      have xw : IntKind.u8.wrap ((n : Int) + (i : Int)) = (((n + i) % 256 : Nat) : Int) := by rw [IntKind.wrap_u8]; omega
      have B2 : Hid (Blk (wr.setCell ⟨w.heap.size + 1, i, none⟩ (.int .u8 (((n + i) % 256 : Nat) : Int))) (w.heap.size + 1) 5 (rowArr 32 (pTo n (i + 1)))) := Lib.hid (by
        have h := B1.out.set_ i (.int .u8 (((n + i) % 256 : Nat) : Int))
        rw [rowArr_set hlt, rowArr_congr (g := pTo n (i + 1)) (fun c _ => by
          unfold pTo
          by_cases e : c = i
          · rw [if_pos e, if_pos (by omega), e]
          · rw [if_neg e]
            by_cases e2 : c < i
            · rw [if_pos e2, if_pos (by omega)]
            · rw [if_neg e2, if_neg (by omega)])] at h
        exact h)
      have L2 := Lib.hid (L1.out.setCell (p := ⟨w.heap.size + 1, i, none⟩) (by simp) (.int .u8 (((n + i) % 256 : Nat) : Int)))
      have X2 := Lib.hid (X1.out.far (p := ⟨w.heap.size + 1, i, none⟩) (by simp) (.int .u8 (((n + i) % 256 : Nat) : Int)))
      obtain ⟨v, hv⟩ : ∃ v : Int, v = (((n + i) % 256 : Nat) : Int) := ⟨_, rfl⟩
      rw [← hv] at xw B2 L2 X2
      clear L1 X1 B1 hv
      go_wp2_with fail
      go_roundw
      case rel => exact ⟨i + 1, by omega, by go_num, L2, X2, B2⟩
      case measure => simp [intOf]; omega
    · have t1 : decide ((i : Int) < 32) = false := by simp; omega
      have hi32 : i = 32 := by omega
      subst hi32
      have cv := conv_bytes (c := 32) B1.out (X := pTo n 32) (o := 0) (n := 32) (fun j hj => by rw [Nat.zero_add]; exact rowArr_get hj)
      have hps : strB 32 (pTo n 32) = pS n := strB_congr fun j hj => if_pos hj
      rw [hps] at cv
      have hz : IntKind.i64.wrap (1 + (n : Int) % 1024) = 1 + (n : Int) % 1024 := by rw [IntKind.wrap_i64]; omega
      have HV : Hid (Ending.returned (.agg #[.int .i64 ((n : Int) % 1000), .int .i64 (1 + (n : Int) % 1024), .int .i64 ((n : Int) % 77), .string (pS n)]) = .returned (.agg (ptA (P n)))) := Lib.hid rfl
      obtain ⟨ps, hpp⟩ : ∃ ps, ps = pS n := ⟨_, rfl⟩
      rw [← hpp] at cv HV
      obtain ⟨⟨d0, d1, d2, d3⟩, e0, e1, e2, e3⟩ := ptr_facts X1.out
      clear hps hpp B1
      go_wp2_with fail
      refine bodyPost_ret (results_cell rfl rfl (set4_load X1.out _ _ _ _)) rfl ?_
      exact ⟨HV.out, set4_below L1.out (Nat.le_refl _) _ _ _ _⟩
end Lab
end Go.Proofs.YthioanenljpclaaGreatDoor
namespace Go.Proofs.YthioanenljpclaaGreatDoor
open Go Go.RowKit refRack
set_option maxRecDepth 100000
set_option linter.unusedVariables false
theorem eqG_agg {P : Program} (op : BinOp) (t : TypeId) (x y : Operand) (a b : Array Value) (h : (!P.eqGuardType P.depth t) = true) (w : World) : (eqGuard op t x y (.agg a) (.agg b)).run P w = .ok () w := by
  have h2 : P.eqGuardType P.depth t = false := by simpa using h
  unfold eqGuard
  cases op <;> simp [Sem.run_bind, run_program, h2]
theorem exec_bld2 {P : Program} {a : Act} {o : Oper} {ty : TypeId} {i j : Nat} {x y : Operand} {u0 u1 r : Value} (w : World) (e : o.op = .build ty #[(i, x), (j, y)]) (hx : a.eval x = u0) (hy : a.eval y = u1)
    (hl : (Instr.build ty #[(i, u0), (j, u1)]).run P w = .ok r w) : (execOp a.eval o).run P w = .ok (.value r) w := by
  unfold execOp; simp only [e, List.map_toArray, List.map_cons, List.map_nil, hx, hy, hl, Sem.run_bind, Sem.run_pure, Result.andThen_ok]
namespace Lab
theorem eq_uber (u : U) (W : World) : (binOp .eql 41 (.agg (uA u)) (.agg (uA u))).run Tryz.prog W = .ok (.bool true) W := by
  unfold uA
  simp [go_sem, run_eql_struct]
theorem build_uber (t : Int) (p : K.Pt) (W : World) : (Instr.build 41 #[(0, .int .i64 t), (1, .agg (ptA p))]).run Tryz.prog W = .ok (.agg (uA ⟨t, p⟩)) W := by
  obtain ⟨a, z, b, s⟩ := p
  kernel_rfl
theorem law_ptrL (n : Nat) (w : World) (hn : n ≤ 1000000) :
    Calls Tryz.prog 8 #[.int .i64 (n : Int)] w fun e w' => ∃ pa pz pb ps, P n = ⟨pa, pz, pb, ps⟩ ∧ e = .returned (.agg #[.int .i64 pa, .int .i64 pz, .int .i64 pb, .string ps]) ∧ Below w.heap.size w w' :=
  (law_ptr n w hn).mono fun e w' ⟨h1, h2⟩ => ⟨_, _, _, _, rfl, h1, h2⟩
theorem uA_rec {t n : Nat} {pa pz pb : Int} {ps : ByteArray} (h : P n = ⟨pa, pz, pb, ps⟩) : (#[.int .i64 (t : Int), .int .i64 pa, .int .i64 pz, .int .i64 pb, .string ps] : Array Value) = uA (rec_ t n) := by
  unfold rec_ uA
  rw [h]
theorem load_uber {W : World} {g : Nat} {u : U} (h : Blk W g 41 (uA u)) : (Instr.loadAt 41 (.pointer (some ⟨g, 0, none⟩))).run Tryz.prog W = .ok (.agg (uA u)) W := load_blk h Tryz.underlying41 rfl isize_uber
end Lab
end Go.Proofs.YthioanenljpclaaGreatDoor
namespace Go.Proofs.YthioanenljpclaaGreatDoor
set_option maxRecDepth 100000
open Go Go.RowKit
set_option linter.unusedVariables false

end Go.Proofs.YthioanenljpclaaGreatDoor
namespace Go.Proofs.YthioanenljpclaaGreatDoor
set_option maxRecDepth 100000
open Go.RowKit Go.ChangeShapes Go.WideShapes Go.ChangeAt
set_option linter.unusedVariables false

def I64 (x : Int) : Prop := -9223372036854775808 ≤ x ∧ x ≤ 9223372036854775807
/-- n ints, below block B -/
def RdI (w : World) (B : Nat) (A : Option Addr) (n : Nat) (x : Nat → Int) : Prop :=
  ∀ i, i < n → ∃ b o, A = some ⟨b, o, none⟩ ∧ b < B ∧ w.cell? ⟨b, o + i, none⟩ = some (.int .i64 (x i)) ∧ I64 (x i)
def RdO (w : World) (B : Nat) (A : Option Addr) (n : Nat) (x : Nat → Bool) : Prop :=
  ∀ i, i < n → ∃ b o, A = some ⟨b, o, none⟩ ∧ b < B ∧ w.cell? ⟨b, o + i, none⟩ = some (.bool (x i))
theorem RdI.below {w w' : World} {B : Nat} {A : Option Addr} {n : Nat} {x : Nat → Int} (h : RdI w B A n x) (hb : Below B w w') : RdI w' B A n x := fun i hi => by
  obtain ⟨b, o, h1, h2, h3, h4⟩ := h i hi
  exact ⟨b, o, h1, h2, (hb.cell (p := ⟨b, o + i, none⟩) h2).trans h3, h4⟩
theorem RdO.below {w w' : World} {B : Nat} {A : Option Addr} {n : Nat} {x : Nat → Bool} (h : RdO w B A n x) (hb : Below B w w') : RdO w' B A n x := fun i hi => by
  obtain ⟨b, o, h1, h2, h3⟩ := h i hi
  exact ⟨b, o, h1, h2, (hb.cell (p := ⟨b, o + i, none⟩) h2).trans h3⟩
theorem rdi_of_cells {w : World} {a : Addr} {n : Nat} {zs : List Int} (hn : n ≤ zs.length) (hc : ∀ i, i < zs.length → w.cell? (a.add i) = some (.int .i64 (zs.getD i 0))) (hw : ∀ z ∈ zs, (Lit.int .i64 z).wf = true) :
    RdI w w.heap.size (some a) n (fun j => zs.getD j 0) := by
  intro j hj
  obtain ⟨b, o, sp⟩ := a
  have h0 := hc j (by omega)
  have hsp : sp = none := by
    have h1 := hc 0 (by omega)
    have h2 := World.cell?_spot h1
    simpa [Addr.add] using h2
  subst hsp
  rw [add_plain] at h0
  exact ⟨b, o, rfl, block_lt_of_cell h0, h0, bounds_i64 (hw _ (getD_mem (show j < zs.length by omega)))⟩
section
variable {H : Type} {enc : TypeId × Value → H} {P : Program} {W : World} {base : Nat} {held : Bool}
end
end Go.Proofs.YthioanenljpclaaGreatDoor
namespace Go.Proofs.YthioanenljpclaaGreatDoor
set_option maxRecDepth 100000
open Go Go.RowKit Go.ChangeShapes Go.WideShapes Go.ChangeAt
set_option linter.unusedVariables false

theorem info_int : (Tryz.prog.info? 3).map (fun i => (i.zero, i.size, i.bytes)) = some (some (.int .i64 0), 1, 8) := by kernel_rfl
def intL (n : Nat) (x : Nat → Int) : List Value := (List.range n).map fun j => Value.int .i64 (x j)
theorem intL_length (n : Nat) (x : Nat → Int) : (intL n x).length = n := by simp [intL]
theorem intL_get {n j : Nat} (x : Nat → Int) (h : j < n) : (intL n x)[j]? = some (.int .i64 (x j)) := by simp [intL, h]

theorem run_append_ints {w0 : World} {B : Nat} {A : Option Addr} {n c : Nat} {x : Nat → Int} (ty : TypeId) (hr : RdI w0 B A n x) (hB : B ≤ w0.heap.size) (h8 : n * 8 ≤ 140737488355328) (h0 : A = none → c = 0) (hnc : n ≤ c) :
    ∃ A' c' w', (Builtin.append_ #[32, 32] ty #[.slice (some ⟨w0.heap.size, 0, none⟩) 0 0, .slice A n c]).run Tryz.prog (w0.alloc (.cells #[] 3)) = .ok (.slice A' n c') w' ∧ Ints w' A' n x ∧ Below w0.heap.size w0 w' := by
  obtain ⟨i0, hi, hz0, hz1, hz2⟩ := info_parts info_int
  have hown : (w0.alloc (.cells #[] 3)).ownsRow w0.heap.size 3 1 (.slice (some ⟨w0.heap.size, 0, none⟩) 0 0) 0 [] :=
    ⟨rfl, .inr ⟨w0.heap.size, 0, #[], rfl, Nat.le_refl _, (Blk.new w0 3 #[]), Nat.le_refl _, by simp [maxLen], rfl, rfl⟩⟩
  have b0 : Below w0.heap.size w0 (w0.alloc (.cells #[] 3)) := (Below.refl _ _).alloc (Nat.le_refl _) _
  cases A with
  | none =>
    have hc := h0 rfl
    subst hc
    obtain rfl : n = 0 := by omega
    have h := run_append_owned_none (P := Tryz.prog) (w0.alloc (.cells #[] 3)) w0.heap.size 32 ty 3 i0 1 Tryz.underlying32 hi _ _ _ hown
    exact ⟨_, _, _, h, ⟨fun i hi => absurd hi (Nat.not_lt_zero _), by simp [maxLen], .inl rfl⟩, b0⟩
  | some ad =>
    obtain ⟨v', w', e1, e2, e3, e4, e5⟩ := run_append_own_at (P := Tryz.prog) (w0.alloc (.cells #[] 3)) w0.heap.size 32 ty 3 i0 (.int .i64 0) 1 8 Tryz.underlying32 hi hz0 hz1 hz2 rfl (by decide) _ 0 [] hown ad n c (intL n x) (by rw [intL_length, Nat.mul_one])
      (fun j u hj => by
        have hjn : j < n := by have := (List.getElem?_eq_some_iff.1 hj).1; rw [intL_length] at this; exact this
        rw [intL_get x hjn] at hj
        injection hj with hj
        subst hj
        obtain ⟨b, o, h1, h2, h3, _⟩ := hr j hjn
        injection h1 with h1
        subst h1
        rw [add_plain]
        exact (b0.cell (p := ⟨b, o + j, none⟩) (show b < w0.heap.size by omega)).trans h3)
      (fun u hu => by
        simp only [intL, List.mem_map] at hu
        obtain ⟨j, _, rfl⟩ := hu
        rfl) (by simp only [maxLen]; omega) (by omega) (by simp)
    have hbel : Below w0.heap.size w0 w' := b0.trans ⟨e3.os, e3.tape, e3.output, e3.size, fun k hk => e3.block k (by simp; omega) (fun e => by simp [Value.ownBlock] at e; omega)⟩
    rw [Nat.zero_add, List.nil_append] at e2
    have hbd : ∀ i, i < n → -9223372036854775808 ≤ x i ∧ x i ≤ 9223372036854775807 := fun i hi => by obtain ⟨_, _, _, _, _, h4⟩ := hr i hi; exact h4
    have hml : n ≤ maxLen := by simp only [maxLen]; omega
    rcases e2.2 with ⟨rfl, hn0⟩ | ⟨g, cap, cur, rfl, f1, f2, f3, f4, f5, f6⟩
    · exact ⟨_, _, _, by rw [hn0]; rw [hn0] at e1; exact e1, ⟨hbd, hml, .inl hn0⟩, hbel⟩
    · refine ⟨_, _, _, e1, ⟨hbd, hml, .inr ⟨g, 0, _, cur, rfl, f2, rfl, fun i hi => ?_⟩⟩, hbel⟩
      have h1 := intL_get x hi
      rw [← f6, List.getElem?_take_of_lt (by omega), Array.getElem?_toList] at h1
      rw [Nat.zero_add]
      exact h1
section
variable {H : Type} {enc : TypeId × Value → H} {P : Program} {W : World} {base : Nat} {held : Bool}
theorem rdi_of_trod2 {t e : TypeId} {fuel len cap : Nat} {a : Option Addr} {x : DataW H × List MemPlace} (ht : P.underlying t = some (.slice e)) (he : P.underlying e = some (.int .i64)) (hc : P.cellsOf e = 1)
    (h : DataW.trod enc P W base (fun _ => true) held fuel t (Value.slice a len cap).cells.toList = some x) : ∃ y, RdI W W.heap.size a len y ∧ len ≤ cap ∧ cap ≤ maxLen ∧ (a = none → cap = 0) ∧ (cap = 0 ∨ ∃ es sp, x.1 = .slice es sp ∧ es.length + sp.length = cap) := by
  rcases open_ints ht he hc h with ⟨hcs, _⟩ | ⟨x, l, c, zs, hcs, _, hl, hm, hz, hx, hcell, hwz⟩
  · simp [Value.cells] at hcs
    obtain ⟨rfl, rfl, rfl⟩ := hcs
    exact ⟨fun _ => 0, fun j hj => absurd hj (by omega), by omega, by omega, fun _ => rfl, .inl rfl⟩
  · simp [Value.cells] at hcs
    obtain ⟨rfl, rfl, rfl⟩ := hcs
    simp at hz
    refine ⟨_, rdi_of_cells (by omega) hcell hwz, hl, hm, fun e => (by cases e), .inr ⟨_, _, by rw [hx], ?_⟩⟩
    simp [lits, hz]
    omega
end
theorem wpList_append_ints {w0 : World} {ops : Array Oper} {rest : List Oper} {o : Oper} {a : Act} {Q : Exit → Act → World → Prop} (hgd : o.guard = none) (s x : Operand)
    (ho : o.op = .call { callee := .builtin .append, args := #[s, x], argTypes := #[32, 32] }) {B : Nat} {A : Option Addr} {n c : Nat} {y : Nat → Int} (hs : a.eval s = .slice (some ⟨w0.heap.size, 0, none⟩) 0 0) (hx : a.eval x = .slice A n c)
    (hr : RdI w0 B A n y) (hB : B ≤ w0.heap.size) (h8 : n * 8 ≤ 140737488355328) (h0 : A = none → c = 0) (hnc : n ≤ c)
    (h : ∀ A' c' w', Ints w' A' n y → Below w0.heap.size w0 w' → wpList Tryz.prog ops Q rest (a.put o.dst (.slice A' n c')) w') : wpList Tryz.prog ops Q (o :: rest) a (w0.alloc (.cells #[] 3)) := by
  refine wpList_plain hgd fun K hK => ?_
  obtain ⟨A', c', w', hrun, h1, h2⟩ := run_append_ints (c := c) o.type hr hB h8 h0 hnc
  unfold Oper.wp execOp
  simp only [ho, resolve, invoke, builtin, Sem.run_bind, Sem.run_pure, Result.andThen_ok, List.map_toArray, List.map_cons, List.map_nil, hs, hx, hrun]
  exact hK _ _ (h A' c' w' h1 h2)
end Go.Proofs.YthioanenljpclaaGreatDoor
