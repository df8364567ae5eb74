/-
  A rack whose power is on and that isn't armed: Write, Flush, Read by contracts. Conditions: the rack is one; the place is its own.
-/
import Derived.Test.YtikenhcglbfgpaaDoorRackTotM
import Derived.Test.YtikenhcglbfgpaaDoorRackMapM
namespace Go.Proofs.YtikenhcglbfgpaaDoor
set_option maxRecDepth 100000
open Go Go.RowKit
set_option linter.unusedVariables false

/-- the power is on, and stays -/
def RS.calm (s : RS) : Prop := s.off = false ∧ s.armed = false
theorem RS.calm.pow {s : RS} (h : s.calm) : s.pow = true := by unfold RS.pow; rw [h.1, h.2]; rfl
theorem RS.calm.spent {s : RS} (h : s.calm) : s.spent = s := by unfold RS.spent; rw [h.1, h.2]; rfl
theorem RS.calm.wrote {s : RS} (h : s.calm) (d a : Nat) (X : Nat → Nat) : (s.wrote d a X).calm := h
theorem RS.calm.laid {s : RS} (h : s.calm) (P : Nat → Bool) : (s.laid P).calm := h
theorem RS.calm.flushed {s : RS} (h : s.calm) : s.flushed.calm := h
theorem RS.crashed_calm (s : RS) (P : Nat → Bool) : (s.crashed P).calm := ⟨rfl, rfl⟩
section
variable {B : Nat} {w w' : World} {r : Nat} {s : RS}
theorem write_calm (w : World) (r : Nat) (s : RS) (D A : Int) (d a : Nat) (v : Value) (X : Nat → Nat) (h : RackAt B w r s) (hc : s.calm) (hD : D = (d : Int)) (hA : A = (a : Int)) (hd : d < s.nd) (ha : a < s.ns) (hg : s.gone d = false) (hv : Row8 w v 128 X) (hX : ∀ j, j < 128 → X j < 256) (hcost : s.cost + 1 ≤ 1000000) :
    Calls Tryd.prog 32 #[.pointer (some ⟨r, 0, none⟩), .int .i64 D, .int .i64 A, v] w fun e w' => e = .returned (.int .i64 0) ∧ RackAt B w' r (s.wrote d a X) ∧ Keep B w w' := by
  obtain ⟨g, c, cs, rfl, hb, hx⟩ := hv
  subst hD hA
  exact write_go w r s (s.wrote d a X) 0 d a g 0 c X _ cs h hd ha hg hb rfl (fun j hj => ⟨hx j hj, hX j hj⟩) hcost (by rw [hc.pow]; rfl) (by rw [hc.pow, hc.spent]; rfl)
theorem flush_calm (w : World) (r : Nat) (s : RS) (h : RackAt B w r s) (hc : s.calm) :
    Calls Tryd.prog 16 #[.pointer (some ⟨r, 0, none⟩)] w fun e w' => e = .returned (.int .i64 0) ∧ RackAt B w' r s.flushed ∧ Keep B w w' :=
  flush_any w r s s.flushed 0 h (by rw [hc.pow]; rfl) (by rw [hc.pow, hc.spent]; rfl)
theorem RackAt.ok (h : RackAt B w r s) : s.ok := h.1
theorem RS.holds_lt {s : RS} (h : s.ok) (d a j : Nat) (hj : j < 128) : s.holds d a j < 256 := by
  unfold RS.holds
  cases hi : newIn s.W d a s.nw with
  | some i => exact (h.wp i (newIn_lt hi).1).2.2 j hj
  | none => exact h.lp d a j hj
theorem read_calm (w : World) (r : Nat) (s : RS) (D A : Int) (d a : Nat) (h : RackAt B w r s) (hc : s.calm) (hD : D = (d : Int)) (hA : A = (a : Int)) (hd : d < s.nd) (ha : a < s.ns) (hg : s.gone d = false) :
    Calls Tryd.prog 15 #[.pointer (some ⟨r, 0, none⟩), .int .i64 D, .int .i64 A] w fun e w' => ∃ v, e = .returned (.tuple #[v, .int .i64 0]) ∧ Row8 w' v 128 (s.holds d a) ∧ RackAt B w' r s ∧ Keep B w w' := by
  subst hD hA
  exact (read_ok w r s d a h hd ha hg hc.1).mono fun e w' ⟨⟨v, h1, h2⟩, h3, h4⟩ => ⟨v, h1, Row8.of_own h2 (by omega), h3, h4⟩
end
end Go.Proofs.YtikenhcglbfgpaaDoor
namespace Go.Proofs.YtikenhcglbfgpaaDoor
open Go Go.RowKit refRack
set_option maxRecDepth 100000
set_option linter.unusedVariables false
namespace Lab
/-- the bytes of a sector -/
def sec (s : RS) (d a : Nat) : List Nat := (List.range 128).map (s.holds d a)
theorem sec_length (s : RS) (d a : Nat) : (sec s d a).length = 128 := by simp [sec]
theorem sec_lst (s : RS) (d a j : Nat) (h : j < 128) : lst (sec s d a) j = s.holds d a j := by
  unfold lst sec
  rw [List.getD_eq_getElem?_getD]
  simp [h]
theorem sec_lt {s : RS} (h : s.ok) (d a : Nat) : ∀ b ∈ sec s d a, b < 256 := fun b hb => by
  unfold sec at hb
  rw [List.mem_map] at hb
  obtain ⟨j, hj, rfl⟩ := hb
  exact RS.holds_lt h d a j (by simpa using hj)
/-- the record in a slot, if there is one -/
def Has (s : RS) (d a : Nat) (u : U) : Prop := Is (sec s d a) u ∧ u.t.tmod 8 = (a : Int)
open Classical in
noncomputable def found (s : RS) (d a : Nat) : Option U := if h : ∃ u, Has s d a u then some h.choose else none
theorem found_some {s : RS} {d a : Nat} {u : U} (h : Has s d a u) : found s d a = some u := by
  have hx : ∃ u, Has s d a u := ⟨u, h⟩
  unfold found
  rw [dif_pos hx]
  exact congrArg some (hx.choose_spec.1.one h.1)
theorem found_none {s : RS} {d a : Nat} (h : ∀ u, ¬ Has s d a u) : found s d a = none := by
  unfold found
  rw [dif_neg (fun ⟨u, hu⟩ => h u hu)]
theorem found_has {s : RS} {d a : Nat} {u : U} (h : found s d a = some u) : Has s d a u := by
  by_cases hx : ∃ u, Has s d a u
  · have h2 := h
    unfold found at h2
    rw [dif_pos hx] at h2
    injection h2 with h2
    rw [← h2]
    exact hx.choose_spec
  · unfold found at h
    rw [dif_neg hx] at h
    cases h
noncomputable def lookU (s : RS) (d a : Nat) : U := if s.deny (d : Int) (a : Int) = 0 then (found s d a).getD zeroU else zeroU
noncomputable def lookE (s : RS) (d a : Nat) : Int := if s.deny (d : Int) (a : Int) = 0 then (if (found s d a).isSome = true then 0 else 7) else s.deny (d : Int) (a : Int)
theorem rdb_own {w : World} {B n : Nat} {v : Value} {X : Nat → Nat} (h : w.ownsRow B 5 1 v n (rowL n X)) (hn : 0 < n) (hX : ∀ j, j < n → X j < 256) : ∃ A c, v = .slice A n c ∧ RdB w w.heap.size A n X ∧ n ≤ c ∧ c ≤ maxLen := by
  rcases h.2 with ⟨rfl, h0⟩ | ⟨g, cap, cur, rfl, h1, h2, h3, h4, _⟩
  · omega
  · refine ⟨_, _, rfl, fun j hj => ⟨g, 0, rfl, (Array.getElem?_eq_some_iff.1 h2).1, ?_, hX j hj⟩, h3, h4⟩
    rw [Nat.zero_add, h.cellAt j (by omega)]
    exact rowL_get X hj
section
variable {B : Nat}
theorem grown_set5 (w : World) (g : Nat) (a b c d e : Value) : w.grownBy (set5 w g a b c d e) (some g) := by
  have tr : ∀ {x y z : World}, x.grownBy y (some g) → y.grownBy z (some g) → x.grownBy z (some g) := fun h k =>
    ⟨k.os.trans h.os, k.tape.trans h.tape, k.output.trans h.output, Nat.le_trans h.size k.size, fun i hi hne => (k.block i (Nat.lt_of_lt_of_le hi h.size) hne).trans (h.block i hi hne)⟩
  unfold set5
  exact tr (tr (tr (tr (grown_set w g 0 a) (grown_set _ g 1 b)) (grown_set _ g 2 c)) (grown_set _ g 3 d)) (grown_set _ g 4 e)
theorem _root_.Go.Proofs.YtikenhcglbfgpaaDoor.Keep.set5 {a0 w : World} {g : Nat} (h : Keep B a0 w) (hB : B ≤ g) (hs : B ≤ w.heap.size) (ha : a0.heap.size ≤ g) (a b c d e : Value) : Keep B a0 (set5 w g a b c d e) := h.grownNew (grown_set5 w g a b c d e) hB hs ha
theorem rdb_sec {w : World} {Bb : Nat} {A : Option Addr} {s : RS} {d a : Nat} (h : RdB w Bb A 128 (s.holds d a)) : RdB w Bb A (sec s d a).length (lst (sec s d a)) := fun j hj => by
  rw [sec_length] at hj
  rw [sec_lst s d a j hj]
  exact h j hj
end
end Lab
end Go.Proofs.YtikenhcglbfgpaaDoor
namespace Go.Proofs.YtikenhcglbfgpaaDoor
open Go Go.RowKit refRack
set_option maxRecDepth 100000
set_option linter.unusedVariables false
namespace Lab
theorem wrS_nd (s : RS) (D A : Int) (m : Nat) (X : Nat → Nat) : (wrS s D A m X).nd = s.nd ∧ (wrS s D A m X).ns = s.ns := by
  have h := spent_same s
  unfold wrS
  split
  · split
    · exact ⟨h.1, h.2.1⟩
    · exact ⟨h.1, h.2.1⟩
  · exact ⟨rfl, rfl⟩
/-- one write to each drive from k on, f of them: what the rack is then, the count, the error -/
def WR (q : Int) (X : Nat → Nat) : Nat → Nat → RS → Nat → RS × Int × Int
  | 0, _, s, n => (s, (n : Int), if n = 0 then 4 else 0)
  | f + 1, k, s, n => if wrE s (k : Int) q 128 = 16 then (wrS s (k : Int) q 128 X, 0, 16) else WR q X f (k + 1) (wrS s (k : Int) q 128 X) (if wrE s (k : Int) q 128 = 0 then n + 1 else n)
noncomputable def wroteL (s : RS) (u : U) : RS × Int × Int := if 8 < s.ns then (if okU u = true then WR (u.t.tmod 8) (lst (encL u)) s.nd 0 s 0 else (s, 0, 2)) else (s, 0, 1)
section
variable {B : Nat}
end
end Lab
end Go.Proofs.YtikenhcglbfgpaaDoor
namespace Go.Proofs.YtikenhcglbfgpaaDoor
open Go Go.RowKit refRack
set_option maxRecDepth 100000
set_option linter.unusedVariables false
namespace Lab
def stepU (b u : U) : U := if b.t < u.t then u else b
/-- the newest of a drive's slots from a on, f of them, and b; none where the power is off -/
noncomputable def NRow (s : RS) (d : Nat) : Nat → Nat → U → Option U
  | 0, _, b => some b
  | f + 1, a, b => if lookE s d a = 16 then none else NRow s d f (a + 1) (stepU b (lookU s d a))
noncomputable def NAll (s : RS) : Nat → Nat → U → Option U
  | 0, _, b => some b
  | f + 1, d, b => (NRow s d 8 0 b).bind (NAll s f (d + 1))
def pickN : Option U → U × Int
  | none => (zeroU, 16)
  | some b => if b.t = 0 then (zeroU, 7) else (b, 0)
noncomputable def newU (s : RS) : U × Int := if 8 < s.ns then pickN (NAll s s.nd 0 zeroU) else (zeroU, 1)
abbrev zero5 : Array Value := #[.int .i64 0, .int .i64 0, .int .i64 0, .int .i64 0, .string ⟨#[]⟩]
section
variable {B : Nat}
end
end Lab
end Go.Proofs.YtikenhcglbfgpaaDoor
namespace Go.Proofs.YtikenhcglbfgpaaDoor
set_option maxRecDepth 100000
open Go Go.RowKit
set_option linter.unusedVariables false

theorem newIn_wrote (s : RS) (d a : Nat) (X : Nat → Nat) (d' a' : Nat) : ∀ k, k ≤ s.nw → newIn (s.wrote d a X).W d' a' k = newIn s.W d' a' k := fun k hk =>
  newIn_congr fun i hi => by
    have : (s.wrote d a X).W i = s.W i := if_neg (by omega)
    rw [this]
    exact ⟨rfl, rfl⟩
theorem newIn_succ (W : Nat → Wt) (d a k : Nat) : newIn W d a (k + 1) = if (W k).d = d ∧ (W k).a = a then some k else newIn W d a k := rfl
theorem holds_wrote (s : RS) (d a : Nat) (X : Nat → Nat) (d' a' : Nat) : (s.wrote d a X).holds d' a' = if d' = d ∧ a' = a then X else s.holds d' a' := by
  have e : (s.wrote d a X).W s.nw = ⟨d, a, X⟩ := if_pos rfl
  unfold RS.holds
  show (match newIn (s.wrote d a X).W d' a' (s.nw + 1) with | some i => ((s.wrote d a X).W i).x | none => s.last d' a') = _
  rw [newIn_succ, e]
  by_cases h : d = d' ∧ a = a'
  · obtain ⟨rfl, rfl⟩ := h
    rw [if_pos ⟨rfl, rfl⟩, if_pos ⟨rfl, rfl⟩]
    show ((s.wrote d a X).W s.nw).x = X
    rw [e]
  · rw [if_neg h, if_neg (fun x => h ⟨x.1.symm, x.2.symm⟩), newIn_wrote s d a X d' a' s.nw (Nat.le_refl _)]
    cases hi : newIn s.W d' a' s.nw with
    | none => rfl
    | some i =>
      have hlt := (newIn_lt hi).1
      have : (s.wrote d a X).W i = s.W i := if_neg (by omega)
      simp only [this]
theorem lay_all (s : RS) (d a : Nat) : ∀ k, s.lay (fun _ => true) k d a = match newIn s.W d a k with | some i => (s.W i).x | none => s.last d a
  | 0 => rfl
  | k + 1 => by
    rw [newIn_succ]
    unfold RS.lay
    by_cases h : (s.W k).d = d ∧ (s.W k).a = a
    · simp only [h.1, h.2, and_self, if_true]
    · rw [if_neg (fun x => h x.2), if_neg h]
      exact lay_all s d a k
theorem holds_flushed (s : RS) (d a : Nat) : s.flushed.holds d a = s.holds d a := by
  show s.lay (fun _ => true) s.nw d a = _
  rw [lay_all]
  rfl
theorem holds_crashed (s : RS) (P : Nat → Bool) (d a : Nat) : (s.crashed P).holds d a = s.lay P s.nw d a := rfl
theorem holds_new (nd ns d a : Nat) : (RS.new nd ns).holds d a = zeros := rfl
end Go.Proofs.YtikenhcglbfgpaaDoor
