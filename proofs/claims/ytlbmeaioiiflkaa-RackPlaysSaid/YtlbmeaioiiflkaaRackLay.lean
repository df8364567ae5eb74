/-
  What lasts behind a flush or a crash: the rack's first map, entry by entry. Conditions: the rack is one.
-/
import Derived.Test.YtlbmeaioiiflkaaRackWrite
import Derived.Test.YtlbmeaioiiflkaaDrawOps
namespace Go.Proofs.Ytlbmeaioiiflkaa
open Go.RowKit
set_option linter.unusedVariables false

/-- what lasts when of the first k that wait those are kept that P names -/
def RS.lay (s : RS) (P : Nat → Bool) : Nat → Nat → Nat → Nat → Nat
  | 0 => s.last
  | k + 1 => fun d a => if P k = true ∧ (s.W k).d = d ∧ (s.W k).a = a then (s.W k).x else s.lay P k d a
def RS.mid (s : RS) (P : Nat → Bool) (k : Nat) : RS := { s with last := s.lay P k, cost := s.cost + k }
/-- behind a flush, or a crash -/
def RS.laid (s : RS) (P : Nat → Bool) : RS := { s with nw := 0, last := s.lay P s.nw }
theorem RS.lay_lt {s : RS} (h : s.ok) (P : Nat → Bool) : ∀ k, k ≤ s.nw → ∀ d a j, j < 128 → s.lay P k d a j < 256
  | 0, _, d, a, j, hj => h.lp d a j hj
  | k + 1, hk, d, a, j, hj => by
    unfold RS.lay
    split
    · exact (h.wp k (by omega)).2.2 j hj
    · exact RS.lay_lt h P k (by omega) d a j hj
theorem RS.ok.laid {s : RS} (h : s.ok) (P : Nat → Bool) : (s.laid P).ok :=
  ⟨h.nd1, h.nd2, h.ns1, h.ns2, h.left, h.cost, fun i hi => absurd hi (Nat.not_lt_zero _), fun d a j hj => RS.lay_lt h P s.nw (Nat.le_refl _) d a j hj⟩
section
variable {B : Nat} {w w' : World} {r m1 m2 : Nat} {v : Value} {s : RS} {k : Nat} {P : Nat → Bool}
theorem RackK.atMid (h : RackK B w r m1 m2 v s k) : RackK B w r m1 m2 v (s.mid P 0) k := h
theorem RackK.skipMid (h : RackK B w r m1 m2 v (s.mid P k) s.nw) (hp : P k = false) : RackK B w r m1 m2 v (s.mid P (k + 1)) s.nw := by
  obtain ⟨n, F, f1, f2, f3⟩ := h.last
  refine ⟨h.blk, h.hr, h.h1, h.h2, h.ne, ⟨n, F, ?_, f2, fun d a hd ha => ?_⟩, h.newest, h.row⟩
  · have : n + s.nw ≤ s.cost + k := f1
    show n + s.nw ≤ s.cost + (k + 1)
    omega
  · rw [f3 d a hd ha]
    show _ = Value.agg (secA (s.lay P (k + 1) d a))
    have e : s.lay P (k + 1) d a = s.lay P k d a := by
      show (if P k = true ∧ _ then _ else _) = _
      rw [hp, if_neg (fun e => by cases e.1)]
    rw [e]
    rfl
theorem RackK.layMid (h : RackK B w r m1 m2 v (s.mid P k) s.nw) (hp : P k = true) (n : Nat) (F : Nat → Nat → Option Value) (f1 : n + s.nw ≤ s.cost + k)
    (f3 : ∀ d a, d < 4611686018427387904 → a < 4611686018427387904 → (F d a).getD (.agg (secA zeros)) = .agg (secA (s.lay P k d a)))
    (hg : w.grownBy w' (some m1)) (hm : MapS w' m1 (n + 1) (putF F (s.W k).d (s.W k).a (.agg (secA (s.W k).x)))) : RackK B w' r m1 m2 v (s.mid P (k + 1)) s.nw := by
  refine ⟨h.blk.grown hg (fun e => h.ne1 (by injection e with e; exact e.symm)), h.hr, h.h1, h.h2, h.ne, ⟨n + 1, _, ?_, hm, fun d a hd ha => ?_⟩, h.newest.grown hg (fun e => h.ne (by injection e with e; exact e.symm)), h.row.1, ?_⟩
  · show n + 1 + s.nw ≤ s.cost + (k + 1)
    omega
  · show _ = Value.agg (secA (s.lay P (k + 1) d a))
    have e : s.lay P (k + 1) d a = if (s.W k).d = d ∧ (s.W k).a = a then (s.W k).x else s.lay P k d a := by
      show (if P k = true ∧ _ then _ else _) = _
      rw [hp]
      simp
    rw [e]
    unfold putF
    by_cases e1 : (s.W k).d = d ∧ (s.W k).a = a
    · rw [if_pos e1, if_pos ⟨e1.1.symm, e1.2.symm⟩]
      rfl
    · rw [if_neg e1, if_neg (fun x => e1 ⟨x.1.symm, x.2.symm⟩)]
      exact f3 d a hd ha
  · rcases h.row.2 with e | ⟨g, cap, cur, rfl, g1, g2, g3⟩
    · exact .inl e
    · exact .inr ⟨g, cap, cur, rfl, g1, (hg.block g (Array.getElem?_eq_some_iff.1 g2).1 (fun e => h.row_ne1 (by rw [← e]; rfl))).trans g2, g3⟩
theorem Keep.ofMap1 {a : World} (h : Keep B a w) (hr : RackK B w r m1 m2 v s k) (hg : w.grownBy w' (some m1)) : Keep B a w' := by
  obtain ⟨n, F, f1, f2, f3⟩ := hr.last
  exact h.ofMap f2 hg hr.h1
end
/-- 'm[p] = v' as one operation -/
theorem wp_mapPut {p : Value → Bool} {o : Oper} {ac : Act} {w : World} {K : Act → World → Prop} {Q : Exit → Act → World → Prop}
    (m x v : Operand) (t e : TypeId) (hop : o.op = Op.mapUpdate t m x v) (ht : Try.prog.underlying t = some (.map 54 e)) (b n : Nat) (F : Nat → Nat → Option Value)
    (hm : ac.eval m = .map (some b)) (h : MapFp p w b n F) (hn : n < maxLen) (d a : Nat) (hd : d < 4611686018427387904) (ha : a < 4611686018427387904) (val : Value) (hx : ac.eval x = pkey d a) (hv : ac.eval v = val) (hpv : p val = true)
    (hK : ∀ w', MapFp p w' b (n + 1) (putF F d a val) → w.grownBy w' (some b) → w'.heap.size = w.heap.size → K (ac.put o.dst undef) w') :
    o.wp Try.prog ac w K Q := by
  obtain ⟨w', hrun, r1, r2, r3⟩ := h.put ht hn hd ha val hpv
  unfold Oper.wp
  simp [execOp, hop, hm, hx, hv, hrun, Result.andThen]
  exact hK w' r1 r2 r3
def LayS (r m1 bx : Nat) (cs : Array Value) (w : World) : Prop := w.cell? ⟨r, 2, none⟩ = some (.map (some m1)) ∧ Blk w bx 59 cs
end Go.Proofs.Ytlbmeaioiiflkaa
