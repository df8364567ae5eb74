/-
  Plain arithmetic of parities: up to three columns that are missing are told by as many parities: the factors have an inverse, and what is worked out by it is what was there. Conditions: the columns are below 13, the parities below 3, each above the one ahead of it.
-/
import Derived.Test.YtlhjpceaookanaaGreatDoorFieldGaussM
import Derived.Test.YtlhjpceaookanaaGreatDoorGenRowM
import Derived.Test.YtlhjpceaookanaaGreatDoorFieldMatM
import Derived.ProofKit
import Derived.Deep.Matrix
import Derived.Laws.BytesArg
set_option linter.unusedVariables false
namespace Go.Proofs.YtlhjpceaookanaaGreatDoor.M
set_option maxRecDepth 100000

theorem xsum_swap (n m : Nat) (f : Nat → Nat → Nat) : xsum n (fun i => xsum m (fun j => f i j)) = xsum m (fun j => xsum n (fun i => f i j)) := by
  induction n with
  | zero => exact (xsum_zero m _ (fun _ _ => rfl)).symm
  | succ n ih =>
    show xsum n _ ^^^ xsum m (fun j => f n j) = _
    rw [ih, ← xsum_xor]
    rfl
/-- G undoes F on n -/
def Undo (n : Nat) (G F : Nat → Nat → Nat) : Prop := (∀ x, x < n → ∀ y, y < n → G x y < 256) ∧ ∀ x, x < n → ∀ x', x' < n → xsum n (fun y => gmul (G x y) (F y x')) = if x = x' then 1 else 0
theorem undo_zero {n : Nat} {G F : Nat → Nat → Nat} (hF : ∀ y x, F y x < 256) (h : Undo n G F) {z : Nat → Nat} (hz : ∀ x, x < n → z x < 256) (h0 : ∀ y, y < n → xsum n (fun x => gmul (F y x) (z x)) = 0) : ∀ x, x < n → z x = 0 := by
  intro x hx
  have e1 : z x = xsum n (fun x' => gmul (xsum n (fun y => gmul (G x y) (F y x'))) (z x')) := by
    rw [xsum_one n _ x hx (fun j hj hne => by rw [h.2 x hx j hj, if_neg (fun e => hne e.symm), gmul_zero_left]), h.2 x hx x hx, if_pos rfl, gmul_comm, gmul_one (hz x hx)]
  have e2 : xsum n (fun x' => gmul (xsum n (fun y => gmul (G x y) (F y x'))) (z x')) = xsum n (fun x' => xsum n (fun y => gmul (G x y) (gmul (F y x') (z x')))) := by
    refine xsum_congr fun x' hx' => ?_
    rw [gmul_comm, ← xsum_mul (hz x' hx') (fun j _ => gmul_lt _ _)]
    refine xsum_congr fun y hy => ?_
    rw [gmul_comm (z x'), gmul_assoc]
  rw [e1, e2, xsum_swap]
  refine xsum_zero n _ fun y hy => ?_
  rw [xsum_mul (h.1 x hx y hy) (fun _ _ => gmul_lt _ _), h0 y hy, gmul_zero_right]
/-- what is worked out of what is left is what was there -/
theorem mend_eq {n : Nat} {G F C : Nat → Nat → Nat} (hF : ∀ y x, F y x < 256) (h : Undo n G F) (hC : ∀ r, r < n → ∀ y, y < n → xsum n (fun x => gmul (F y x) (C r x)) = if y = r then 1 else 0) (hCl : ∀ r, r < n → ∀ x, x < n → C r x < 256)
    {d : Nat → Nat} (hd : ∀ x, x < n → d x < 256) : ∀ x, x < n → xsum n (fun r => gmul (C r x) (xsum n (fun x' => gmul (F r x') (d x')))) = d x := by
  intro x hx
  have hL : ∀ r, xsum n (fun x' => gmul (F r x') (d x')) < 256 := fun r => xsum_lt fun _ _ => gmul_lt _ _
  have hO : ∀ x, xsum n (fun r => gmul (C r x) (xsum n (fun x' => gmul (F r x') (d x')))) < 256 := fun x => xsum_lt fun _ _ => gmul_lt _ _
  have h0 := undo_zero hF h (z := fun x => xsum n (fun r => gmul (C r x) (xsum n (fun x' => gmul (F r x') (d x')))) ^^^ d x) (fun x hx => xor_lt (hO x) (hd x hx)) ?_ x hx
  · have h1 := congrArg (fun t => t ^^^ d x) h0
    simpa [Nat.xor_assoc] using h1
  intro y hy
  have e1 : xsum n (fun x => gmul (F y x) (xsum n (fun r => gmul (C r x) (xsum n (fun x' => gmul (F r x') (d x')))) ^^^ d x)) = xsum n (fun x => gmul (F y x) (xsum n (fun r => gmul (C r x) (xsum n (fun x' => gmul (F r x') (d x'))))) ^^^ gmul (F y x) (d x)) :=
    xsum_congr fun x hx => gmul_xor (hF y x) (hO x) (hd x hx)
  have e2 : xsum n (fun x => gmul (F y x) (xsum n (fun r => gmul (C r x) (xsum n (fun x' => gmul (F r x') (d x')))))) = xsum n (fun x => xsum n (fun r => gmul (xsum n (fun x' => gmul (F r x') (d x'))) (gmul (F y x) (C r x)))) := by
    refine xsum_congr fun x hx => ?_
    rw [← xsum_mul (hF y x) (fun _ _ => gmul_lt _ _)]
    refine xsum_congr fun r hr => ?_
    rw [gmul_assoc, gmul_comm]
  have e3 : xsum n (fun r => xsum n (fun x => gmul (xsum n (fun x' => gmul (F r x') (d x'))) (gmul (F y x) (C r x)))) = xsum n (fun x' => gmul (F y x') (d x')) := by
    have q : ∀ r, r < n → xsum n (fun x => gmul (xsum n (fun x' => gmul (F r x') (d x'))) (gmul (F y x) (C r x))) = gmul (xsum n (fun x' => gmul (F r x') (d x'))) (if y = r then 1 else 0) := fun r hr => by
      rw [xsum_mul (hL r) (fun _ _ => gmul_lt _ _), hC r hr y hy]
    rw [xsum_congr q, xsum_one n _ y hy (fun j hj hne => by rw [if_neg (fun e => hne e.symm), gmul_zero_right]), if_pos rfl, gmul_one (hL y)]
  rw [e1, xsum_xor, e2, xsum_swap, e3, Nat.xor_self]

theorem pw_pos' (m : Nat) : pw m ≠ 0 := by
  rw [← pw_mod]
  have := pw_pos (Nat.mod_lt m (show 255 > 0 by omega))
  omega
theorem pw_all (m : Nat) : pw m < 256 := by rw [← pw_mod]; exact pw_lt (Nat.mod_lt _ (by omega))
theorem pw_inj {m n : Nat} (hm : m < 255) (hn : n < 255) (h : pw m = pw n) : m = n := by rw [← lg_pw hm, ← lg_pw hn, h]
theorem xor_ne {a b : Nat} (h : a ≠ b) : a ^^^ b ≠ 0 := fun e => h (by have h1 := congrArg (fun t => t ^^^ b) e; simpa [Nat.xor_assoc] using h1)
theorem div_one {p D : Nat} (hD : D < 256) (h0 : D ≠ 0) (h : p = D) : gmul p (ginv D) = 1 := by rw [h]; exact gmul_ginv hD h0
/-- sums of two and three -/
theorem xsum2 (f : Nat → Nat) : xsum 2 f = f 0 ^^^ f 1 := by show (0 ^^^ f 0) ^^^ f 1 = _; rw [Nat.zero_xor]
theorem xsum3 (f : Nat → Nat) : xsum 3 f = f 0 ^^^ f 1 ^^^ f 2 := by show ((0 ^^^ f 0) ^^^ f 1) ^^^ f 2 = _; rw [Nat.zero_xor]
/-- the factors: parity j y, column l x -/
def fac (l j : Nat → Nat) (y x : Nat) : Nat := pw (l x * j y)
theorem fac_lt (l j : Nat → Nat) (y x : Nat) : fac l j y x < 256 := pw_all _

theorem undo1 (l j : Nat → Nat) : ∃ G, Undo 1 G (fac l j) := by
  refine ⟨fun _ _ => ginv (fac l j 0 0), fun _ _ _ _ => ginv_lt _, fun x hx x' hx' => ?_⟩
  obtain rfl : x = 0 := by omega
  obtain rfl : x' = 0 := by omega
  show 0 ^^^ gmul (ginv (fac l j 0 0)) (fac l j 0 0) = _
  rw [Nat.zero_xor, gmul_comm, gmul_ginv (fac_lt _ _ _ _) (pw_pos' _)]
  rfl
/-- t times i, both times the inverse of D -/
theorem scale (a b i : Nat) : gmul (gmul a i) b = gmul i (gmul a b) := by rw [gmul_comm a i, ← gmul_assoc]
theorem undo2 (l j : Nat → Nat) (hl : l 0 < l 1) (hl2 : l 1 < 13) (hj : j 0 < j 1) (hj2 : j 1 < 3) : ∃ G, Undo 2 G (fac l j) := by
  have hD : gmul (fac l j 0 0) (fac l j 1 1) ≠ gmul (fac l j 0 1) (fac l j 1 0) := by
    unfold fac
    rw [gmul_pw, gmul_pw]
    intro e
    have b1 : ∀ a b : Nat, a < 13 → b < 3 → a * b ≤ 12 * 2 := fun a b ha hb => Nat.mul_le_mul (by omega) (by omega)
    have c1 := b1 (l 0) (j 0) (by omega) (by omega)
    have c2 := b1 (l 1) (j 1) (by omega) (by omega)
    have c3 := b1 (l 1) (j 0) (by omega) (by omega)
    have c4 := b1 (l 0) (j 1) (by omega) (by omega)
    have h := pw_inj (by omega) (by omega) e
    obtain ⟨p, hp⟩ : ∃ p, l 1 = l 0 + p + 1 := ⟨l 1 - l 0 - 1, by omega⟩
    obtain ⟨q, hq⟩ : ∃ q, j 1 = j 0 + q + 1 := ⟨j 1 - j 0 - 1, by omega⟩
    rw [hp, hq] at h
    have e1 : (l 0 + p + 1) * (j 0 + q + 1) = (l 0 + p + 1) * j 0 + (l 0 * (q + 1) + (p + 1) * (q + 1)) := by
      rw [Nat.add_assoc (j 0) q 1, Nat.mul_add, Nat.add_assoc (l 0) p 1, Nat.add_mul (l 0) (p + 1) (q + 1)]
    have e2 : l 0 * (j 0 + q + 1) = l 0 * j 0 + l 0 * (q + 1) := by rw [Nat.add_assoc, Nat.mul_add]
    rw [e1, e2] at h
    have e3 : 0 < (p + 1) * (q + 1) := Nat.mul_pos (by omega) (by omega)
    omega
  obtain ⟨D, hDe⟩ : ∃ D, D = gmul (fac l j 0 0) (fac l j 1 1) ^^^ gmul (fac l j 0 1) (fac l j 1 0) := ⟨_, rfl⟩
  have hD0 : D ≠ 0 := by rw [hDe]; exact xor_ne hD
  have hDl : D < 256 := by rw [hDe]; exact xor_lt (gmul_lt _ _) (gmul_lt _ _)
  have hii := gmul_ginv hDl hD0
  have hIl := ginv_lt D
  generalize ginv D = I at *
  have hp := fac_lt l j 0 0
  have hq := fac_lt l j 0 1
  have hr := fac_lt l j 1 0
  have hs := fac_lt l j 1 1
  refine ⟨fun x y => gmul (if x = 0 then (if y = 0 then fac l j 1 1 else fac l j 0 1) else (if y = 0 then fac l j 1 0 else fac l j 0 0)) I, fun _ _ _ _ => gmul_lt _ _, fun x hx x' hx' => ?_⟩
  have hx2 : x = 0 ∨ x = 1 := by omega
  have hx2' : x' = 0 ∨ x' = 1 := by omega
  rcases hx2 with rfl | rfl <;> rcases hx2' with rfl | rfl <;> rw [xsum2]
  · show gmul (gmul (fac l j 1 1) I) (fac l j 0 0) ^^^ gmul (gmul (fac l j 0 1) I) (fac l j 1 0) = 1
    rw [scale, scale, ← gmul_xor hIl (gmul_lt _ _) (gmul_lt _ _), gmul_comm (fac l j 1 1), ← hDe, gmul_comm, hii]
  · show gmul (gmul (fac l j 1 1) I) (fac l j 0 1) ^^^ gmul (gmul (fac l j 0 1) I) (fac l j 1 1) = 0
    rw [scale, scale, gmul_comm (fac l j 1 1) (fac l j 0 1), Nat.xor_self]
  · show gmul (gmul (fac l j 1 0) I) (fac l j 0 0) ^^^ gmul (gmul (fac l j 0 0) I) (fac l j 1 0) = 0
    rw [scale, scale, gmul_comm (fac l j 1 0) (fac l j 0 0), Nat.xor_self]
  · show gmul (gmul (fac l j 1 0) I) (fac l j 0 1) ^^^ gmul (gmul (fac l j 0 0) I) (fac l j 1 1) = 1
    rw [scale, scale, ← gmul_xor hIl (gmul_lt _ _) (gmul_lt _ _), gmul_comm (fac l j 1 0), Nat.xor_comm, ← hDe, gmul_comm, hii]
theorem vieta {t u v : Nat} (ht : t < 256) (hu : u < 256) (hv : v < 256) : gmul u v ^^^ gmul (u ^^^ v) t ^^^ gmul t t = gmul (t ^^^ u) (t ^^^ v) := by
  rw [gmul_xor_left ht hu (xor_lt ht hv), gmul_xor ht ht hv, gmul_xor hu ht hv, gmul_xor_left hu hv ht, gmul_comm v t]
  generalize gmul u v = p
  generalize gmul u t = q
  generalize gmul t v = r
  generalize gmul t t = s
  rw [Nat.xor_comm (s ^^^ r) (q ^^^ p), Nat.xor_comm q p, Nat.xor_assoc p q, Nat.xor_comm s r, ← Nat.xor_assoc q r s, ← Nat.xor_assoc p (q ^^^ r) s]
def oth0 (x : Nat) : Nat := if x = 0 then 1 else 0
def oth1 (x : Nat) : Nat := if x = 2 then 1 else 2
theorem undo3 (l : Nat → Nat) (h1 : l 0 < l 1) (h2 : l 1 < l 2) (h3 : l 2 < 13) : ∃ G, Undo 3 G (fac l (fun y => y)) := by
  obtain ⟨a, ha⟩ : ∃ a : Nat → Nat, a = fun x => pw (l x) := ⟨_, rfl⟩
  have al : ∀ x, a x < 256 := fun x => by rw [ha]; exact pw_all _
  have ll : ∀ x, x < 3 → l x < 13 := fun x hx => by
    match x, hx with
    | 0, _ => omega
    | 1, _ => omega
    | 2, _ => omega
  have ne : ∀ x y, x < 3 → y < 3 → x ≠ y → a x ≠ a y := fun x y hx hy hn e => by
    rw [ha] at e
    have h := pw_inj (by have := ll x hx; omega) (by have := ll y hy; omega) e
    match x, y, hx, hy with
    | 0, 1, _, _ => omega
    | 0, 2, _, _ => omega
    | 1, 0, _, _ => omega
    | 1, 2, _, _ => omega
    | 2, 0, _, _ => omega
    | 2, 1, _, _ => omega
    | 0, 0, _, _ => exact hn rfl
    | 1, 1, _, _ => exact hn rfl
    | 2, 2, _, _ => exact hn rfl
  have f0 : ∀ x, fac l (fun y => y) 0 x = 1 := fun x => by unfold fac; rw [Nat.mul_zero, pw_zero]
  have f1 : ∀ x, fac l (fun y => y) 1 x = a x := fun x => by unfold fac; rw [Nat.mul_one, ha]
  have f2 : ∀ x, fac l (fun y => y) 2 x = gmul (a x) (a x) := fun x => by unfold fac; rw [ha, gmul_pw, Nat.mul_two]
  have o0 : ∀ x, x < 3 → oth0 x < 3 ∧ oth0 x ≠ x := fun x hx => by unfold oth0; split <;> omega
  have o1 : ∀ x, x < 3 → oth1 x < 3 ∧ oth1 x ≠ x := fun x hx => by unfold oth1; split <;> omega
  have oo : ∀ x x', x < 3 → x' < 3 → x ≠ x' → x' = oth0 x ∨ x' = oth1 x := fun x x' hx hx' hne => by unfold oth0 oth1; split <;> split <;> omega
  obtain ⟨I, hI⟩ : ∃ I : Nat → Nat, I = fun x => ginv (gmul (a x ^^^ a (oth0 x)) (a x ^^^ a (oth1 x))) := ⟨_, rfl⟩
  refine ⟨fun x y => gmul (if y = 0 then gmul (a (oth0 x)) (a (oth1 x)) else if y = 1 then a (oth0 x) ^^^ a (oth1 x) else 1) (I x), fun _ _ _ _ => gmul_lt _ _, fun x hx x' hx' => ?_⟩
  have hIl : I x < 256 := by rw [hI]; exact ginv_lt _
  have hii := gmul_ginv (gmul_lt (a x ^^^ a (oth0 x)) (a x ^^^ a (oth1 x))) (gmul_pos (xor_ne (ne x _ hx (o0 x hx).1 (o0 x hx).2.symm)) (xor_ne (ne x _ hx (o1 x hx).1 (o1 x hx).2.symm)))
  have hIe : I x = ginv (gmul (a x ^^^ a (oth0 x)) (a x ^^^ a (oth1 x))) := by rw [hI]
  rw [← hIe] at hii
  rw [xsum3]
  show gmul (gmul (gmul (a (oth0 x)) (a (oth1 x))) (I x)) (fac l (fun y => y) 0 x') ^^^ gmul (gmul (a (oth0 x) ^^^ a (oth1 x)) (I x)) (fac l (fun y => y) 1 x') ^^^ gmul (gmul 1 (I x)) (fac l (fun y => y) 2 x') = _
  rw [scale (gmul (a (oth0 x)) (a (oth1 x))) _ (I x), scale (a (oth0 x) ^^^ a (oth1 x)) _ (I x), scale 1 _ (I x), f0, f1, f2, gmul_one (gmul_lt _ _), gmul_comm 1 (gmul (a x') (a x')), gmul_one (gmul_lt (a x') (a x')), ← gmul_xor hIl (gmul_lt _ _) (gmul_lt _ _), ← gmul_xor hIl (xor_lt (gmul_lt _ _) (gmul_lt _ _)) (gmul_lt _ _), vieta (al x') (al _) (al _)]
  by_cases e : x = x'
  · subst e
    rw [if_pos rfl, gmul_comm, hii]
  · rw [if_neg e]
    rcases oo x x' hx hx' e with h | h
    · rw [h, Nat.xor_self, gmul_zero_left, gmul_zero_right]
    · rw [h, Nat.xor_self, gmul_zero_right, gmul_zero_right]
/-- the factors of up to three columns that are missing have an inverse -/
theorem undo_all {n : Nat} (hn : n ≤ 3) (l j : Nat → Nat) (hl : ∀ x y, x < y → y < n → l x < l y) (hl2 : ∀ x, x < n → l x < 13) (hj : ∀ x y, x < y → y < n → j x < j y) (hj2 : ∀ x, x < n → j x < 3) : ∃ G, Undo n G (fac l j) := by
  match n, hn with
  | 0, _ => exact ⟨fun _ _ => 0, fun x hx => absurd hx (by omega), fun x hx => absurd hx (by omega)⟩
  | 1, _ => exact undo1 l j
  | 2, _ => exact undo2 l j (hl 0 1 (by omega) (by omega)) (hl2 1 (by omega)) (hj 0 1 (by omega) (by omega)) (hj2 1 (by omega))
  | 3, _ =>
    have a1 := hj 0 1 (by omega) (by omega)
    have a2 := hj 1 2 (by omega) (by omega)
    have a3 := hj2 2 (by omega)
    obtain ⟨G, hG⟩ := undo3 l (hl 0 1 (by omega) (by omega)) (hl 1 2 (by omega) (by omega)) (hl2 2 (by omega))
    refine ⟨G, hG.1, fun x hx x' hx' => ?_⟩
    rw [← hG.2 x hx x' hx']
    refine xsum_congr fun y hy => ?_
    have e : j y = y := by
      match y, hy with
      | 0, _ => omega
      | 1, _ => omega
      | 2, _ => omega
    unfold fac
    rw [e]
end Go.Proofs.YtlhjpceaookanaaGreatDoor.M
namespace Go.Proofs.YtlhjpceaookanaaGreatDoor
open Go.RowKit Go.ChangeShapes Go.WideShapes Go.ChangeAt
set_option maxRecDepth 100000
set_option linter.unusedVariables false

section
variable {H : Type} {enc : TypeId × Value → H} {P : Program} {W : World} {base : Nat} {held : Bool}
theorem rdr_of_trod {t e q : TypeId} {fuel len cap : Nat} {a : Option Addr} {x : DataW H × List MemPlace} (ht : P.underlying t = some (.slice e)) (he : P.underlying e = some (.slice q)) (hq : P.underlying q = some (.int .u8))
    (ce : P.cellsOf e = 1) (cq : P.cellsOf q = 1)
    (h : DataW.trod enc P W base (fun _ => true) held fuel t (Value.slice a len cap).cells.toList = some x) :
    ∃ ra rl rc y, RdR W W.heap.size a len ra rl rc y ∧ len ≤ cap ∧ cap ≤ maxLen ∧ ∀ i, i < len → rl i ≤ rc i ∧ rc i ≤ maxLen := by
  rcases Go.Deep.open_int_rows ht he hq ce cq h with ⟨hcs, _⟩ | ⟨x, l, c, A, L, C, Z, hcs, _, hl, hm, _, hall⟩
  · simp [Value.cells] at hcs
    obtain ⟨rfl, rfl, rfl⟩ := hcs
    exact ⟨fun _ => none, fun _ => 0, fun _ => 0, fun _ _ => 0, fun j hj => absurd hj (by omega), by omega, by omega, fun i hi => absurd hi (by omega)⟩
  · simp [Value.cells] at hcs
    obtain ⟨rfl, rfl, rfl⟩ := hcs
    refine ⟨A, L, C, fun i j => ((Z i).getD j 0).toNat, ?_, hl, hm, fun i hi => ⟨(hall i (by omega)).2.1, (hall i (by omega)).2.2.1⟩⟩
    intro i hi
    obtain ⟨b, o, sp⟩ := x
    obtain ⟨h0, h1, h2, h3, h4, h5, h6⟩ := hall i (by omega)
    have hsp : sp = none := by
      have h1 := (hall 0 (by omega)).1
      have h2 := World.cell?_spot h1
      simpa [Addr.add] using h2
    subst hsp
    rw [add_plain] at h0
    refine ⟨b, o, rfl, block_lt_of_cell h0, h0, ?_⟩
    cases hA : A i with
    | none =>
      have := h5 hA
      exact fun j hj => absurd hj (by omega)
    | some a' =>
      exact rdb_of_cells (by omega) (fun c hc => (h6 a' hA).2 c (by omega)) h4
end

/-- The text of n bytes. -/
def txt (n : Nat) (x : Nat → Nat) : ByteArray := strOfNums ((List.range n).map fun j => ((x j : Nat) : Int))
theorem txt_congr {n : Nat} {x y : Nat → Nat} (h : ∀ j, j < n → x j = y j) : txt n x = txt n y := by
  unfold txt
  congr 1
  apply List.map_congr_left
  intro j hj
  rw [h j (by simpa using hj)]
theorem convert_rd {w : World} {B : Nat} {A : Option Addr} {n cap : Nat} {x : Nat → Nat} (h : RdB w B A n x) (h1 : 1 ≤ n) :
    (convert 36 9 (.slice A n cap)).run Tryz.prog w = .ok (.string (txt n x)) w := by
  obtain ⟨b, o, rfl, _⟩ := h 0 (by omega)
  refine run_convert_bytes_arg w 36 5 Tryz.underlying36 Tryz.underlying5 b o n cap _ (by simp) (fun i hi => ?_) _ Tryz.underlying9
  obtain ⟨b', o', e, _, h3, _⟩ := h i hi
  injection e with e
  injection e with e1 e2
  subst e1; subst e2
  rw [h3]
  simp [List.getD, hi]
theorem Fld.ne_u8 {w : World} {b g : Nat} {cs : Array Value} (h : Fld w b) (hg : Blk w g 5 cs) : g ≠ b := by
  rcases h with h | h
  · exact Blk.ne_ hg h (by decide)
  · exact Blk.ne_ hg h (by decide)
end Go.Proofs.YtlhjpceaookanaaGreatDoor
