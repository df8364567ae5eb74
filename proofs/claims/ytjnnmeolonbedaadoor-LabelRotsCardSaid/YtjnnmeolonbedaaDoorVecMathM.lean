/-
  What comes in as a label's record. No conditions beyond those that each theorem types.
-/
import Derived.Test.YtjnnmeolonbedaaDoorLabEncM
import Derived.Lib.SmallJoins
import Derived.ChangeArms
import Derived.WideShapes
import Derived.Test.YtjnnmeolonbedaaDoorPackDec
import Derived.ProofKit
import Derived.Deep.Slices
import Derived.Deep.Strs
import Derived.Deep.Fields
import Derived.Test.YtjnnmeolonbedaaDoorShaMathM
namespace Go.Proofs.YtjnnmeolonbedaaDoor
open Go Go.RowKit Go.ChangeShapes Go.WideShapes Go.Joins
set_option maxRecDepth 100000
set_option linter.unusedVariables false
namespace Lab
theorem wf_ends {a : Int} (h : (Lit.int .i64 a).wf = true) : -9223372036854775808 ≤ a ∧ a ≤ 9223372036854775807 := by
  simp only [Lit.wf, Bool.and_eq_true, decide_eq_true_eq] at h
  exact h
theorem array5 {α : Type} {cs : Array α} (h : cs.size = 5) : ∃ c0 c1 c2 c3 c4, cs = #[c0, c1, c2, c3, c4] := by
  obtain ⟨l⟩ := cs
  match l, h with
  | [c0, c1, c2, c3, c4], _ => exact ⟨c0, c1, c2, c3, c4, rfl⟩
section
variable {H : Type} {enc : TypeId × Value → H} {w : World} {base : Nat} {spare : Nat → Bool} {held : Bool}
theorem open_boolL {r : Reach} {b0 : Nat} {v : Value} {d : DataW H} {ps : List MemPlace} {P : Program} {t : TypeId} (ht : P.underlying t = some .bool) (hval : Value.okWide P w r b0 t v) (hd : DataW.Trod enc P w base spare held t v d ps) :
    ∃ n, v = .bool n ∧ d = .lit (.bool n) ∧ ps = [] := by
  obtain ⟨n, rfl⟩ := okWide_bool ht hval
  obtain ⟨fuel, hf⟩ := hd
  obtain ⟨m, h1, h2⟩ := DataW.trod_bool ht hf
  simp only [Value.cells] at h1
  have e : n = m := by simpa using h1
  subst e
  exact ⟨n, rfl, congrArg Prod.fst h2, congrArg Prod.snd h2⟩
theorem ptr_of_trod {fuel : Nat} {c0 c1 c2 c3 : Value} {y : DataW H × List MemPlace} (h : DataW.trod enc Tryd.prog w base spare held fuel 23 [c0, c1, c2, c3] = some y) : ∃ p : K.Pt, #[c0, c1, c2, c3] = ptA p ∧ K.FitP p := by
  obtain ⟨y0, y1, y2, y3, n, _, _, h0, h1, h2, h3⟩ := trod_struct4 Tryd.underlying23 h
  have k0 : Tryd.prog.cellsOf 3 = 1 := by kernel_rfl
  have k1 : Tryd.prog.cellsOf 9 = 1 := by kernel_rfl
  simp only [k0, k1, List.drop_zero, List.drop_succ_cons, List.take_succ_cons, List.take_zero] at h0 h1 h2 h3
  obtain ⟨a, e0, _, w0⟩ := DataW.trod_int Tryd.underlying3 h0
  obtain ⟨z, e1, _, w1⟩ := DataW.trod_int Tryd.underlying3 h1
  obtain ⟨b, e2, _, w2⟩ := DataW.trod_int Tryd.underlying3 h2
  obtain ⟨s, e3, _, w3⟩ := DataW.trod_string Tryd.underlying9 h3
  injection e0 with e0 _
  injection e1 with e1 _
  injection e2 with e2 _
  injection e3 with e3 _
  subst e0 e1 e2 e3
  exact ⟨⟨a, z, b, s⟩, rfl, wf_ends w0, wf_ends w1, wf_ends w2, w3⟩
theorem uber_of_trod {r : Reach} {b0 : Nat} {v : Value} {d : DataW H} {p : List MemPlace} (hv : Value.okWide Tryd.prog w r b0 25 v) (h : DataW.Trod enc Tryd.prog w base spare held 25 v d p) : ∃ u : U, v = .agg (uA u) ∧ FitU u := by
  obtain ⟨cs, rfl, hsz⟩ := okWide_struct Tryd.underlying25 hv
  obtain ⟨c0, c1, c2, c3, c4, rfl⟩ := array5 (hsz.trans (by kernel_rfl))
  obtain ⟨fuel, hf⟩ := h
  obtain ⟨y0, y1, n, _, _, h0, h1⟩ := trod_struct2 Tryd.underlying25 hf
  have k0 : Tryd.prog.cellsOf 3 = 1 := by kernel_rfl
  have k1 : Tryd.prog.cellsOf 23 = 4 := by kernel_rfl
  simp only [k0, k1, Value.cells, List.drop_zero, List.drop_succ_cons, List.take_succ_cons, List.take_zero] at h0 h1
  obtain ⟨t, e0, _, w0⟩ := DataW.trod_int Tryd.underlying3 h0
  obtain ⟨q, e1, hq⟩ := ptr_of_trod h1
  injection e0 with e0 _
  subst e0
  obtain ⟨a, z, b, s⟩ := q
  unfold ptA at e1
  injection e1 with e1
  injection e1 with q0 e1
  injection e1 with q1 e1
  injection e1 with q2 e1
  injection e1 with q3 e1
  subst q0 q1 q2 q3
  exact ⟨⟨t, ⟨a, z, b, s⟩⟩, rfl, wf_ends w0, hq⟩
end
end Lab
end Go.Proofs.YtjnnmeolonbedaaDoor
namespace Go.Proofs.YtjnnmeolonbedaaDoor
set_option maxRecDepth 100000
open Go Go.RowKit Go.ChangeShapes Go.WideShapes Go.ChangeAt
set_option linter.unusedVariables false

theorem rdb_list {w : World} {B n : Nat} {A : Option Addr} {x : Nat → Nat} (h : RdB w B A n x) : ∃ L : List Nat, n = L.length ∧ RdB w B A L.length (lst L) ∧ ∀ b ∈ L, b < 256 := by
  refine ⟨(List.range n).map x, by simp, ?_, ?_⟩
  · rw [show ((List.range n).map x).length = n by simp]
    intro j hj
    obtain ⟨b, o, h1, h2, h3, h4⟩ := h j hj
    have e : lst ((List.range n).map x) j = x j := by unfold lst; simp [List.getD_eq_getElem?_getD, hj]
    exact ⟨b, o, h1, h2, by rw [e]; exact h3, by rw [e]; exact h4⟩
  · intro b hb
    simp only [List.mem_map, List.mem_range] at hb
    obtain ⟨j, hj, rfl⟩ := hb
    obtain ⟨_, _, _, _, _, h4⟩ := h j hj
    exact h4
section
variable {H : Type} {enc : TypeId × Value → H} {P : Program} {W : World} {base : Nat} {held : Bool}
theorem items_of_trod {t e : TypeId} {f0 f1 f2 : Field} {fuel len cap : Nat} {a : Option Addr} {x : DataW H × List MemPlace} (ht : P.underlying t = some (.slice e)) (he : P.underlying e = some (.struct #[f0, f1, f2]))
    (hone : Go.Deep.oneCellFields P #[f0, f1, f2] = true) (hC : P.cellsOf e = 3) (u0 : P.underlying f0.type = some (.int .i64)) (u1 : P.underlying f1.type = some (.int .i64)) (u2 : P.underlying f2.type = some .string)
    (h : DataW.trod enc P W base (fun _ => true) held fuel t (Value.slice a len cap).cells.toList = some x) :
    ∃ l : List K.It, len = l.length ∧ RdT W W.heap.size a l ∧ (∀ y ∈ l, Good y) ∧ l.length ≤ cap ∧ cap ≤ maxLen ∧ (a = none → cap = 0) := by
  rcases Go.Deep.open_slice ht h with ⟨hcs, _⟩ | ⟨ad, l, c, m, n, D, Pl, hcs, _, hl, hm, hmm, _, hx⟩
  · simp [Value.cells] at hcs
    obtain ⟨rfl, rfl, rfl⟩ := hcs
    exact ⟨[], rfl, fun j y hj => by simp at hj, fun y hy => by simp at hy, by simp, by unfold maxLen; omega, fun _ => rfl⟩
  · simp [Value.cells] at hcs
    obtain ⟨rfl, rfl, rfl⟩ := hcs
    obtain ⟨o0, k0⟩ := Go.Deep.hone_of hone 0 f0 rfl
    obtain ⟨o1, k1⟩ := Go.Deep.hone_of hone 1 f1 rfl
    obtain ⟨o2, k2⟩ := Go.Deep.hone_of hone 2 f2 rfl
    simp at hmm
    have each : ∀ i, ∃ y : K.It, i < m → W.cell? (ad.add (i * 3)) = some (.int .i64 y.k) ∧ W.cell? (ad.add (i * 3 + 1)) = some (.int .i64 y.n) ∧ W.cell? (ad.add (i * 3 + 2)) = some (.string y.s) ∧ Good y := by
      intro i
      by_cases hi : i < m
      · obtain ⟨cs', h1, h2⟩ := hx i hi
        rw [hC] at h1
        obtain ⟨_, hlen, hcell⟩ := World.cells?_some h1
        obtain ⟨y0, y1, y2, n', _, _, g0, g1, g2⟩ := Go.Deep.trod_struct3 he h2
        match cs', hlen with
        | [v0, v1, v2], _ =>
          simp [o0, o1, o2, k0, k1, k2] at g0 g1 g2
          obtain ⟨z0, q0, _, r0⟩ := DataW.trod_int u0 g0
          obtain ⟨z1, q1, _, r1⟩ := DataW.trod_int u1 g1
          obtain ⟨z2, q2, _, r2⟩ := DataW.trod_string u2 g2
          simp at q0 q1 q2
          subst q0; subst q1; subst q2
          have e0 := hcell 0 (by omega)
          have e1 := hcell 1 (by omega)
          have e2 := hcell 2 (by omega)
          rw [Go.Deep.add_add] at e0 e1 e2
          have hb := bounds_i64 r1
          exact ⟨⟨z0, z1, z2⟩, fun _ => ⟨by simpa using e0, by simpa using e1, by simpa using e2, ⟨⟨by show -9223372036854775808 ≤ z1; omega, by show z1 ≤ 9223372036854775807; omega⟩, r2⟩⟩⟩
      · exact ⟨⟨0, 0, ⟨#[]⟩⟩, fun h => absurd h hi⟩
    obtain ⟨f, hf⟩ := Classical.skolem.1 each
    refine ⟨(List.range len).map f, by simp, ?_, ?_, by simpa using hl, hm, fun e => by cases e⟩
    · intro j y hj
      have hjl : j < len := by have := (List.getElem?_eq_some_iff.1 hj).1; simpa using this
      have e : f j = y := by simpa [hjl] using hj
      obtain ⟨c0, c1, c2, _⟩ := hf j (by omega)
      rw [e] at c0 c1 c2
      obtain ⟨b, o, sp⟩ := ad
      have hsp : sp = none := by
        have h2 := World.cell?_spot (hf 0 (by omega)).1
        simpa [Addr.add] using h2
      subst hsp
      rw [add_plain] at c0 c1 c2
      exact ⟨b, o, rfl, block_lt_of_cell c0, c0, by rw [Nat.add_assoc]; exact c1, by rw [Nat.add_assoc]; exact c2⟩
    · intro y hy
      simp only [List.mem_map, List.mem_range] at hy
      obtain ⟨j, hj, rfl⟩ := hy
      exact (hf j (by omega)).2.2.2
end
end Go.Proofs.YtjnnmeolonbedaaDoor
namespace Go.Proofs.YtjnnmeolonbedaaDoor.V
set_option maxRecDepth 100000
set_option linter.unusedVariables false
/-- n numbers side by side, 64 bits for each -/
def pk (f : Nat → Nat) : Nat → Nat
  | 0 => 0
  | n + 1 => pk f n + f n * 2 ^ (64 * n)
theorem pk_congr {f g : Nat → Nat} : ∀ {n}, (∀ i, i < n → f i = g i) → pk f n = pk g n
  | 0, _ => rfl
  | n + 1, h => by
    unfold pk
    rw [pk_congr fun i hi => h i (by omega), h n (by omega)]
theorem pk_bit {f : Nat → Nat} : ∀ {n}, (∀ i, i < n → f i < 2 ^ 64) → ∀ j, (pk f n).testBit j = (decide (j < 64 * n) && (f (j / 64)).testBit (j % 64)) ∧ pk f n < 2 ^ (64 * n)
  | 0, _, j => by
    refine ⟨?_, by show 0 < 2 ^ 0; omega⟩
    show Nat.testBit 0 j = _
    simp
  | n + 1, h, j => by
    have ih := pk_bit (n := n) (fun i hi => h i (by omega)) j
    have hn := h n (by omega)
    have e : pk f (n + 1) = 2 ^ (64 * n) * f n + pk f n := by rw [show pk f (n + 1) = pk f n + f n * 2 ^ (64 * n) from rfl, Nat.mul_comm, Nat.add_comm]
    refine ⟨?_, ?_⟩
    · rw [e, Nat.testBit_two_pow_mul_add _ ih.2]
      by_cases hj : j < 64 * n
      · rw [if_pos hj, ih.1, decide_eq_true hj, decide_eq_true (show j < 64 * (n + 1) by omega)]
      · rw [if_neg hj]
        by_cases hj2 : j < 64 * (n + 1)
        · rw [decide_eq_true hj2, show j / 64 = n by omega, show j % 64 = j - 64 * n by omega]
          rfl
        · rw [decide_eq_false hj2, Nat.testBit_lt_two_pow (Nat.lt_of_lt_of_le hn (Nat.pow_le_pow_right (by omega) (by omega)))]
          rfl
    · rw [e, show 64 * (n + 1) = 64 * n + 64 by omega, Nat.pow_add]
      have h1 : 2 ^ (64 * n) * f n + 2 ^ (64 * n) ≤ 2 ^ (64 * n) * 2 ^ 64 := by
        rw [← Nat.mul_succ]
        exact Nat.mul_le_mul_left _ hn
      have := ih.2
      omega
/-- the numbers side by side, each below B -/
structure R (n B : Nat) (X : Nat) (f : Nat → Nat) : Prop where
  eq : X = pk f n
  lt : ∀ i, i < n → f i < B
theorem R.bit {n B X : Nat} {f : Nat → Nat} (h : R n B X f) (hB : B ≤ 2 ^ 64) (j : Nat) : X.testBit j = (decide (j < 64 * n) && (f (j / 64)).testBit (j % 64)) := by
  rw [h.eq]
  exact (pk_bit (fun i hi => Nat.lt_of_lt_of_le (h.lt i hi) hB) j).1
theorem R.of_bit {n B X : Nat} {f : Nat → Nat} (hB : B ≤ 2 ^ 64) (hl : ∀ i, i < n → f i < B) (h : ∀ j, X.testBit j = (decide (j < 64 * n) && (f (j / 64)).testBit (j % 64))) : R n B X f :=
  ⟨Nat.eq_of_testBit_eq fun j => by rw [h j, (pk_bit (fun i hi => Nat.lt_of_lt_of_le (hl i hi) hB) j).1], hl⟩
theorem R.inj {n B X : Nat} {f g : Nat → Nat} (hB : B ≤ 2 ^ 64) (h : R n B X f) (h' : R n B X g) (i : Nat) (hi : i < n) : f i = g i := by
  refine Nat.eq_of_testBit_eq fun k => ?_
  by_cases hk : k < 64
  · have e1 := h.bit hB (64 * i + k)
    have e2 := h'.bit hB (64 * i + k)
    rw [decide_eq_true (show 64 * i + k < 64 * n by omega), show (64 * i + k) / 64 = i by omega, show (64 * i + k) % 64 = k by omega, Bool.true_and] at e1 e2
    rw [← e1, e2]
  · have e : ∀ x, x < B → Nat.testBit x k = false := fun x hx => Nat.testBit_lt_two_pow (Nat.lt_of_lt_of_le hx (Nat.le_trans hB (Nat.pow_le_pow_right (by omega) (by omega))))
    rw [e _ (h.lt i hi), e _ (h'.lt i hi)]
theorem R.congr {n B X : Nat} {f g : Nat → Nat} (h : R n B X f) (e : ∀ i, i < n → f i = g i) : R n B X g := ⟨by rw [h.eq]; exact pk_congr e, fun i hi => by rw [← e i hi]; exact h.lt i hi⟩
theorem R.mono {n B C X : Nat} {f : Nat → Nat} (h : R n B X f) (e : B ≤ C) : R n C X f := ⟨h.eq, fun i hi => Nat.lt_of_lt_of_le (h.lt i hi) e⟩
theorem R.add {n A B X Y : Nat} {f g : Nat → Nat} (h : R n A X f) (h' : R n B Y g) : R n (A + B) (X + Y) (fun i => f i + g i) := by
  refine ⟨?_, fun i hi => by have := h.lt i hi; have := h'.lt i hi; show f i + g i < A + B; omega⟩
  rw [h.eq, h'.eq]
  have key : ∀ m, pk f m + pk g m = pk (fun i => f i + g i) m := fun m => by
    induction m with
    | zero => rfl
    | succ m ih =>
      unfold pk
      rw [← ih, Nat.add_mul]
      omega
  exact key n
theorem R.shl {n A X : Nat} {f : Nat → Nat} (r : Nat) (h : R n A X f) (hA : 0 < A) : R n (A * 2 ^ r) (X <<< r) (fun i => f i <<< r) := by
  refine ⟨?_, fun i hi => by
    show f i <<< r < _
    rw [Nat.shiftLeft_eq]
    exact Nat.mul_lt_mul_of_pos_right (h.lt i hi) (Nat.two_pow_pos r)⟩
  rw [h.eq, Nat.shiftLeft_eq]
  have key : ∀ m, pk f m * 2 ^ r = pk (fun i => f i <<< r) m := fun m => by
    induction m with
    | zero => exact Nat.zero_mul _
    | succ m ih =>
      unfold pk
      rw [← ih, Nat.add_mul, Nat.shiftLeft_eq, Nat.mul_assoc, Nat.mul_assoc, Nat.mul_comm (2 ^ (64 * m))]
  exact key n
theorem R.and {n A B X Y : Nat} {f g : Nat → Nat} (h : R n A X f) (hA : A ≤ 2 ^ 64) (h' : R n B Y g) (hB : B ≤ 2 ^ 64) : R n A (X &&& Y) (fun i => f i &&& g i) :=
  R.of_bit hA (fun i hi => Nat.lt_of_le_of_lt Nat.and_le_left (h.lt i hi)) fun j => by
    rw [Nat.testBit_and, h.bit hA, h'.bit hB, Nat.testBit_and]
    cases decide (j < 64 * n) <;> simp
theorem R.and' {n A B X Y : Nat} {f g : Nat → Nat} (h : R n A X f) (hA : A ≤ 2 ^ 64) (h' : R n B Y g) (hB : B ≤ 2 ^ 64) : R n B (X &&& Y) (fun i => f i &&& g i) :=
  ⟨(h.and hA h' hB).eq, fun i hi => Nat.lt_of_le_of_lt Nat.and_le_right (h'.lt i hi)⟩
abbrev W : Nat := 4294967296
theorem R.xor {n X Y : Nat} {f g : Nat → Nat} (h : R n W X f) (h' : R n W Y g) : R n W (X ^^^ Y) (fun i => f i ^^^ g i) :=
  R.of_bit (by decide) (fun i hi => M.x32 (h.lt i hi) (h'.lt i hi)) fun j => by
    rw [Nat.testBit_xor, h.bit (by decide), h'.bit (by decide), Nat.testBit_xor]
    cases decide (j < 64 * n) <;> simp
theorem R.or {n X Y : Nat} {f g : Nat → Nat} (h : R n W X f) (h' : R n W Y g) : R n W (X ||| Y) (fun i => f i ||| g i) :=
  R.of_bit (by decide) (fun i hi => M.o32 (h.lt i hi) (h'.lt i hi)) fun j => by
    rw [Nat.testBit_or, h.bit (by decide), h'.bit (by decide), Nat.testBit_or]
    cases decide (j < 64 * n) <;> simp
/-- one number for all -/
theorem R.all {n O : Nat} (h : R n 2 O fun _ => 1) (k : Nat) (B : Nat) (hk : k < B) : R n B (k * O) (fun _ => k) := by
  refine ⟨?_, fun _ _ => hk⟩
  rw [h.eq]
  have key : ∀ m, k * pk (fun _ => 1) m = pk (fun _ => k) m := fun m => by
    induction m with
    | zero => rfl
    | succ m ih =>
      unfold pk
      rw [← ih, Nat.mul_add, Nat.one_mul]
  exact key n
/-- the low 32 bits -/
theorem R.low {n B X E : Nat} {f : Nat → Nat} (h : R n B X f) (hB : B ≤ 2 ^ 64) (hE : R n W E fun _ => 4294967295) : R n W (X &&& E) (fun i => f i % W) :=
  (h.and' hB hE (by decide)).congr fun i _ => Nat.and_two_pow_sub_one_eq_mod (f i) 32
theorem R.shr {n X E : Nat} {f : Nat → Nat} (r : Nat) (hr : r ≤ 32) (h : R n W X f) (hE : R n W E fun _ => 4294967295) : R n W ((X >>> r) &&& E) (fun i => f i >>> r) :=
  R.of_bit (by decide) (fun i hi => Nat.lt_of_le_of_lt (M.shr_le _ _) (h.lt i hi)) fun j => by
    rw [Nat.testBit_and, Nat.testBit_shiftRight, h.bit (by decide), hE.bit (by decide), Nat.testBit_shiftRight, show (4294967295 : Nat) = 2 ^ 32 - 1 by decide, Nat.testBit_two_pow_sub_one]
    by_cases hj : j < 64 * n
    · by_cases h32 : j % 64 < 32
      · rw [decide_eq_true hj, decide_eq_true h32, decide_eq_true (show r + j < 64 * n by omega), show (r + j) / 64 = j / 64 by omega, show (r + j) % 64 = r + j % 64 by omega]
        simp
      · rw [decide_eq_false h32, Nat.testBit_lt_two_pow (Nat.lt_of_lt_of_le (h.lt (j / 64) (by omega)) (show (2 : Nat) ^ 32 ≤ 2 ^ (r + j % 64) from Nat.pow_le_pow_right (by omega) (by omega)))]
        simp
    · rw [decide_eq_false hj]
      simp
section
variable {n E : Nat} (hE : R n W E fun _ => 4294967295)
include hE
def ror (E x r : Nat) : Nat := ((x <<< (32 - r)) &&& E) ||| ((x >>> r) &&& E)
theorem R.ror {x : Nat} {f : Nat → Nat} (h : R n W x f) (r : Nat) (hr : r ≤ 32) : R n W (V.ror E x r) (fun i => M.ror (f i) r) :=
  ((h.shl (32 - r) (by decide)).low (by
    have : 2 ^ (32 - r) ≤ 2 ^ 32 := Nat.pow_le_pow_right (by omega) (by omega)
    have : W * 2 ^ (32 - r) ≤ W * 2 ^ 32 := Nat.mul_le_mul_left _ this
    exact this) hE).or (h.shr r hr hE)
def q0 (E x : Nat) : Nat := (ror E x 7 ^^^ ror E x 18) ^^^ ((x >>> 3) &&& E)
def q1 (E x : Nat) : Nat := (ror E x 17 ^^^ ror E x 19) ^^^ ((x >>> 10) &&& E)
def p0 (E x : Nat) : Nat := (ror E x 2 ^^^ ror E x 13) ^^^ ror E x 22
def p1 (E x : Nat) : Nat := (ror E x 6 ^^^ ror E x 11) ^^^ ror E x 25
theorem R.q0 {x : Nat} {f : Nat → Nat} (h : R n W x f) : R n W (V.q0 E x) (fun i => M.q0 (f i)) := ((R.ror hE h 7 (by decide)).xor (R.ror hE h 18 (by decide))).xor (h.shr 3 (by decide) hE)
theorem R.q1 {x : Nat} {f : Nat → Nat} (h : R n W x f) : R n W (V.q1 E x) (fun i => M.q1 (f i)) := ((R.ror hE h 17 (by decide)).xor (R.ror hE h 19 (by decide))).xor (h.shr 10 (by decide) hE)
theorem R.p0 {x : Nat} {f : Nat → Nat} (h : R n W x f) : R n W (V.p0 E x) (fun i => M.p0 (f i)) := ((R.ror hE h 2 (by decide)).xor (R.ror hE h 13 (by decide))).xor (R.ror hE h 22 (by decide))
theorem R.p1 {x : Nat} {f : Nat → Nat} (h : R n W x f) : R n W (V.p1 E x) (fun i => M.p1 (f i)) := ((R.ror hE h 6 (by decide)).xor (R.ror hE h 11 (by decide))).xor (R.ror hE h 25 (by decide))
def ch (E e f g : Nat) : Nat := (e &&& f) ^^^ ((E ^^^ e) &&& g)
def maj (a b c : Nat) : Nat := ((a &&& b) ^^^ (a &&& c)) ^^^ (b &&& c)
theorem R.ch {x y z : Nat} {e f g : Nat → Nat} (h : R n W x e) (h' : R n W y f) (h'' : R n W z g) : R n W (V.ch E x y z) (fun i => M.ch (e i) (f i) (g i)) :=
  (h.and (by decide) h' (by decide)).xor ((hE.xor h).and (by decide) h'' (by decide))
omit hE in
theorem R.maj {x y z : Nat} {e f g : Nat → Nat} (h : R n W x e) (h' : R n W y f) (h'' : R n W z g) : R n W (V.maj x y z) (fun i => M.maj (e i) (f i) (g i)) :=
  ((h.and (by decide) h' (by decide)).xor (h.and (by decide) h'' (by decide))).xor (h'.and (by decide) h'' (by decide))
/-! ### the numbers of a block -/
def wnew (E x k : Nat) (l : List Nat) : Nat := if k < 16 then x else ((l.getD 15 0 + q0 E (l.getD 14 0)) + l.getD 6 0 + q1 E (l.getD 1 0)) &&& E
def wl (E : Nat) (x : Nat → Nat) (k : Nat) : List Nat := Nat.rec [] (fun k l => M.force (wnew E (x k) k l) fun y => y :: l) k
omit hE in
theorem wl_succ (E : Nat) (x : Nat → Nat) (k : Nat) : wl E x (k + 1) = wnew E (x k) k (wl E x k) :: wl E x k := by
  show M.force (wnew E (x k) k (wl E x k)) (fun y => y :: wl E x k) = _
  rw [M.force_eq]
theorem R.wl {x : Nat → Nat} {X : Nat → Nat → Nat} (hx : ∀ t, t < 16 → R n W (x t) fun i => M.num (X i) (4 * t)) : ∀ k, (V.wl E x k).length = k ∧ ∀ j, j < k → R n W ((V.wl E x k).getD j 0) fun i => (M.wl (X i) k).getD j 0
  | 0 => ⟨rfl, fun j h => absurd h (Nat.not_lt_zero _)⟩
  | k + 1 => by
    obtain ⟨h1, h2⟩ := R.wl hx k
    rw [wl_succ]
    refine ⟨by rw [List.length_cons, h1], fun j hj => ?_⟩
    match j with
    | j + 1 => exact h2 j (by omega)
    | 0 =>
      show R n W (V.wnew E (x k) k (V.wl E x k)) fun i => M.wnew (M.num (X i) (4 * k)) k (M.wl (X i) k)
      by_cases hk : k < 16
      · have e1 : V.wnew E (x k) k (V.wl E x k) = x k := if_pos hk
        rw [e1]
        exact (hx k hk).congr fun i _ => by
          show _ = M.wnew _ _ _
          unfold M.wnew
          rw [if_pos hk]
      · have e1 : V.wnew E (x k) k (V.wl E x k) = (((V.wl E x k).getD 15 0 + V.q0 E ((V.wl E x k).getD 14 0)) + (V.wl E x k).getD 6 0 + V.q1 E ((V.wl E x k).getD 1 0)) &&& E := if_neg hk
        rw [e1]
        refine (((((h2 15 (by omega)).add (R.q0 hE (h2 14 (by omega)))).add (h2 6 (by omega))).add (R.q1 hE (h2 1 (by omega)))).low (by decide) hE).congr fun i _ => ?_
        show _ = M.wnew _ _ _
        unfold M.wnew
        rw [if_neg hk]
/-! ### eight numbers -/
structure RS (n : Nat) (s : M.S8) (F : Nat → M.S8) : Prop where
  a : R n W s.a fun i => (F i).a
  b : R n W s.b fun i => (F i).b
  c : R n W s.c fun i => (F i).c
  d : R n W s.d fun i => (F i).d
  e : R n W s.e fun i => (F i).e
  f : R n W s.f fun i => (F i).f
  g : R n W s.g fun i => (F i).g
  h : R n W s.h fun i => (F i).h
def t1 (E : Nat) (s : M.S8) (k w : Nat) : Nat := ((((s.h + p1 E s.e) + ch E s.e s.f s.g) + k) + w) &&& E
def t2 (E : Nat) (s : M.S8) : Nat := (p0 E s.a + maj s.a s.b s.c) &&& E
def rnd (E : Nat) (s : M.S8) (k w : Nat) : M.S8 := M.force (t1 E s k w) fun t => M.force ((t + t2 E s) &&& E) fun x => M.force ((s.d + t) &&& E) fun y => ⟨x, s.a, s.b, s.c, y, s.e, s.f, s.g⟩
theorem RS.rnd {s : M.S8} {f : Nat → M.S8} (h : RS n s f) {k w : Nat} {kf wf : Nat → Nat} (hk : R n W k kf) (hw : R n W w wf) : RS n (V.rnd E s k w) fun i => M.rnd (f i) (kf i) (wf i) := by
  have h1 : R n W (V.t1 E s k w) fun i => M.t1 (f i) (kf i) (wf i) := ((((h.h.add (R.p1 hE h.e)).add (R.ch hE h.e h.f h.g)).add hk).add hw).low (by decide) hE
  have h2 : R n W (V.t2 E s) fun i => M.t2 (f i) := ((R.p0 hE h.a).add (h.a.maj h.b h.c)).low (by decide) hE
  unfold V.rnd
  rw [M.force_eq, M.force_eq, M.force_eq]
  exact ⟨(h1.add h2).low (by decide) hE, h.a, h.b, h.c, (h.d.add h1).low (by decide) hE, h.e, h.f, h.g⟩
def rounds (E O : Nat) : M.S8 → List Nat → List Nat → M.S8
  | s, k :: ks, w :: ws => rounds E O (rnd E s (M.force (k * O) fun x => x) w) ks ws
  | s, _, _ => s
theorem RS.rounds {O : Nat} (hO : R n 2 O fun _ => 1) {f : Nat → M.S8} {wf : Nat → Nat → Nat} : ∀ (m t : Nat) (s : M.S8) (ks ws : List Nat), ks.length = m → ws.length = m → RS n s (fun i => M.rounds (f i) (wf i) t) →
    (∀ j, j < m → ks.getD j 0 = M.rt (t + j) ∧ M.rt (t + j) < W) → (∀ j, j < m → R n W (ws.getD j 0) fun i => wf i (t + j)) → RS n (V.rounds E O s ks ws) (fun i => M.rounds (f i) (wf i) (t + m))
  | 0, t, s, ks, ws, h1, h2, h3, _, _ => by
    obtain rfl := List.length_eq_zero_iff.1 h1
    obtain rfl := List.length_eq_zero_iff.1 h2
    exact h3
  | m + 1, t, s, k :: ks, w :: ws, h1, h2, h3, h4, h5 => by
    have e1 : k = M.rt t := (h4 0 (by omega)).1
    have e2 := (h4 0 (by omega)).2
    have hw : R n W w fun i => wf i t := h5 0 (by omega)
    have hk : R n W (M.force (k * O) fun x => x) fun _ => M.rt t := by
      rw [M.force_eq, e1]
      exact hO.all _ _ e2
    have ih := RS.rounds hO (f := f) (wf := wf) m (t + 1) (V.rnd E s (M.force (k * O) fun x => x) w) ks ws (by simpa using h1) (by simpa using h2) (h3.rnd hE hk hw) (fun j hj => by rw [show t + 1 + j = t + (j + 1) by omega]; exact h4 (j + 1) (by omega)) (fun j hj => by rw [show t + 1 + j = t + (j + 1) by omega]; exact h5 (j + 1) (by omega))
    rw [show t + (m + 1) = t + 1 + m by omega]
    exact ih
  | m + 1, t, s, [], _, h1, _, _, _, _ => by simp at h1
  | m + 1, t, s, _ :: _, [], _, h2, _, _, _ => by simp at h2
/-- the first number of the sums -/
def first (E O : Nat) (x : Nat → Nat) : Nat := ((M.init.a * O) + (rounds E O ⟨M.init.a * O, M.init.b * O, M.init.c * O, M.init.d * O, M.init.e * O, M.init.f * O, M.init.g * O, M.init.h * O⟩ M.roots (wl E x 64).reverse).a) &&& E
theorem R.first {O : Nat} (hO : R n 2 O fun _ => 1) {x : Nat → Nat} {X : Nat → Nat → Nat} (hx : ∀ t, t < 16 → R n W (x t) fun i => M.num (X i) (4 * t)) : R n W (V.first E O x) fun i => (M.mixB M.init (X i)).a := by
  obtain ⟨h1, h2⟩ := R.wl hE hx 64
  have hs : RS n ⟨M.init.a * O, M.init.b * O, M.init.c * O, M.init.d * O, M.init.e * O, M.init.f * O, M.init.g * O, M.init.h * O⟩ fun _ => M.init :=
    ⟨hO.all _ _ (by decide), hO.all _ _ (by decide), hO.all _ _ (by decide), hO.all _ _ (by decide), hO.all _ _ (by decide), hO.all _ _ (by decide), hO.all _ _ (by decide), hO.all _ _ (by decide)⟩
  have h := RS.rounds hE hO (f := fun _ => M.init) (wf := fun i => M.wd (X i)) 64 0 _ M.roots (V.wl E x 64).reverse rfl (by rw [List.length_reverse, h1]) hs (fun j hj => by rw [Nat.zero_add]; exact ⟨rfl, M.rt_lt j hj⟩) (fun j hj => by
    rw [List.getD_eq_getElem?_getD, List.getElem?_reverse (by rw [h1]; omega), ← List.getD_eq_getElem?_getD, h1, Nat.zero_add]
    refine (h2 (64 - 1 - j) (by omega)).congr fun i _ => ?_
    rw [M.wl_get _ 64 _ (by omega)]
    congr 1
    omega)
  exact ((hO.all M.init.a W (by decide)).add h.a).low (by decide) hE
omit hE in
/-- none of them is c -/
theorem R.none {O X : Nat} (hO : R n 2 O fun _ => 1) {f : Nat → Nat} (h : R n W X f) (c : Nat) (hc : c < W) (hq : (((X ^^^ (c * O)) + 4294967295 * O) &&& (4294967296 * O)) = 4294967296 * O) (i : Nat) (hi : i < n) : f i ≠ c := by
  have h1 := ((h.xor (hO.all c W hc)).add (hO.all 4294967295 W (by decide))).and' (by decide) (hO.all 4294967296 (W + 1) (by decide)) (by decide)
  rw [hq] at h1
  have h2 := R.inj (by decide) h1 (hO.all 4294967296 (W + 1) (by decide)) i hi
  intro e
  rw [e, Nat.xor_self] at h2
  exact absurd h2 (by decide)
end
/-! ### blocks of 255 -/
def pkB (s : Nat → Nat) : Nat → Nat
  | 0 => 0
  | k + 1 => pkB s k + s k <<< (64 * 255 * k)
theorem pk_add (f : Nat → Nat) (a : Nat) : ∀ b, pk f (a + b) = pk f a + pk (fun i => f (a + i)) b * 2 ^ (64 * a)
  | 0 => by show pk f a = pk f a + 0 * _; rw [Nat.zero_mul, Nat.add_zero]
  | b + 1 => by
    show pk f (a + b) + f (a + b) * 2 ^ (64 * (a + b)) = pk f a + (pk (fun i => f (a + i)) b + f (a + b) * 2 ^ (64 * b)) * 2 ^ (64 * a)
    rw [pk_add f a b, Nat.add_mul, Nat.mul_assoc, ← Nat.pow_add, show 64 * b + 64 * a = 64 * (a + b) by omega]
    omega
theorem pkB_eq (f : Nat → Nat) (s : Nat → Nat) : ∀ k, (∀ p, p < k → s p = pk (fun m => f (255 * p + m)) 255) → pkB s k = pk f (255 * k)
  | 0, _ => rfl
  | k + 1, h => by
    show pkB s k + s k <<< (64 * 255 * k) = _
    rw [pkB_eq f s k fun p hp => h p (by omega), h k (by omega), Nat.shiftLeft_eq, show 255 * (k + 1) = 255 * k + 255 by omega, pk_add, show 64 * 255 * k = 64 * (255 * k) by omega]
end Go.Proofs.YtjnnmeolonbedaaDoor.V
