/-
  What the walk of the document's 'Rebuild' wants of plain mathematics: which columns are lost, which parities are taken, and that its columns are the ones that 'Rebuild' makes. Conditions: the bad ones rise.
-/
import Derived.Test.YtlhjpceaookanaaGreatDoorParDocRightM
import Derived.Deep.DeepCutAuto
namespace Go.Proofs.YtlhjpceaookanaaGreatDoor
open Go Go.RowKit
set_option maxRecDepth 100000
set_option linter.unusedVariables false

/-- q of the bad ones are data -/
structure Split (k m q : Nat) (bz : Nat → Int) : Prop where
  le : q ≤ m
  lo : ∀ i, i < q → bz i < (k : Int)
  hi : ∀ i, q ≤ i → i < m → (k : Int) ≤ bz i
theorem split_of {m : Nat} {bz : Nat → Int} {N : Int} (k : Nat) (h : Rise m bz N) : ∃ q, Split k m q bz := by
  by_cases hall : ∀ i, i < m → bz i < (k : Int)
  · exact ⟨m, Nat.le_refl _, hall, fun i h1 h2 => by omega⟩
  · obtain ⟨q, hq, hbad, hgood⟩ := least_p hall
    exact ⟨q, by omega, hgood, fun i h1 h2 => by
      rcases Nat.lt_or_ge q i with h3 | h3
      · have := h.lt h3 h2; omega
      · obtain rfl : i = q := by omega
        omega⟩
/-- the copy that is made first: noughts in the bad ones' places -/
def X0 (m : Nat) (bz : Nat → Int) (x : Nat → Nat → Nat) (i v : Nat) : Nat := if isB m bz i then 0 else x i v
def lz (bz : Nat → Int) (a : Nat) : Nat := (bz a).toNat
def jz (k m : Nat) (bz : Nat → Int) (y : Nat) : Nat := (sndL m bz k 3).getD y 0
section
variable {k m q : Nat} {bz : Nat → Int} {N : Int}
theorem lz_cast (h : Rise m bz N) {a : Nat} (ha : a < m) : ((lz bz a : Nat) : Int) = bz a := by
  have := h.ge a ha
  unfold lz
  omega
theorem lz_rise (h : Rise m bz N) (hs : Split k m q bz) : ∀ x y, x < y → y < q → lz bz x < lz bz y := fun x y hxy hy => by
  have h1 := h.lt hxy (show y < m by have := hs.le; omega)
  have h2 := lz_cast h (show x < m by have := hs.le; omega)
  have h3 := lz_cast h (show y < m by have := hs.le; omega)
  omega
theorem lz_lt (h : Rise m bz N) (hs : Split k m q bz) : ∀ x, x < q → lz bz x < k := fun x hx => by
  have h1 := hs.lo x hx
  have h2 := lz_cast h (show x < m by have := hs.le; omega)
  omega
theorem isB_isL (h : Rise m bz N) (hs : Split k m q bz) (i : Nat) : isB q bz i = M.isL q (lz bz) i := by
  by_cases hb : isB q bz i = true
  · obtain ⟨a, ha, e⟩ := isB_of hb
    rw [hb, M.isL_true ha]
    have := lz_cast h (show a < m by have := hs.le; omega)
    omega
  · have hb : isB q bz i = false := by simpa using hb
    rw [hb, M.isL_false]
    intro a ha e
    have := lz_cast h (show a < m by have := hs.le; omega)
    rw [isB_true ha (by omega)] at hb
    cases hb
theorem isB_data (hs : Split k m q bz) {i : Nat} (hi : i < k) : isB m bz i = isB q bz i := by
  by_cases hb : isB m bz i = true
  · obtain ⟨a, ha, e⟩ := isB_of hb
    rw [hb, isB_true (j := a) (by
      by_cases h : a < q
      · exact h
      · have := hs.hi a (by omega) ha; omega) e]
  · have hb : isB m bz i = false := by simpa using hb
    rw [hb, isB_false]
    intro a ha e
    rw [isB_true (show a < m by have := hs.le; omega) e] at hb
    cases hb
theorem isB_par (hs : Split k m q bz) (j : Nat) : isB m bz (k + j) = isB (m - q) (fun i => bz (q + i)) (k + j) := by
  have hq := hs.le
  by_cases hb : isB m bz (k + j) = true
  · obtain ⟨a, ha, e⟩ := isB_of hb
    have hqa : q ≤ a := by
      by_cases h : a < q
      · have := hs.lo a h; omega
      · omega
    rw [hb, isB_true (j := a - q) (by omega) (by show bz (q + (a - q)) = _; rw [show q + (a - q) = a by omega]; exact e)]
  · have hb : isB m bz (k + j) = false := by simpa using hb
    rw [hb, isB_false]
    intro a ha e
    rw [isB_true (j := q + a) (by omega) e] at hb
    cases hb
theorem sndL_tail (hs : Split k m q bz) (i : Nat) : sndL m bz k i = sndL (m - q) (fun i => bz (q + i)) k i := by
  unfold sndL
  congr 1
  funext j
  rw [isB_par hs]
theorem jz_facts (h : Rise m bz N) (hs : Split k m q bz) (hm : m ≤ 3) : q ≤ (sndL m bz k 3).length ∧ (∀ x, x < q → jz k m bz x < 3 ∧ isB m bz (k + jz k m bz x) = false) ∧ ∀ x y, x < y → y < q → jz k m bz x < jz k m bz y := by
  have hq := hs.le
  have ht := h.tail hq
  have f := snd_facts (k := k) (q := q) ht (by omega)
  unfold jz
  rw [sndL_tail hs]
  exact ⟨f.1, fun x hx => ⟨(f.2.1 x hx).1, by rw [isB_par hs]; exact (f.2.1 x hx).2⟩, f.2.2⟩
theorem sndL_split (m : Nat) (b : Nat → Int) (k i n : Nat) : ∃ t, sndL m b k (i + n) = sndL m b k i ++ t := by
  unfold sndL
  refine ⟨((List.range n).map (fun x => i + x)).filter fun j => !isB m b (k + j), ?_⟩
  rw [List.range_add, List.filter_append]
/-- the next good parity is the next of the list -/
theorem jz_next {r : Nat} (hr : r < 3) (hg : isB m bz (k + r) = false) : jz k m bz (sndL m bz k r).length = r := by
  obtain ⟨t, ht⟩ := sndL_split m bz k (r + 1) (3 - (r + 1))
  rw [show r + 1 + (3 - (r + 1)) = 3 by omega, sndL_good hg] at ht
  unfold jz
  rw [ht, List.getD_eq_getElem?_getD, List.append_assoc, List.getElem?_append_right (Nat.le_refl _), Nat.sub_self]
  rfl
theorem X0_lost (h : Rise m bz N) (hs : Split k m q bz) {x : Nat → Nat → Nat} {a : Nat} (v : Nat) (ha : a < q) : X0 m bz x (lz bz a) v = 0 := by
  unfold X0
  rw [isB_true (j := a) (by have := hs.le; omega) (lz_cast h (by have := hs.le; omega)).symm]
  rfl
theorem X0_isL (h : Rise m bz N) (hs : Split k m q bz) {x : Nat → Nat → Nat} {i : Nat} (v : Nat) (hi : i < k) (hl : isB q bz i = true) : X0 m bz x i v = 0 := by
  unfold X0
  rw [isB_data hs hi, hl]
  rfl
theorem X0_good {x : Nat → Nat → Nat} {i : Nat} (v : Nat) (hl : isB m bz i = false) : X0 m bz x i v = x i v := by
  unfold X0
  rw [hl]
  rfl
theorem X0_bad {x : Nat → Nat → Nat} {i : Nat} (v : Nat) (hl : isB m bz i = true) : X0 m bz x i v = 0 := by
  unfold X0
  rw [hl]
  rfl
theorem par_lost (h : Rise m bz N) (hs : Split k m q bz) {x : Nat → Nat → Nat} {i r v : Nat} (hi : i < k) (hl : isB q bz i = true) : M.par (i + 1) r (X0 m bz x) v = M.par i r (X0 m bz x) v := by
  rw [M.par_succ, X0_isL h hs v hi hl, M.gmul_zero_right, Nat.xor_zero]
end
/-- the document's columns -/
def docC (k m q : Nat) (bz : Nat → Int) (x : Nat → Nat → Nat) : Nat → Nat → Nat := docA k m q bz (lz bz) (jz k m bz) (X0 m bz x)
/-- the data, once all is found -/
def docD (k m q : Nat) (bz : Nat → Int) (x : Nat → Nat → Nat) : Nat → Nat → Nat := docI k q (lz bz) (jz k m bz) (X0 m bz x)
theorem docC_data {k m q : Nat} {bz : Nat → Int} {x : Nat → Nat → Nat} {i : Nat} (v : Nat) (hi : i < k) : docC k m q bz x i v = docD k m q bz x i v := if_pos hi
theorem docC_par {k m q : Nat} {bz : Nat → Int} {x : Nat → Nat → Nat} (j v : Nat) : docC k m q bz x (k + j) v = if isB m bz (k + j) then M.par k j (docD k m q bz x) v else X0 m bz x (k + j) v := by
  unfold docC docA
  rw [if_neg (by omega), show k + j - k = j by omega]
  rfl
theorem docD_not {k m q : Nat} {bz : Nat → Int} {x : Nat → Nat → Nat} {i : Nat} (v : Nat) (h : M.isL q (lz bz) i = false) : docD k m q bz x i v = X0 m bz x i v := by
  unfold docD docI
  rw [h]
  rfl
theorem docD_at {k m q : Nat} {bz : Nat → Int} {x : Nat → Nat → Nat} {N : Int} (h : Rise m bz N) (hs : Split k m q bz) {a : Nat} (v : Nat) (ha : a < q) : docD k m q bz x (lz bz a) v = det.solX q (M.fac (lz bz) (jz k m bz)) (docS k (jz k m bz) (X0 m bz x) v) a := by
  unfold docD docI
  rw [M.isL_true ha rfl, M.ixL_at (lz_rise h hs) ha]
  rfl
theorem docC_ok {k m q : Nat} {bz : Nat → Int} {x : Nat → Nat → Nat} {N : Int} {n : Nat} (h : Rise m bz N) (hs : Split k m q bz) (hm : m ≤ 3) (hk : k ≤ 13) (hx : ∀ i, i < k + 3 → isB m bz i = false → ∀ v, v < n → x i v < 256) :
    (∀ i, i < k + 3 → ∀ v, v < n → docC k m q bz x i v < 256) ∧ (∀ j, j < 3 → Due m k bz j → ∀ v, v < n → docC k m q bz x (k + j) v = M.par k j (docC k m q bz x) v) ∧ ∀ i, i < k + 3 → isB m bz i = false → ∀ v, v < n → x i v = docC k m q bz x i v := by
  have hq := hs.le
  obtain ⟨j1, j2, j3⟩ := jz_facts h hs hm
  have hX : ∀ v, v < n → ∀ i, i < k + 3 → X0 m bz x i v < 256 := fun v hv i hi => by
    by_cases hb : isB m bz i = true
    · rw [X0_bad v hb]; omega
    · have hb : isB m bz i = false := by simpa using hb
      rw [X0_good v hb]; exact hx i hi hb v hv
  have hD : ∀ i, i < k → ∀ v, v < n → docD k m q bz x i v < 256 := fun i hi v hv => docI_lt (by omega) hk (lz_rise h hs) (lz_lt h hs) j3 (fun x hx => (j2 x hx).1) (hX v hv) hi
  have hpc : ∀ j v, M.par k j (docC k m q bz x) v = M.par k j (docD k m q bz x) v := fun j v => M.xsum_congr fun i hi => by rw [docC_data v hi]
  refine ⟨fun i hi v hv => ?_, fun j hj hdue v hv => ?_, fun i hi hb v hv => ?_⟩
  · by_cases hik : i < k
    · rw [docC_data v hik]; exact hD i hik v hv
    · obtain ⟨j, rfl⟩ : ∃ j, i = k + j := ⟨i - k, by omega⟩
      rw [docC_par]
      split
      · exact M.par_lt _ _ _ _
      · exact hX v hv _ hi
  · rw [hpc, docC_par]
    by_cases hb : isB m bz (k + j) = true
    · rw [hb]; rfl
    · have hb : isB m bz (k + j) = false := by simpa using hb
      rw [hb]
      rcases hdue with e | ⟨q', a, h1, h2, h3, h4, h5⟩
      · rw [hb] at e; cases e
      · have hqq : q' = q := by
          rcases Nat.lt_trichotomy q' q with e | e | e
          · have a1 := h3 q' (Nat.le_refl _) (by omega)
            have a2 := hs.lo q' e
            omega
          · exact e
          · have a1 := h2 q e
            have a2 := hs.hi q (Nat.le_refl _) (by omega)
            omega
        subst hqq
        have e : j = jz k m bz a := by
          unfold jz
          rw [sndL_tail hs]
          exact h5
        rw [e]
        exact docI_par (by omega) hk (lz_rise h hs) (lz_lt h hs) j3 (fun x hx => (j2 x hx).1) (hX v hv) (fun y hy => X0_lost h hs v hy) h4
  · by_cases hik : i < k
    · rw [docC_data v hik, docD_not v (by rw [← isB_isL h hs, ← isB_data hs hik]; exact hb), X0_good v hb]
    · obtain ⟨j, rfl⟩ : ∃ j, i = k + j := ⟨i - k, by omega⟩
      rw [docC_par, hb, X0_good v hb]
      rfl
end Go.Proofs.YtlhjpceaookanaaGreatDoor
namespace Go.Proofs.YtlhjpceaookanaaGreatDoor
open Go Go.RowKit
set_option maxRecDepth 100000
set_option linter.unusedVariables false
theorem docC_uniq {k m q n : Nat} {bz : Nat → Int} {x D : Nat → Nat → Nat} {N : Int} (h : Rise m bz N) (hs : Split k m q bz) (hm : m ≤ 3) (hk : k ≤ 13)
    (hD : ∀ i, i < k + 3 → ∀ v, v < n → D i v < 256) (hpar : ∀ j, j < 3 → ∀ v, v < n → D (k + j) v = M.par k j D v) (hgood : ∀ i, i < k + 3 → isB m bz i = false → ∀ v, v < n → x i v = D i v) :
    ∀ i, i < k + 3 → ∀ v, v < n → docC k m q bz x i v = D i v := by
  have hq := hs.le
  obtain ⟨c1, c2, c3⟩ := docC_ok (n := n) (x := x) h hs hm hk (fun i hi hb v hv => by rw [hgood i hi hb v hv]; exact hD i hi v hv)
  obtain ⟨_, j2, j3⟩ := jz_facts h hs hm
  generalize hY : docC k m q bz x = Y at *
  have good : ∀ i, i < k + 3 → isB m bz i = false → ∀ v, v < n → Y i v = D i v := fun i hi hb v hv => by rw [← c3 i hi hb v hv]; exact hgood i hi hb v hv
  have data : ∀ i, i < k → ∀ v, v < n → Y i v = D i v := by
    intro i hi v hv
    by_cases hb : isB m bz i = true
    · have hl : M.isL q (lz bz) i = true := by rw [← isB_isL h hs, ← isB_data hs hi]; exact hb
      obtain ⟨a, ha, e⟩ := M.isL_of hl
      obtain ⟨G, hG⟩ := M.undo_all (n := q) (by omega) (lz bz) (jz k m bz) (lz_rise h hs) (fun y hy => by have := lz_lt h hs y hy; omega) j3 (fun y hy => (j2 y hy).1)
      have hz := M.undo_zero (M.fac_lt (lz bz) (jz k m bz)) hG (z := fun b => Y (lz bz b) v ^^^ D (lz bz b) v) (fun b hb => M.xor_lt (c1 _ (by have := lz_lt h hs b hb; omega) v hv) (hD _ (by have := lz_lt h hs b hb; omega) v hv)) (fun y hy => ?_) a ha
      · rw [e] at hz
        have h2 := congrArg (fun t => t ^^^ D i v) hz
        simp only [Nat.xor_assoc, Nat.xor_self, Nat.xor_zero, Nat.zero_xor] at h2
        exact h2
      · have hjy := (j2 y hy).1
        have p1 := c2 (jz k m bz y) hjy (.inr ⟨q, y, hq, hs.lo, hs.hi, hy, by unfold jz; rw [sndL_tail hs]⟩) v hv
        rw [good _ (by omega) (j2 y hy).2 v hv, hpar _ hjy v hv] at p1
        have p2 : M.xsum k (fun i => if M.isL q (lz bz) i then M.gmul (M.pw (i * jz k m bz y)) (Y i v ^^^ D i v) else 0) = 0 := by
          have p3 : M.par k (jz k m bz y) Y v ^^^ M.par k (jz k m bz y) D v = 0 := by rw [p1, Nat.xor_self]
          refine Eq.trans ?_ p3
          unfold M.par
          rw [← M.xsum_xor]
          refine M.xsum_congr fun i hi => ?_
          rw [← M.gmul_xor (M.pw_all _) (c1 i (by omega) v hv) (hD i (by omega) v hv)]
          by_cases hl : M.isL q (lz bz) i = true
          · rw [hl, if_pos rfl]
          · have hl : M.isL q (lz bz) i = false := by simpa using hl
            rw [hl, if_neg (by decide), good i (by omega) (by rw [isB_data hs hi, isB_isL h hs]; exact hl) v hv, Nat.xor_self, M.gmul_zero_right]
        rw [M.xsum_pick k (lz bz) (fun i => M.gmul (M.pw (i * jz k m bz y)) (Y i v ^^^ D i v)) q (lz_rise h hs) (lz_lt h hs)] at p2
        exact p2
    · exact good i (by omega) (by simpa using hb) v hv
  intro i hi v hv
  by_cases hik : i < k
  · exact data i hik v hv
  · obtain ⟨j, rfl⟩ : ∃ j, i = k + j := ⟨i - k, by omega⟩
    by_cases hb : isB m bz (k + j) = true
    · rw [c2 j (by omega) (.inl hb) v hv, hpar j (by omega) v hv]
      exact M.xsum_congr fun i hi => by rw [data i hi v hv]
    · exact good _ hi (by simpa using hb) v hv
end Go.Proofs.YtlhjpceaookanaaGreatDoor
namespace Go.Proofs.YtlhjpceaookanaaGreatDoor
open Go Go.RowKit
set_option maxRecDepth 100000
set_option linter.unusedVariables false
namespace docReb
def lostL (bz : Nat → Int) (t : Nat) : List Nat := (List.range t).map (lz bz)
theorem lostL_length (bz : Nat → Int) (t : Nat) : (lostL bz t).length = t := by simp [lostL]
theorem lostL_succ (bz : Nat → Int) (t : Nat) : lostL bz (t + 1) = lostL bz t ++ [lz bz t] := by simp [lostL, List.range_succ]
theorem lostL_get {bz : Nat → Int} {t a : Nat} (h : a < t) : (lostL bz t).getD a 0 = lz bz a := by simp [lostL, List.getD_eq_getElem?_getD, h]
/-- t of the q lost ones lie below i -/
structure Cnt (q i t : Nat) (bz : Nat → Int) : Prop where
  le : t ≤ q
  lo : ∀ a, a < t → bz a < (i : Int)
  hi : ∀ a, t ≤ a → a < q → (i : Int) ≤ bz a
theorem Cnt.start (q : Nat) {m : Nat} {bz : Nat → Int} {N : Int} (h : Rise m bz N) (hq : q ≤ m) : Cnt q 0 0 bz :=
  ⟨Nat.zero_le _, fun a ha => absurd ha (by omega), fun a _ ha => by have := h.ge a (by omega); omega⟩
theorem Cnt.take {q i t m : Nat} {bz : Nat → Int} {N : Int} (h : Cnt q i t bz) (hr : Rise m bz N) (hq : q ≤ m) (hb : isB q bz i = true) : bz t = (i : Int) ∧ Cnt q (i + 1) (t + 1) bz := by
  obtain ⟨a, ha, e⟩ := isB_of hb
  have hat : t ≤ a := by
    by_cases h1 : a < t
    · have := h.lo a h1; omega
    · omega
  have he : a = t := by
    by_cases h1 : t < a
    · have h2 := hr.lt h1 (by omega)
      have h3 := h.hi t (Nat.le_refl _) (by omega)
      omega
    · omega
  subst he
  refine ⟨e, by omega, fun b hb => ?_, fun b h1 h2 => ?_⟩
  · by_cases e2 : b = a
    · subst e2; omega
    · have := h.lo b (by omega); omega
  · have := hr.lt (show a < b by omega) (by omega)
    omega
theorem Cnt.pass {q i t : Nat} {bz : Nat → Int} (h : Cnt q i t bz) (hb : isB q bz i = false) : Cnt q (i + 1) t bz :=
  ⟨h.le, fun b hb => by have := h.lo b hb; omega, fun b h1 h2 => by
    have h3 := h.hi b h1 h2
    by_cases e : bz b = (i : Int)
    · rw [isB_true h2 e] at hb; cases hb
    · omega⟩
theorem Cnt.done {q i t k : Nat} {bz : Nat → Int} (h : Cnt q i t bz) (hlo : ∀ a, a < q → bz a < (k : Int)) (hi : k ≤ i) : t = q := by
  have := h.le
  by_cases e : t < q
  · have h1 := h.hi t (Nat.le_refl _) e
    have h2 := hlo t e
    omega
  · omega
theorem owns_neG {w : World} {B n m g : Nat} {v : Value} {xs : List Value} {X : Nat → Nat} (h : w.ownsRow B 3 1 v n xs) (hr : RowG w g m X) : v.ownBlock ≠ some g := fun e => by
  rcases h.2 with ⟨h1, _⟩ | ⟨g', cap, cur, h1, _, hb, _⟩
  · rw [h1] at e; cases e
  · rw [h1] at e
    simp [Value.ownBlock] at e
    subst e
    obtain ⟨cs, fr, hb2, _⟩ := hr
    rw [hb2] at hb
    injection hb with hb
    injection hb with _ hb _
    exact absurd hb (by decide)
theorem make_noughts (n : Nat) (hn : n ≤ 70000) (w : World) :
    (Instr.makeSlice 36 (.int .i64 (n : Int)) (.int .i64 (n : Int))).run Tryz.prog w = .ok (.slice (some ⟨w.heap.size, 0, none⟩) n n) (w.alloc (.cells (rowArr n (fun _ => 0)) 5)) := make_bytes n (by omega) w (n : Int) rfl

theorem _root_.Go.Proofs.YtlhjpceaookanaaGreatDoor.Cols.ints {w w' : World} {B base n N : Nat} {v u : Value} {xs : List Value} {H : Nat → Hd} {R : Nat → Nat} {x : Nat → Nat → Nat} {i : Nat} (h : Cols w base v i N H R x) (ho : w.ownsRow B 3 1 u n xs) (hg : w.grownBy w' u.ownBlock) : Cols w' base v i N H R x :=
  ⟨h.own.keep fun g e => hg.block g (h.own.lt e).1 (fun q => owns_ne ho h.own e q.symm), h.hd, fun j hj => ⟨(h.row j hj).1, (h.row j hj).2.heap (hg.block _ (h.row j hj).2.lt (fun q => owns_neG ho (h.row j hj).2 q.symm))⟩, h.apart⟩

theorem _root_.Go.Proofs.YtlhjpceaookanaaGreatDoor.Cols.openD {w : World} {base i n : Nat} {v : Value} {H : Nat → Hd} {R : Nat → Nat} {x : Nat → Nat → Nat} (h : Cols w base v i n H R x) (hi : 0 < i) : ∃ g c, v = .slice (some ⟨g, 0, none⟩) i c ∧ i ≤ c ∧ c ≤ maxLen ∧ base ≤ g := by
  rcases h.own with ⟨_, rfl⟩ | ⟨g, cap, cur, fr, rfl, hg, hb, _, h1, h2, _, h4⟩
  · omega
  · exact ⟨g, cap, rfl, h1, h2, hg⟩
theorem _root_.Go.Proofs.YtlhjpceaookanaaGreatDoor.Cols.grown8 {w w' : World} {B0 t n m : Nat} {v u : Value} {H : Nat → Hd} {R : Nat → Nat} {x : Nat → Nat → Nat} {X : Nat → Nat} (h : Cols w B0 v t n H R x) (ho : Own8 w B0 u m X) (hN : ∀ j, j < t → u.ownBlock ≠ some (R j)) (hg : w.grownBy w' u.ownBlock) : Cols w' B0 v t n H R x :=
  ⟨h.own.keep fun g e => hg.block g (h.own.lt e).1 (det.ownS_ne8 h.own ho g e), h.hd, fun j hj => ⟨(h.row j hj).1, (h.row j hj).2.heap (hg.block _ (h.row j hj).2.lt (fun q => hN j hj q.symm))⟩, h.apart⟩
theorem ints_rd {w : World} {B q c : Nat} {A : Option Addr} {bz : Nat → Int} (h : w.ownsRow B 3 1 (.slice A q c) q (natL (lostL bz q))) : RdZ w w.heap.size A q (fun a => ((lz bz a : Nat) : Int)) ∧ q ≤ c ∧ ∀ bb, (∃ o, A = some ⟨bb, o, none⟩) → B ≤ bb := by
  obtain ⟨A', c', e, h1, h2, h3⟩ := own_ints2 h
  injection e with e1 e2 e3
  subst e1; subst e3
  refine ⟨fun a ha => ?_, h1, h3⟩
  obtain ⟨b, o, p1, p2, p3⟩ := h2 a ha
  refine ⟨b, o, p1, p2, ?_⟩
  rw [p3]
  show some (Value.int .i64 (((lostL bz q).getD a 0 : Nat) : Int)) = _
  rw [lostL_get ha]
theorem isB_lz {m q : Nat} {bz : Nat → Int} {N : Int} (h : Rise m bz N) (hq : q ≤ m) (i : Nat) : isB q (fun a => ((lz bz a : Nat) : Int)) i = isB q bz i := by
  by_cases hb : isB q bz i = true
  · obtain ⟨a, ha, e⟩ := isB_of hb
    rw [hb, isB_true ha (by rw [lz_cast h (by omega)]; exact e)]
  · have hb : isB q bz i = false := by simpa using hb
    rw [hb, isB_false]
    intro a ha e
    have e : ((lz bz a : Nat) : Int) = (i : Int) := e
    rw [lz_cast h (by omega)] at e
    rw [isB_true ha e] at hb
    cases hb
theorem below_dN {b : Nat} {w w' : World} (h : Below b w w') (n : Nat) : Below b w (w'.drewN n) := ⟨h.os, h.tape, h.output, h.size, h.block⟩
theorem quiet_of_eq {P : Program} {f : FuncId} {args : Array Value} {w : World} {n : Nat} {v : Value} (h : Calls P f args (w.drewN n) fun e w' => e = .returned v ∧ w.drewN n = w') : Calls P f args (w.drewN n) fun e w'' => e = .returned v ∧ ∃ m, w'' = w.drewN m :=
  h.mono fun _ _ ⟨he, hm⟩ => ⟨he, n, hm.symm⟩
/-- one byte of one column -/
theorem _root_.Go.Proofs.YtlhjpceaookanaaGreatDoor.Cols.setbyte {w : World} {base K n j v0 u : Nat} {v : Value} {H : Nat → Hd} {R : Nat → Nat} {X : Nat → Nat → Nat} (h : Cols w base v K n H R X) (hj : j < K) (hv : v0 < n) : Cols (w.setCell ⟨R j, v0, none⟩ (.int .u8 ((u : Nat) : Int))) base v K n H R (fun i => if i = j then upd (X j) v0 u else X i) := by
  have hrj := (h.row j hj).2
  refine ⟨h.own.keep fun g hg => Below.heap_setCell w _ _ g (fun e => h.own.neG hrj (by rw [hg]; exact congrArg some e.symm)), h.hd, fun i hi => ⟨(h.row i hi).1, ?_⟩, h.apart⟩
  show RowG _ (R i) n (if i = j then upd (X j) v0 u else X i)
  by_cases e : i = j
  · subst e
    rw [if_pos rfl]
    exact hrj.set hv
  · rw [if_neg e]
    exact (h.row i hi).2.far (p := ⟨R j, v0, none⟩) (h.ne hi hj e) _
/-- another row in one column's place -/
theorem _root_.Go.Proofs.YtlhjpceaookanaaGreatDoor.Cols.sethead {w : World} {base K n g c g2 c2 i : Nat} {H : Nat → Hd} {R : Nat → Nat} {X : Nat → Nat → Nat} {Y : Nat → Nat} (h : Cols w base (.slice (some ⟨g, 0, none⟩) K c) K n H R X) (hi : i < K) (hr : RowG w g2 n Y) (hb : base ≤ g2) (hcc : n ≤ c2 ∧ c2 ≤ maxLen) (hne : ∀ j, j < K → R j ≠ g2) :
    Cols (w.setCell ⟨g, i, none⟩ (.slice (some ⟨g2, 0, none⟩) n c2)) base (.slice (some ⟨g, 0, none⟩) K c) K n (fun j => if j = i then (some ⟨g2, 0, none⟩, n, c2) else H j) (fun j => if j = i then g2 else R j) (fun j => if j = i then Y else X j) := by
  have hob : (Value.slice (some ⟨g, 0, none⟩) K c).ownBlock = some g := rfl
  have hfar : ∀ {m : Nat} {z : Nat} {W : Nat → Nat}, RowG w z m W → RowG (w.setCell ⟨g, i, none⟩ (.slice (some ⟨g2, 0, none⟩) n c2)) z m W := fun {m z W} hz => hz.far (p := ⟨g, i, none⟩) (fun e => h.own.neG hz (by rw [hob, e])) _
  have q1 : ∀ j, j ≠ i → (if j = i then g2 else R j) = R j := fun j hj => if_neg hj
  refine ⟨h.own.set (a := (some ⟨g2, 0, none⟩, n, c2)) hi, fun j hj => ?_, fun j hj => ?_, fun j l hjl hl => ?_⟩
  · by_cases e : j = i
    · subst e
      rw [if_pos rfl, if_pos rfl]
      exact ⟨c2, rfl, hcc⟩
    · rw [if_neg e, if_neg e]
      exact h.hd j hj
  · by_cases e : j = i
    · subst e
      rw [if_pos rfl, if_pos rfl]
      exact ⟨hb, hfar hr⟩
    · rw [if_neg e, if_neg e]
      exact ⟨(h.row j hj).1, hfar (h.row j hj).2⟩
  · by_cases e : j = i
    · subst e
      rw [if_pos rfl, if_neg (by omega)]
      exact (hne l hl).symm
    · by_cases e2 : l = i
      · subst e2
        rw [if_neg e, if_pos rfl]
        exact hne j (by omega)
      · rw [if_neg e, if_neg e2]
        exact h.apart j l hjl hl
/-- what stands in the copy while byte v0 is sought -/
def mixD (k m q : Nat) (bz : Nat → Int) (x : Nat → Nat → Nat) (v0 i v : Nat) : Nat := if i < k ∧ v < v0 then docD k m q bz x i v else X0 m bz x i v
/-- .. and a of the lost ones have theirs -/
def mixL (k m q : Nat) (bz : Nat → Int) (x : Nat → Nat → Nat) (v0 a i v : Nat) : Nat := if M.isL a (lz bz) i = true ∧ v = v0 then docD k m q bz x i v else mixD k m q bz x v0 i v
theorem mixL_done {k m q : Nat} {bz : Nat → Int} {x : Nat → Nat → Nat} {N : Int} (h : Rise m bz N) (hs : Split k m q bz) (v0 i v : Nat) : mixL k m q bz x v0 q i v = mixD k m q bz x (v0 + 1) i v := by
  unfold mixL mixD
  by_cases hik : i < k
  · by_cases hv : v = v0
    · subst hv
      rw [if_pos (show i < k ∧ v < v + 1 from ⟨hik, by omega⟩), if_neg (show ¬ (i < k ∧ v < v) from fun q => Nat.lt_irrefl _ q.2)]
      by_cases hl : M.isL q (lz bz) i = true
      · rw [if_pos ⟨hl, rfl⟩]
      · have hl : M.isL q (lz bz) i = false := by simpa using hl
        rw [if_neg (fun q => by rw [hl] at q; cases q.1), docD_not v hl]
    · rw [if_neg (fun q => hv q.2)]
      by_cases h1 : v < v0
      · rw [if_pos ⟨hik, h1⟩, if_pos ⟨hik, by omega⟩]
      · rw [if_neg (fun q => h1 q.2), if_neg (fun q => by omega)]
  · rw [if_neg (show ¬ (i < k ∧ v < v0 + 1) from fun q => hik q.1), if_neg (show ¬ (i < k ∧ v < v0) from fun q => hik q.1)]
    rw [if_neg]
    rintro ⟨hl, _⟩
    obtain ⟨a, ha, e⟩ := M.isL_of hl
    have := lz_lt h hs a ha
    omega
theorem mixL_zero {k m q : Nat} {bz : Nat → Int} {x : Nat → Nat → Nat} (v0 i v : Nat) : mixL k m q bz x v0 0 i v = mixD k m q bz x v0 i v := by
  unfold mixL
  rw [if_neg]
  rintro ⟨hl, _⟩
  obtain ⟨a, ha, _⟩ := M.isL_of hl
  omega
theorem mixD_at {k m q : Nat} {bz : Nat → Int} {x : Nat → Nat → Nat} (v0 i : Nat) : mixD k m q bz x v0 i v0 = X0 m bz x i v0 := by
  unfold mixD
  rw [if_neg (fun q => Nat.lt_irrefl _ q.2)]

theorem mixL_step {k m q : Nat} {bz : Nat → Int} {x Y : Nat → Nat → Nat} {v0 a la u i v : Nat} (hla : la = lz bz a) (hu : docD k m q bz x la v0 = u) (hY : Y i v = mixL k m q bz x v0 a i v) : (if i = la then upd (Y la) v0 u else Y i) v = mixL k m q bz x v0 (a + 1) i v := by
  have hs : M.isL (a + 1) (lz bz) i = true ↔ M.isL a (lz bz) i = true ∨ i = la := by
    constructor
    · intro h
      obtain ⟨b, hb, e⟩ := M.isL_of h
      by_cases h1 : b < a
      · exact .inl (M.isL_true h1 e)
      · obtain rfl : b = a := by omega
        exact .inr (by rw [hla, e])
    · rintro (h | h)
      · obtain ⟨b, hb, e⟩ := M.isL_of h
        exact M.isL_true (show b < a + 1 by omega) e
      · exact M.isL_true (show a < a + 1 by omega) (by rw [h, hla])
  by_cases e : i = la
  · subst e
    rw [if_pos rfl]
    unfold upd
    by_cases hv : v = v0
    · subst hv
      rw [if_pos rfl]
      unfold mixL
      rw [if_pos ⟨hs.2 (.inr rfl), rfl⟩]
      exact hu.symm
    · rw [if_neg hv, hY]
      unfold mixL
      rw [if_neg (fun p => hv p.2), if_neg (fun p => hv p.2)]
  · rw [if_neg e, hY]
    unfold mixL
    by_cases hl : M.isL a (lz bz) i = true
    · by_cases hv : v = v0
      · rw [if_pos ⟨hl, hv⟩, if_pos ⟨hs.2 (.inl hl), hv⟩]
      · rw [if_neg (fun p => hv p.2), if_neg (fun p => hv p.2)]
    · rw [if_neg (fun p => hl p.1), if_neg (fun p => (hs.1 p.1).elim hl e)]

end docReb
end Go.Proofs.YtlhjpceaookanaaGreatDoor
