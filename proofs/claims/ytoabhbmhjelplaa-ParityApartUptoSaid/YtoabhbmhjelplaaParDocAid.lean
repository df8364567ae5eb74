/-
  What the walk of the document's 'Rebuild' wants of plain mathematics: which columns are lost, which parities are taken, and that its columns are the ones that 'Rebuild' makes. Conditions: the bad ones rise.
-/
import Derived.Test.YtoabhbmhjelplaaParDocM
import Derived.Test.YtoabhbmhjelplaaParDocRightM
namespace Go.Proofs.Ytoabhbmhjelplaa
open Go Go.RowKit
set_option maxRecDepth 100000
set_option linter.unusedVariables false

/-- q of the bad ones are data -/
structure Split (k m q : Nat) (bz : Nat → Int) : Prop where
  le : q ≤ m
  lo : ∀ i, i < q → bz i < (k : Int)
  hi : ∀ i, q ≤ i → i < m → (k : Int) ≤ bz i
theorem split_of {m : Nat} {bz : Nat → Int} {N : Int} (k : Nat) (h : Rise m bz N) : ∃ q, Split k m q bz := by
  by_cases hall : ∀ i, i < m → bz i < (k : Int)
  · exact ⟨m, Nat.le_refl _, hall, fun i h1 h2 => by omega⟩
  · obtain ⟨q, hq, hbad, hgood⟩ := least_p hall
    exact ⟨q, by omega, hgood, fun i h1 h2 => by
      rcases Nat.lt_or_ge q i with h3 | h3
      · have := h.lt h3 h2; omega
      · obtain rfl : i = q := by omega
        omega⟩
/-- the copy that is made first: noughts in the bad ones' places -/
def X0 (m : Nat) (bz : Nat → Int) (x : Nat → Nat → Nat) (i v : Nat) : Nat := if isB m bz i then 0 else x i v
def lz (bz : Nat → Int) (a : Nat) : Nat := (bz a).toNat
def jz (k m : Nat) (bz : Nat → Int) (y : Nat) : Nat := (sndL m bz k 3).getD y 0
section
variable {k m q : Nat} {bz : Nat → Int} {N : Int}
theorem lz_cast (h : Rise m bz N) {a : Nat} (ha : a < m) : ((lz bz a : Nat) : Int) = bz a := by
  have := h.ge a ha
  unfold lz
  omega
theorem lz_rise (h : Rise m bz N) (hs : Split k m q bz) : ∀ x y, x < y → y < q → lz bz x < lz bz y := fun x y hxy hy => by
  have h1 := h.lt hxy (show y < m by have := hs.le; omega)
  have h2 := lz_cast h (show x < m by have := hs.le; omega)
  have h3 := lz_cast h (show y < m by have := hs.le; omega)
  omega
theorem lz_lt (h : Rise m bz N) (hs : Split k m q bz) : ∀ x, x < q → lz bz x < k := fun x hx => by
  have h1 := hs.lo x hx
  have h2 := lz_cast h (show x < m by have := hs.le; omega)
  omega
theorem isB_isL (h : Rise m bz N) (hs : Split k m q bz) (i : Nat) : isB q bz i = M.isL q (lz bz) i := by
  by_cases hb : isB q bz i = true
  · obtain ⟨a, ha, e⟩ := isB_of hb
    rw [hb, M.isL_true ha]
    have := lz_cast h (show a < m by have := hs.le; omega)
    omega
  · have hb : isB q bz i = false := by simpa using hb
    rw [hb, M.isL_false]
    intro a ha e
    have := lz_cast h (show a < m by have := hs.le; omega)
    rw [isB_true ha (by omega)] at hb
    cases hb
theorem isB_data (hs : Split k m q bz) {i : Nat} (hi : i < k) : isB m bz i = isB q bz i := by
  by_cases hb : isB m bz i = true
  · obtain ⟨a, ha, e⟩ := isB_of hb
    rw [hb, isB_true (j := a) (by
      by_cases h : a < q
      · exact h
      · have := hs.hi a (by omega) ha; omega) e]
  · have hb : isB m bz i = false := by simpa using hb
    rw [hb, isB_false]
    intro a ha e
    rw [isB_true (show a < m by have := hs.le; omega) e] at hb
    cases hb
theorem isB_par (hs : Split k m q bz) (j : Nat) : isB m bz (k + j) = isB (m - q) (fun i => bz (q + i)) (k + j) := by
  have hq := hs.le
  by_cases hb : isB m bz (k + j) = true
  · obtain ⟨a, ha, e⟩ := isB_of hb
    have hqa : q ≤ a := by
      by_cases h : a < q
      · have := hs.lo a h; omega
      · omega
    rw [hb, isB_true (j := a - q) (by omega) (by show bz (q + (a - q)) = _; rw [show q + (a - q) = a by omega]; exact e)]
  · have hb : isB m bz (k + j) = false := by simpa using hb
    rw [hb, isB_false]
    intro a ha e
    rw [isB_true (j := q + a) (by omega) e] at hb
    cases hb
theorem sndL_tail (hs : Split k m q bz) (i : Nat) : sndL m bz k i = sndL (m - q) (fun i => bz (q + i)) k i := by
  unfold sndL
  congr 1
  funext j
  rw [isB_par hs]
theorem jz_facts (h : Rise m bz N) (hs : Split k m q bz) (hm : m ≤ 3) : q ≤ (sndL m bz k 3).length ∧ (∀ x, x < q → jz k m bz x < 3 ∧ isB m bz (k + jz k m bz x) = false) ∧ ∀ x y, x < y → y < q → jz k m bz x < jz k m bz y := by
  have hq := hs.le
  have ht := h.tail hq
  have f := snd_facts (k := k) (q := q) ht (by omega)
  unfold jz
  rw [sndL_tail hs]
  exact ⟨f.1, fun x hx => ⟨(f.2.1 x hx).1, by rw [isB_par hs]; exact (f.2.1 x hx).2⟩, f.2.2⟩
theorem sndL_split (m : Nat) (b : Nat → Int) (k i n : Nat) : ∃ t, sndL m b k (i + n) = sndL m b k i ++ t := by
  unfold sndL
  refine ⟨((List.range n).map (fun x => i + x)).filter fun j => !isB m b (k + j), ?_⟩
  rw [List.range_add, List.filter_append]
/-- the next good parity is the next of the list -/
theorem jz_next {r : Nat} (hr : r < 3) (hg : isB m bz (k + r) = false) : jz k m bz (sndL m bz k r).length = r := by
  obtain ⟨t, ht⟩ := sndL_split m bz k (r + 1) (3 - (r + 1))
  rw [show r + 1 + (3 - (r + 1)) = 3 by omega, sndL_good hg] at ht
  unfold jz
  rw [ht, List.getD_eq_getElem?_getD, List.append_assoc, List.getElem?_append_right (Nat.le_refl _), Nat.sub_self]
  rfl
theorem X0_lost (h : Rise m bz N) (hs : Split k m q bz) {x : Nat → Nat → Nat} {a : Nat} (v : Nat) (ha : a < q) : X0 m bz x (lz bz a) v = 0 := by
  unfold X0
  rw [isB_true (j := a) (by have := hs.le; omega) (lz_cast h (by have := hs.le; omega)).symm]
  rfl
theorem X0_isL (h : Rise m bz N) (hs : Split k m q bz) {x : Nat → Nat → Nat} {i : Nat} (v : Nat) (hi : i < k) (hl : isB q bz i = true) : X0 m bz x i v = 0 := by
  unfold X0
  rw [isB_data hs hi, hl]
  rfl
theorem X0_good {x : Nat → Nat → Nat} {i : Nat} (v : Nat) (hl : isB m bz i = false) : X0 m bz x i v = x i v := by
  unfold X0
  rw [hl]
  rfl
theorem X0_bad {x : Nat → Nat → Nat} {i : Nat} (v : Nat) (hl : isB m bz i = true) : X0 m bz x i v = 0 := by
  unfold X0
  rw [hl]
  rfl
theorem par_lost (h : Rise m bz N) (hs : Split k m q bz) {x : Nat → Nat → Nat} {i r v : Nat} (hi : i < k) (hl : isB q bz i = true) : M.par (i + 1) r (X0 m bz x) v = M.par i r (X0 m bz x) v := by
  rw [M.par_succ, X0_isL h hs v hi hl, M.gmul_zero_right, Nat.xor_zero]
end
/-- the document's columns -/
def docC (k m q : Nat) (bz : Nat → Int) (x : Nat → Nat → Nat) : Nat → Nat → Nat := docA k m q bz (lz bz) (jz k m bz) (X0 m bz x)
/-- the data, once all is found -/
def docD (k m q : Nat) (bz : Nat → Int) (x : Nat → Nat → Nat) : Nat → Nat → Nat := docI k q (lz bz) (jz k m bz) (X0 m bz x)
theorem docC_data {k m q : Nat} {bz : Nat → Int} {x : Nat → Nat → Nat} {i : Nat} (v : Nat) (hi : i < k) : docC k m q bz x i v = docD k m q bz x i v := if_pos hi
theorem docC_par {k m q : Nat} {bz : Nat → Int} {x : Nat → Nat → Nat} (j v : Nat) : docC k m q bz x (k + j) v = if isB m bz (k + j) then M.par k j (docD k m q bz x) v else X0 m bz x (k + j) v := by
  unfold docC docA
  rw [if_neg (by omega), show k + j - k = j by omega]
  rfl
theorem docD_not {k m q : Nat} {bz : Nat → Int} {x : Nat → Nat → Nat} {i : Nat} (v : Nat) (h : M.isL q (lz bz) i = false) : docD k m q bz x i v = X0 m bz x i v := by
  unfold docD docI
  rw [h]
  rfl
theorem docD_at {k m q : Nat} {bz : Nat → Int} {x : Nat → Nat → Nat} {N : Int} (h : Rise m bz N) (hs : Split k m q bz) {a : Nat} (v : Nat) (ha : a < q) : docD k m q bz x (lz bz a) v = det.solX q (M.fac (lz bz) (jz k m bz)) (docS k (jz k m bz) (X0 m bz x) v) a := by
  unfold docD docI
  rw [M.isL_true ha rfl, M.ixL_at (lz_rise h hs) ha]
  rfl
theorem docC_ok {k m q : Nat} {bz : Nat → Int} {x : Nat → Nat → Nat} {N : Int} {n : Nat} (h : Rise m bz N) (hs : Split k m q bz) (hm : m ≤ 3) (hk : k ≤ 13) (hx : ∀ i, i < k + 3 → isB m bz i = false → ∀ v, v < n → x i v < 256) :
    (∀ i, i < k + 3 → ∀ v, v < n → docC k m q bz x i v < 256) ∧ (∀ j, j < 3 → Due m k bz j → ∀ v, v < n → docC k m q bz x (k + j) v = M.par k j (docC k m q bz x) v) ∧ ∀ i, i < k + 3 → isB m bz i = false → ∀ v, v < n → x i v = docC k m q bz x i v := by
  have hq := hs.le
  obtain ⟨j1, j2, j3⟩ := jz_facts h hs hm
  have hX : ∀ v, v < n → ∀ i, i < k + 3 → X0 m bz x i v < 256 := fun v hv i hi => by
    by_cases hb : isB m bz i = true
    · rw [X0_bad v hb]; omega
    · have hb : isB m bz i = false := by simpa using hb
      rw [X0_good v hb]; exact hx i hi hb v hv
  have hD : ∀ i, i < k → ∀ v, v < n → docD k m q bz x i v < 256 := fun i hi v hv => docI_lt (by omega) hk (lz_rise h hs) (lz_lt h hs) j3 (fun x hx => (j2 x hx).1) (hX v hv) hi
  have hpc : ∀ j v, M.par k j (docC k m q bz x) v = M.par k j (docD k m q bz x) v := fun j v => M.xsum_congr fun i hi => by rw [docC_data v hi]
  refine ⟨fun i hi v hv => ?_, fun j hj hdue v hv => ?_, fun i hi hb v hv => ?_⟩
  · by_cases hik : i < k
    · rw [docC_data v hik]; exact hD i hik v hv
    · obtain ⟨j, rfl⟩ : ∃ j, i = k + j := ⟨i - k, by omega⟩
      rw [docC_par]
      split
      · exact M.par_lt _ _ _ _
      · exact hX v hv _ hi
  · rw [hpc, docC_par]
    by_cases hb : isB m bz (k + j) = true
    · rw [hb]; rfl
    · have hb : isB m bz (k + j) = false := by simpa using hb
      rw [hb]
      rcases hdue with e | ⟨q', a, h1, h2, h3, h4, h5⟩
      · rw [hb] at e; cases e
      · have hqq : q' = q := by
          rcases Nat.lt_trichotomy q' q with e | e | e
          · have a1 := h3 q' (Nat.le_refl _) (by omega)
            have a2 := hs.lo q' e
            omega
          · exact e
          · have a1 := h2 q e
            have a2 := hs.hi q (Nat.le_refl _) (by omega)
            omega
        subst hqq
        have e : j = jz k m bz a := by
          unfold jz
          rw [sndL_tail hs]
          exact h5
        rw [e]
        exact docI_par (by omega) hk (lz_rise h hs) (lz_lt h hs) j3 (fun x hx => (j2 x hx).1) (hX v hv) (fun y hy => X0_lost h hs v hy) h4
  · by_cases hik : i < k
    · rw [docC_data v hik, docD_not v (by rw [← isB_isL h hs, ← isB_data hs hik]; exact hb), X0_good v hb]
    · obtain ⟨j, rfl⟩ : ∃ j, i = k + j := ⟨i - k, by omega⟩
      rw [docC_par, hb, X0_good v hb]
      rfl
end Go.Proofs.Ytoabhbmhjelplaa
