/-
  'Rebuild' and the document's 'Rebuild' by one case each: both refuse, with one error, or both make the same columns. Conditions: columns read as rows of bytes, the bad ones as a row of numbers.
-/
import Derived.Test.YtlhjpceaookanaaGreatDoorArrCellM
import Derived.Test.YtlhjpceaookanaaGreatDoorParDocRebM
import Derived.Test.YtlhjpceaookanaaGreatDoorDetColsM
namespace Go.Proofs.YtlhjpceaookanaaGreatDoor
open Go Go.RowKit
set_option maxRecDepth 100000
set_option linter.unusedVariables false
theorem Rise.gap {m f : Nat} {b : Nat → Int} {n : Int} (h : Rise m b n) (hf : First m b f) (hfm : f < m) : ∀ d, f + d < m → ((f + d + 1 : Nat) : Int) ≤ b (f + d) := by
  intro d
  induction d with
  | zero =>
    intro hd
    have h1 := hf.2.2 hfm
    have h2 := h.ge f hfm
    simp only [Nat.add_zero]
    omega
  | succ d ih =>
    intro hd
    have h1 := ih (by omega)
    have h2 := h.lt (show f + d < f + (d + 1) by omega) hd
    omega
theorem Rise.count {m K : Nat} {b : Nat → Int} (h : Rise m b (K : Int)) : m ≤ K := by
  rcases Nat.eq_zero_or_pos m with e | e
  · omega
  · have h1 := h.ge (m - 1) (by omega)
    have h2 := (h (m - 1) (by omega)).2
    omega
theorem Rise.full {m f K : Nat} {b : Nat → Int} (h : Rise m b (K : Int)) (hf : First m b f) (hfk : f < K) : m ≠ K := fun e => by
  subst e
  have h1 := h.gap hf hfk (m - 1 - f) (by omega)
  have h2 := (h (m - 1) (by omega)).2
  rw [show f + (m - 1 - f) = m - 1 by omega] at h1
  omega
/-- 'Rebuild' makes the document's columns -/
theorem rebuild_doc (k m cd B c B2 f q : Nat) (A A2 : Option Addr) (ra : Nat → Option Addr) (rl rc : Nat → Nat) (x : Nat → Nat → Nat) (bz : Nat → Int) (w : World) (hr : RdR w B A (k + 3) ra rl rc x) (hz : RdZ w B2 A2 m bz) (hB : B ≤ w.heap.size) (hB2 : B2 ≤ w.heap.size) (hmc : m ≤ c) (hcm : c ≤ maxLen) (h0 : A2 = none → c = 0) (hri : Rise m bz ((k + 3 : Nat) : Int)) (hf : First m bz f) (hfk : f < k + 3) (hk0 : 0 < k) (hk : k ≤ 13) (hm : m ≤ 3) (ha : AlikeB (k + 3) m (rl f) bz rl) (hs : Split k m q bz) :
    Calls Tryz.prog 78 #[.slice A (k + 3) cd, .slice A2 m c] w fun e w' => ∃ v H R XX, e = .returned (.tuple #[v, .int .i64 0]) ∧ Cols w' w.heap.size v (k + 3) (rl f) H R XX ∧ (∀ i, i < k + 3 → ∀ v, v < rl f → XX i v = docC k m q bz x i v) ∧ Below w.heap.size w w' := by
  have hx256 : ∀ i, i < k + 3 → isB m bz i = false → ∀ v, v < rl f → x i v < 256 := fun i hi hb v hv => by
    obtain ⟨_, _, _, _, _, h⟩ := hr i hi
    rw [ha.2.2 i hi fun j hj e => by rw [isB_true hj e] at hb; cases hb] at h
    obtain ⟨_, _, _, _, _, p⟩ := h v hv
    exact p
  obtain ⟨h1, h2, h3⟩ := docC_ok hri hs hm hk hx256
  by_cases hm0 : m = 0
  · subst hm0
    have hf0 : f = 0 := by have := hf.1; omega
    subst hf0
    refine (rebuild_zero (k + 3) k cd B c A A2 ra rl rc x w hr hB rfl hk0 (by omega) ⟨ha.1, ha.2.1, fun i hi => ha.2.2 i hi fun j hj => absurd hj (Nat.not_lt_zero _)⟩ h0 hcm).mono ?_
    rintro e w' ⟨v, H, R, e1, e2, e3⟩
    exact ⟨v, H, R, x, e1, e2, fun i hi v hv => h3 i hi (isB_false fun j hj => absurd hj (Nat.not_lt_zero _)) v hv, e3⟩
  · exact rebuild_some k m cd B c B2 f A A2 ra rl rc x (docC k m q bz x) bz w hr hz hB hB2 hmc hcm hri hf hfk hk0 hk (by omega) hm ha h1 h2 h3
end Go.Proofs.YtlhjpceaookanaaGreatDoor
namespace Go.Proofs.YtlhjpceaookanaaGreatDoor
open Go Go.RowKit
set_option maxRecDepth 100000
set_option linter.unusedVariables false
set_option maxHeartbeats 1600000 in
theorem rebuild_someE (k m cd B c B2 f : Nat) (A A2 : Option Addr) (ra : Nat → Option Addr) (rl rc : Nat → Nat) (x D : Nat → Nat → Nat) (bz : Nat → Int) (w : World) (hr : RdR w B A (k + 3) ra rl rc x) (hz : RdZ w B2 A2 m bz) (hB : B ≤ w.heap.size) (hB2 : B2 ≤ w.heap.size) (hmc : m ≤ c) (hcm : c ≤ maxLen) (hri : Rise m bz ((k + 3 : Nat) : Int)) (hf : First m bz f) (hfk : f < k + 3) (hk0 : 0 < k) (hk : k ≤ 13) (hm0 : 0 < m) (hm : m ≤ 3) (ha : AlikeB (k + 3) m (rl f) bz rl)
    (hD : ∀ i, i < k + 3 → ∀ v, v < rl f → D i v < 256) (hpar : ∀ j, j < 3 → Due m k bz j → ∀ v, v < rl f → D (k + j) v = M.par k j D v) (hgood : ∀ i, i < k + 3 → isB m bz i = false → ∀ v, v < rl f → x i v = D i v) :
    Calls Tryz.prog 78 #[.slice A (k + 3) cd, .slice A2 m c] w fun e w' => ∃ v R XX, e = .returned (.tuple #[v, .int .i64 0]) ∧ Cols w' w.heap.size v (k + 3) (rl f) (fun i => (some ⟨R i, 0, none⟩, rl f, rl f)) R XX ∧ (∀ i, i < k + 3 → ∀ v, v < rl f → XX i v = D i v) ∧ Below w.heap.size w w' := by
  have HA := Lib.hid ha
  have HR := Lib.hid hr
  have HZ := Lib.hid hz
  have HRI := Lib.hid hri
  have HF := Lib.hid hf
  have HC := Lib.hid hcm
  have HD := Lib.hid (And.intro hD hpar)
  have HG := Lib.hid hgood
  have HBB := Lib.hid (And.intro hB hB2)
  have hzf := build_field
  clear hr hz hri hf ha hD hpar hgood hcm hB hB2
  go_enter Tryz.func78, Tryz.ntmps78
  go_wp2_with fail
  refine (fault_none (k + 3) cd B m c B2 f A A2 ra rl rc x bz _ HR.out HZ.out hmc HC.out HRI.out HF.out hfk (by omega) (by omega) hm HA.out).mono ?_
  rintro e w1 ⟨rfl, rfl⟩
  go_wp2_with fail
  refine (whole_any (k + 3) cd B m c B2 f A A2 ra rl rc x bz _ HR.out HZ.out HBB.out.1 HBB.out.2 hmc HC.out HRI.out HF.out hfk (by omega) (by omega) HA.out).mono ?_
  rintro e w2 ⟨rfl, H2⟩
  have C2 := Lib.hid (H2.cols (by omega) HA.out.2.1)
  have L2 := Lib.hid H2.below
  clear H2
  go_wp2_with fail
  have B2a : Below w2.heap.size w2 (w2.alloc (.cells (fcells 0 0 0) 147)) := (Below.refl _ _).alloc (Nat.le_refl _) _
  have C3 := Lib.hid (C2.out.below B2a (Nat.le_refl _))
  have L3 := Lib.hid (L2.out.trans (B2a.mono L2.out.size))
  have F3 : Hid (Fld (w2.alloc (.cells (fcells 0 0 0) 147)) w2.heap.size) := .inl (Blk.new _ _ _)
  obtain ⟨W3, hW3⟩ : ∃ W3, W3 = w2.alloc (.cells (fcells 0 0 0) 147) := ⟨_, rfl⟩
  rw [← hW3] at C3 L3 F3 ⊢
  have s2 := L2.out.size
  have s3 := L3.out.size
  have HX3 : Hid (∀ i, i < k + 3 → ∀ v, v < rl f → goodX m bz x i v < 256) := fun i hi v hv => by
    unfold goodX
    cases h : isB m bz i
    · rw [if_neg (by decide), HG.out i hi h v hv]
      exact HD.out.1 i hi v hv
    · rw [if_pos rfl]; omega
  have HZ3 : Hid (RdZ W3 W3.heap.size A2 m bz) := fun i hi => by
    obtain ⟨bb, o, e1, e2, e3⟩ := (HZ.out.below L3.out HBB.out.2) i hi
    exact ⟨bb, o, e1, by have := HBB.out.2; omega, e3⟩
  have HNE : Hid (∀ bb, (∃ o, A2 = some ⟨bb, o, none⟩) → bb ≠ w2.heap.size ∧ ∀ i, i < k + 3 → bb ≠ w.heap.size + 1 + i) := fun bb h => by
    obtain ⟨o, e⟩ := h
    obtain ⟨b', o', e1, e2, _⟩ := HZ.out 0 hm0
    rw [e] at e1
    injection e1 with e1
    injection e1 with q1 q2
    have := HBB.out.2
    exact ⟨by omega, fun i hi => by omega⟩
  have HGX : Hid (∀ i, i < k + 3 → isB m bz i = false → ∀ v, v < rl f → goodX m bz x i v = D i v) := fun i hi h v hv => by
    unfold goodX
    rw [h, if_neg (by decide)]
    exact HG.out i hi h v hv
  have HBX : Hid (∀ i, i < k + 3 → isB m bz i = true → ∀ v, v < rl f → goodX m bz x i v = 0) := fun i hi h v hv => by
    unfold goodX
    rw [h, if_pos rfl]
  clear hW3 B2a C2
  refine (mend_any w2.heap.size k m (rl f) w.heap.size (k + 3) w.heap.size c A2 _ _ bz (goodX m bz x) D W3 C3.out ⟨Nat.le_refl _, by unfold maxLen; omega⟩ HX3.out HD.out.1 HD.out.2 HGX.out HBX.out HA.out.1 HA.out.2.1 hk0 hk HZ3.out hmc HC.out HRI.out hm0 hm HNE.out F3.out).mono ?_
  rintro e w4 ⟨rfl, XX, hc4, hd4, hf4, ho4⟩
  have C4 := Lib.hid hc4
  have D4 := Lib.hid hd4
  have L4 : Hid (Below w.heap.size w w4) := Lib.hid (L3.out.trans (ho4.below s2 (fun j hj => by omega) s3))
  clear hc4 hd4 hf4 ho4 C3 F3 HX3 HZ3 HNE HGX HBX
  go_wp2_with fail
  go_ret2
  exact ⟨.slice (some ⟨w.heap.size, 0, none⟩) (k + 3) (k + 3), _, XX, rfl, C4.out, D4.out, L4.out⟩
set_option maxHeartbeats 1600000 in
theorem rebuild_zeroE (k m cd B c2 : Nat) (A A2 : Option Addr) (ra : Nat → Option Addr) (rl rc : Nat → Nat) (x : Nat → Nat → Nat) (w : World) (hr : RdR w B A k ra rl rc x) (hB : B ≤ w.heap.size) (hm : k = m + 3) (hm0 : 0 < m) (hk : k ≤ 16) (ha : Alike k rl) (h0 : A2 = none → c2 = 0) (hcm : c2 ≤ maxLen) :
    Calls Tryz.prog 78 #[.slice A k cd, .slice A2 0 c2] w fun e w' => ∃ v R, e = .returned (.tuple #[v, .int .i64 0]) ∧ Cols w' w.heap.size v k (rl 0) (fun i => (some ⟨R i, 0, none⟩, rl 0, rl 0)) R x ∧ Below w.heap.size w w' := by
  subst hm
  have HA := Lib.hid ha
  have HR := Lib.hid hr
  have hz := build_field
  have HZ : Hid (RdZ w 0 A2 0 (fun _ => 0)) := fun i hi => absurd hi (by omega)
  have HRI : Hid (Rise 0 (fun _ => 0) ((m + 3 : Nat) : Int)) := fun i hi => absurd hi (by omega)
  have HF : Hid (First 0 (fun _ => 0) 0) := ⟨Nat.le_refl _, fun j hj => absurd hj (by omega), fun h => absurd h (by omega)⟩
  have HAB : Hid (AlikeB (m + 3) 0 (rl 0) (fun _ => 0) rl) := ⟨ha.1, ha.2.1, fun i hi _ => ha.2.2 i hi⟩
  have HC0 : Hid (c2 ≤ maxLen) := hcm
  have H0 := Lib.hid h0
  clear hr ha h0
  go_enter Tryz.func78, Tryz.ntmps78
  go_wp2_with fail
  refine (fault_none (m + 3) cd B 0 c2 0 0 A A2 ra rl rc x (fun _ => 0) _ HR.out HZ.out (Nat.zero_le _) HC0.out HRI.out HF.out (by omega) (by omega) (by omega) (by omega) HAB.out).mono ?_
  rintro e w1 ⟨rfl, rfl⟩
  go_wp2_with fail
  refine (whole_any (m + 3) cd B 0 c2 0 0 A A2 ra rl rc x (fun _ => 0) _ HR.out HZ.out hB (by omega) (by omega) HC0.out HRI.out HF.out (by omega) hk (by omega) HAB.out).mono ?_
  rintro e w2 ⟨rfl, H2⟩
  have C2 := Lib.hid (H2.cols hk HA.out.2.1)
  have L2 := Lib.hid H2.below
  have HX : Hid (∀ j, goodX 0 (fun _ => 0) x j = x j) := fun j => by unfold goodX; rw [isB_false (fun j hj => absurd hj (by omega))]; rfl
  clear H2 HZ HRI HF HAB
  go_wp2_with fail
  refine (mend_zero w2.heap.size m (m + 3) c2 (some ⟨w.heap.size, 0, none⟩) A2 _ hk H0.out HC0.out).mono ?_
  rintro e w3 ⟨rfl, hb3⟩
  have B2 : Below w2.heap.size w2 (w2.alloc (.cells (fcells 0 0 0) 147)) := (Below.refl _ _).alloc (Nat.le_refl _) _
  have HB3 := Lib.hid (B2.trans (hb3.mono B2.size))
  clear hb3 B2
  go_wp2_with fail
  go_ret2
  have h := C2.out.below HB3.out (Nat.le_refl _)
  rw [show goodX 0 (fun _ => 0) x = x from funext HX.out] at h
  exact ⟨.slice (some ⟨w.heap.size, 0, none⟩) (m + 3) (m + 3), _, rfl, h, L2.out.trans (HB3.out.mono L2.out.size)⟩
theorem rebuild_docE (k m cd B c B2 f q : Nat) (A A2 : Option Addr) (ra : Nat → Option Addr) (rl rc : Nat → Nat) (x : Nat → Nat → Nat) (bz : Nat → Int) (w : World) (hr : RdR w B A (k + 3) ra rl rc x) (hz : RdZ w B2 A2 m bz) (hB : B ≤ w.heap.size) (hB2 : B2 ≤ w.heap.size) (hmc : m ≤ c) (hcm : c ≤ maxLen) (h0 : A2 = none → c = 0) (hri : Rise m bz ((k + 3 : Nat) : Int)) (hf : First m bz f) (hfk : f < k + 3) (hk0 : 0 < k) (hk : k ≤ 13) (hm : m ≤ 3) (ha : AlikeB (k + 3) m (rl f) bz rl) (hs : Split k m q bz) :
    Calls Tryz.prog 78 #[.slice A (k + 3) cd, .slice A2 m c] w fun e w' => ∃ v R XX, e = .returned (.tuple #[v, .int .i64 0]) ∧ Cols w' w.heap.size v (k + 3) (rl f) (fun i => (some ⟨R i, 0, none⟩, rl f, rl f)) R XX ∧ (∀ i, i < k + 3 → ∀ v, v < rl f → XX i v = docC k m q bz x i v) ∧ Below w.heap.size w w' := by
  have hx256 : ∀ i, i < k + 3 → isB m bz i = false → ∀ v, v < rl f → x i v < 256 := fun i hi hb v hv => by
    obtain ⟨_, _, _, _, _, h⟩ := hr i hi
    rw [ha.2.2 i hi fun j hj e => by rw [isB_true hj e] at hb; cases hb] at h
    obtain ⟨_, _, _, _, _, p⟩ := h v hv
    exact p
  obtain ⟨h1, h2, h3⟩ := docC_ok hri hs hm hk hx256
  by_cases hm0 : m = 0
  · subst hm0
    have hf0 : f = 0 := by have := hf.1; omega
    subst hf0
    refine (rebuild_zeroE (k + 3) k cd B c A A2 ra rl rc x w hr hB rfl hk0 (by omega) ⟨ha.1, ha.2.1, fun i hi => ha.2.2 i hi fun j hj => absurd hj (Nat.not_lt_zero _)⟩ h0 hcm).mono ?_
    rintro e w' ⟨v, R, e1, e2, e3⟩
    exact ⟨v, R, x, e1, e2, fun i hi v hv => h3 i hi (isB_false fun j hj => absurd hj (Nat.not_lt_zero _)) v hv, e3⟩
  · exact rebuild_someE k m cd B c B2 f A A2 ra rl rc x (docC k m q bz x) bz w hr hz hB hB2 hmc hcm hri hf hfk hk0 hk (by omega) hm ha h1 h2 h3
end Go.Proofs.YtlhjpceaookanaaGreatDoor
namespace Go.Proofs.YtlhjpceaookanaaGreatDoor
open Go Go.RowKit
set_option maxRecDepth 100000
set_option linter.unusedVariables false
namespace Arr
def bzL (l : List Nat) (j : Nat) : Int := ((l.getD j 0 : Nat) : Int)
theorem trueL_rise (g : Nat → Bool) (N : Nat) : Rise (trueL g N).length (bzL (trueL g N)) (N : Int) := fun i hi => by
  obtain ⟨h1, h2, _⟩ := trueL_facts g N
  have h3 := (h1 i hi).1
  unfold bzL prv
  by_cases e : i = 0
  · rw [if_pos e]; omega
  · rw [if_neg e]
    have h4 := h2 (i - 1) i (by omega) hi
    show (((trueL g N).getD (i - 1) 0 : Nat) : Int) < _ ∧ _
    omega
theorem trueL_isB (g : Nat → Bool) (N : Nat) {i : Nat} (hi : i < N) : isB (trueL g N).length (bzL (trueL g N)) i = g i := by
  obtain ⟨h1, _, h3⟩ := trueL_facts g N
  cases hg : g i with
  | true =>
    obtain ⟨x, hx, e⟩ := h3 i hi hg
    exact isB_true hx (by unfold bzL; rw [e])
  | false =>
    refine isB_false fun j hj e => ?_
    have h4 := (h1 j hj).2
    unfold bzL at e
    have e2 : (trueL g N).getD j 0 = i := by omega
    rw [e2, hg] at h4
    cases h4
open Classical in
noncomputable def qOf (k m : Nat) (bz : Nat → Int) : Nat := if h : ∃ q, Split k m q bz then Classical.choose h else 0
theorem qOf_split {k m : Nat} {bz : Nat → Int} {N : Int} (h : Rise m bz N) : Split k m (qOf k m bz) bz := by
  have hx := split_of k h
  unfold qOf
  rw [dif_pos hx]
  exact Classical.choose_spec hx
/-- the first column that isn't bad -/
theorem first_good {m f : Nat} {bz : Nat → Int} {N : Int} (h : Rise m bz N) (hf : First m bz f) : isB m bz f = false := by
  refine isB_false fun j hj e => ?_
  by_cases h1 : j < f
  · have := hf.2.1 j h1
    omega
  · by_cases h2 : f < m
    · have h3 := hf.2.2 h2
      by_cases h4 : j = f
      · subst h4; exact h3 e
      · have h5 := h.lt (i := f) (j := j) (by omega) hj
        have h6 := h.ge f h2
        omega
    · omega
/-- where a column of 'Rebuild' lies in its row -/
def pi (k i : Nat) : Nat := if i < k then i + 3 else i - k
theorem pi_mod {k i : Nat} (hi : i < k + 3) : (i + 3) % (k + 3) = pi k i := by
  unfold pi
  by_cases h : i < k
  · rw [if_pos h, Nat.mod_eq_of_lt (by omega)]
  · rw [if_neg h, show i + 3 = (i - k) + (k + 3) by omega, Nat.add_mod_right, Nat.mod_eq_of_lt (by omega)]
theorem pi_lt {k i : Nat} (hi : i < k + 3) : pi k i < k + 3 := by unfold pi; split <;> omega
/-- the bad columns -/
def plc (k : Nat) (bd : Nat → Bool) : List Nat := trueL (fun i => bd (pi k i)) (k + 3)
noncomputable def outRow (k : Nat) (bd : Nat → Bool) (x : Nat → Nat → Nat) (t v : Nat) : Nat :=
  docC k (plc k bd).length (qOf k (plc k bd).length (bzL (plc k bd))) (bzL (plc k bd)) (fun i => x (pi k i)) t v
section
variable {k n : Nat} {bd : Nat → Bool} {x D : Nat → Nat → Nat} (hk : k ≤ 13) (hm : (plc k bd).length ≤ 3)
include hk hm
theorem outRow_lt (hx : ∀ i, i < k + 3 → bd i = false → ∀ v, v < n → x i v < 256) {t v : Nat} (ht : t < k) (hv : v < n) : outRow k bd x t v < 256 := by
  have h := trueL_rise (fun i => bd (pi k i)) (k + 3)
  refine (docC_ok (n := n) (x := fun i => x (pi k i)) h (qOf_split h) hm hk fun i hi hb v hv => ?_).1 t (by omega) v hv
  rw [trueL_isB _ _ hi] at hb
  exact hx _ (pi_lt hi) hb v hv
theorem outRow_good (hD : ∀ i, i < k + 3 → ∀ v, v < n → D i v < 256) (hpar : ∀ j, j < 3 → ∀ v, v < n → D j v = M.par k j (fun t => D (t + 3)) v) (hgood : ∀ i, i < k + 3 → bd i = false → ∀ v, v < n → x i v = D i v) {t v : Nat} (ht : t < k) (hv : v < n) : outRow k bd x t v = D (t + 3) v := by
  have h := trueL_rise (fun i => bd (pi k i)) (k + 3)
  have h1 := docC_uniq (n := n) (x := fun i => x (pi k i)) (D := fun i => D (pi k i)) h (qOf_split h) hm hk (fun i hi v hv => hD _ (pi_lt hi) v hv) (fun j hj v hv => by
    have e : pi k (k + j) = j := by unfold pi; rw [if_neg (by omega)]; omega
    show D (pi k (k + j)) v = _
    rw [e, hpar j hj v hv]
    refine M.xsum_congr fun i hi => ?_
    have e2 : pi k i = i + 3 := by unfold pi; rw [if_pos hi]
    show _ = M.gmul _ (D (pi k i) v)
    rw [e2]) (fun i hi hb v hv => by
    have hb2 := trueL_isB (fun i => bd (pi k i)) (k + 3) hi
    have hb3 : isB (trueL (fun i => bd (pi k i)) (k + 3)).length (bzL (trueL (fun i => bd (pi k i)) (k + 3))) i = false := hb
    rw [hb2] at hb3
    exact hgood _ (pi_lt hi) hb3 v hv) t (by omega) v hv
  have e : pi k t = t + 3 := by unfold pi; rw [if_pos ht]
  show docC _ _ _ _ _ _ _ = _
  rw [← e]
  exact h1
end
end Arr
end Go.Proofs.YtlhjpceaookanaaGreatDoor
namespace Go.Proofs.YtlhjpceaookanaaGreatDoor
open Go Go.RowKit
set_option maxRecDepth 100000
set_option linter.unusedVariables false
namespace Arr
open Cc
def hdL (m : Nat) (H : Nat → Hd) : List Hd := (List.range m).map H
theorem hdL_length (m : Nat) (H : Nat → Hd) : (hdL m H).length = m := by simp [hdL]
theorem hdL_get {m i : Nat} {H : Nat → Hd} {h : Hd} (e : (hdL m H)[i]? = some h) : i < m ∧ h = H i := by
  have hi := (List.getElem?_eq_some_iff.1 e).1
  rw [hdL_length] at hi
  unfold hdL at e
  rw [List.getElem?_map, List.getElem?_range hi] at e
  injection e with e
  exact ⟨hi, e.symm⟩
theorem joinL_len {α : Type} {L : Nat → List α} {m : Nat} (h : ∀ j, (L j).length = m) : ∀ k, (joinL L k).length = k * m
  | 0 => by simp [joinL]
  | k + 1 => by rw [joinL_succ, List.length_append, joinL_len h k, h, Nat.succ_mul]
theorem joinL_congr {α : Type} {L M : Nat → List α} : ∀ {k : Nat}, (∀ j, j < k → L j = M j) → joinL L k = joinL M k
  | 0, _ => rfl
  | k + 1, h => by rw [joinL_succ, joinL_succ, joinL_congr fun j hj => h j (by omega), h k (by omega)]
theorem one_ne_zero_nat : ((1 : Nat) = 0) = False := by simp
set_option maxHeartbeats 3200000 in
theorem unlay_any (g o k cc B : Nat) (ra : Nat → Option Addr) (rl rc : Nat → Nat) (x : Nat → Nat → Nat) (w : World) (hr : RdR w B (some ⟨g, o, none⟩) (k + 3) ra rl rc x) (hB : B ≤ w.heap.size) (hk1 : 1 ≤ k) (hk : k ≤ 13) (hcc : k + 3 ≤ cc) (hcm : cc ≤ maxLen)
    (lb : Array Value) (bd : Nat → Bool) (hbad : ∀ W, Below w.heap.size w W → ∀ i, i < k + 3 → Calls Tryz.prog 65 (#[.int .i64 (i : Int)] ++ lb) W fun e w' => e = .returned (.bool (bd i)) ∧ ∃ d, w' = W.drewN d) (hm : (plc k bd).length ≤ 3) (hgood : ∀ i, i < k + 3 → bd i = false → rl i = 128) :
    Calls Tryz.prog 64 #[.slice (some ⟨g, o, none⟩) (k + 3) cc, .func (.func 65) #[] lb] w fun e w' => ∃ v, e = .returned v ∧ Gr.OwnG 5 1 csB w' w.heap.size v (joinL (fun t => (List.range 128).map (outRow k bd x t)) k) ∧ Below w.heap.size w w' := by
  have HR := Lib.hid hr
  have HBB := Lib.hid hB
  have HBAD := Lib.hid hbad
  have HM := Lib.hid hm
  have HGD := Lib.hid hgood
  have hs1 : ∀ W, (Instr.sliceAt 77 (.slice (some ⟨g, o, none⟩) (k + 3) cc) (some (.int .i64 3)) none none).run Tryz.prog W = .ok (.slice (some ⟨g, o + 3, none⟩) k (cc - 3)) W := fun W => by
    have h := slice_tailR g o (k + 3) cc 3 (by omega) W
    rw [if_neg (by omega), show k + 3 - 3 = k by omega] at h
    exact h
  have hs2 : ∀ W, (Instr.sliceAt 77 (.slice (some ⟨g, o, none⟩) (k + 3) cc) none (some (.int .i64 3)) none).run Tryz.prog W = .ok (.slice (some ⟨g, o, none⟩) 3 cc) W := fun W => slice_headR g o (k + 3) cc 3 (by omega) W
  obtain ⟨hgB, _, _⟩ := hr.head (show 0 < k + 3 by omega)
  have hbs : ∀ W : World, (Instr.buildSlice 160 2 #[(0, .slice (some ⟨g, o + 3, none⟩) k (cc - 3)), (1, .slice (some ⟨g, o, none⟩) 3 cc)]).run Tryz.prog W = .ok (.slice (some ⟨W.heap.size, 0, none⟩) 2 2) (W.alloc (.cells #[.slice (some ⟨g, o + 3, none⟩) k (cc - 3), .slice (some ⟨g, o, none⟩) 3 cc] 77)) := fun W => by kernel_rfl
  unfold maxLen at hcm
  clear hr hB hbad hm hgood
  go_enter Tryz.func64, Tryz.ntmps64
  go_wp2_with fail
  refine region_quiet_tail 4 (by kernel_rfl) (by kernel_rfl) ?_
  simp only [List.take_succ_cons, List.take_zero, List.drop_succ_cons, List.drop_zero]
  repeat (quiet_step (fail))
  refine wpQuiet_nil ?_
  rintro _ ⟨nq, rfl⟩
  have B1 : Hid (Below w.heap.size w ((w.drewN nq).alloc (.cells #[.slice (some ⟨g, o + 3, none⟩) k (cc - 3), .slice (some ⟨g, o, none⟩) 3 cc] 77))) := Lib.hid ((below_drewN (Below.refl _ _) nq).alloc (Nat.le_refl _) _)
  have X1 : Hid (Blk ((w.drewN nq).alloc (.cells #[.slice (some ⟨g, o + 3, none⟩) k (cc - 3), .slice (some ⟨g, o, none⟩) 3 cc] 77)) w.heap.size 77 #[.slice (some ⟨g, o + 3, none⟩) k (cc - 3), .slice (some ⟨g, o, none⟩) 3 cc]) := Lib.hid (Blk.new (w.drewN nq) _ _)
  go_wp2_with fail
  generalize (w.drewN nq).alloc (.cells #[.slice (some ⟨g, o + 3, none⟩) k (cc - 3), .slice (some ⟨g, o, none⟩) 3 cc] 77) = w1 at *
  have HJ2 : Hid (joinL (fun j => if j = 0 then hdL k (fun i => (ra (i + 3), rl (i + 3), rc (i + 3))) else hdL 3 (fun i => (ra i, rl i, rc i))) 2 = hdL (k + 3) (fun i => (ra (pi k i), rl (pi k i), rc (pi k i)))) := Lib.hid (by
    show joinL _ 2 = _
    unfold joinL hdL
    rw [List.range_add, List.map_append, List.map_map]
    show List.flatMap _ [0, 1] = _
    simp only [List.flatMap_cons, List.flatMap_nil, List.append_nil, if_true, one_ne_zero_nat, if_false]
    congr 1
    · refine List.map_congr_left fun i hi => ?_
      have hi : i < k := by simpa using hi
      unfold pi
      rw [if_pos hi]
    · refine List.map_congr_left fun i hi => ?_
      show _ = (ra (pi k (k + i)), rl (pi k (k + i)), rc (pi k (k + i)))
      unfold pi
      rw [if_neg (by omega), show k + i - k = i by omega])
  have hcell : ∀ i, i < k + 3 → w1.cell? ⟨g, o + i, none⟩ = some (hdV (ra i, rl i, rc i)) := fun i hi => by
    obtain ⟨h1, h2, _⟩ := HR.out.head hi
    exact (B1.out.cell (p := ⟨g, o + i, none⟩) (by have := HBB.out; show g < _; omega)).trans h2
  have HC := Lib.hid (concat_H w.heap.size 0 2 2 (fun j => if j = 0 then some ⟨g, o + 3, none⟩ else some ⟨g, o, none⟩) (fun j => if j = 0 then hdL k (fun i => (ra (i + 3), rl (i + 3), rc (i + 3))) else hdL 3 (fun i => (ra i, rl i, rc i))) (fun j => if j = 0 then cc - 3 else cc) w1 X1.out.lt (by omega) (fun j hj => by
    have hgl : g < w1.heap.size := by have := HBB.out; have := B1.out.size; omega
    rcases (show j = 0 ∨ j = 1 by omega) with rfl | rfl
    · refine ⟨?_, fun i h e => ?_, fun e => by cases e⟩
      · rw [X1.out.cell]; simp [hdL]
      · obtain ⟨hi, rfl⟩ := hdL_get e
        refine ⟨g, o + 3, rfl, hgl, fun j u hu => ?_⟩
        obtain ⟨rfl, rfl⟩ : j = 0 ∧ u = hdV (ra (i + 3), rl (i + 3), rc (i + 3)) := by
          have hj := (List.getElem?_eq_some_iff.1 hu).1
          simp [csH] at hj
          subst hj
          simp [csH] at hu
          exact ⟨rfl, hu.symm⟩
        rw [Nat.mul_one, Nat.add_zero, show o + 3 + i = o + (i + 3) by omega]
        exact hcell (i + 3) (by omega)
    · refine ⟨?_, fun i h e => ?_, fun e => by cases e⟩
      · rw [X1.out.cell]; simp [hdL]
      · obtain ⟨hi, rfl⟩ := hdL_get e
        refine ⟨g, o, rfl, hgl, fun j u hu => ?_⟩
        obtain ⟨rfl, rfl⟩ : j = 0 ∧ u = hdV (ra i, rl i, rc i) := by
          have hj := (List.getElem?_eq_some_iff.1 hu).1
          simp [csH] at hj
          subst hj
          simp [csH] at hu
          exact ⟨rfl, hu.symm⟩
        rw [Nat.mul_one, Nat.add_zero]
        exact hcell i (by omega)) (by rw [HJ2.out, hdL_length]; omega))
  rw [HJ2.out] at HC
  clear hcell hbs hs1 hs2 HJ2
  refine HC.out.mono ?_
  rintro e w2 ⟨v2, rfl, h2, b2⟩
  have B2 := Lib.hid (B1.out.trans (b2.mono B1.out.size))
  obtain ⟨A2, c2, hv2, h2a, h2b, h2c, h2d, h2e⟩ := h2.shape (fun _ => rfl)
  rw [hdL_length] at hv2 h2b
  obtain ⟨g2, o2, rfl, hg2, hcl2⟩ : ∃ g2 o2, A2 = some ⟨g2, o2, none⟩ ∧ g2 < w2.heap.size ∧ ∀ i, i < k + 3 → w2.cell? ⟨g2, o2 + i, none⟩ = some (.slice (ra (pi k i)) (rl (pi k i)) (rc (pi k i))) := by
    have hget : ∀ i, i < k + 3 → (hdL (k + 3) (fun i => (ra (pi k i), rl (pi k i), rc (pi k i))))[i]? = some (ra (pi k i), rl (pi k i), rc (pi k i)) := fun i hi => by
      unfold hdL
      rw [List.getElem?_map, List.getElem?_range hi]
      rfl
    obtain ⟨b0, o0, e0, hb0, hc0⟩ := h2a 0 _ (hget 0 (by omega))
    refine ⟨b0, o0, e0, hb0, fun i hi => ?_⟩
    obtain ⟨b1, o1, e1, hb1, hc1⟩ := h2a i _ (hget i hi)
    rw [e0] at e1
    injection e1 with e1
    injection e1 with e1 e1'
    subst e1 e1'
    have := hc1 0 _ rfl
    rw [Nat.mul_one, Nat.add_zero] at this
    exact this
  subst hv2
  have RD2 : Hid (∀ W, Below w2.heap.size w2 W → RdR W w2.heap.size (some ⟨g2, o2, none⟩) (k + 3) (fun i => ra (pi k i)) (fun i => rl (pi k i)) (fun i => rc (pi k i)) (fun i => x (pi k i))) := Lib.hid fun W hW i hi => by
    refine ⟨g2, o2, rfl, hg2, (hW.cell (p := ⟨g2, o2 + i, none⟩) hg2).trans (hcl2 i hi), ?_⟩
    obtain ⟨_, _, h3⟩ := HR.out.head (pi_lt hi)
    have hbw : Below w.heap.size w W := B2.out.trans (hW.mono B2.out.size)
    intro v hv
    obtain ⟨b, o', e, q1, q2, q3⟩ := h3.below hbw HBB.out v hv
    exact ⟨b, o', e, by have := HBB.out; have := B2.out.size; omega, q2, q3⟩
  have HC2 : Hid (k + 3 ≤ c2 ∧ c2 ≤ maxLen) := Lib.hid ⟨h2b, h2c⟩
  unfold maxLen at h2c
  clear h2 b2 h2a h2d h2e hcl2 X1 B1
  go_wp2_with fail
  go_loopw [6, 16] (fun s y wr => ∃ i : Nat, i ≤ k + 3 ∧ y = .int .i64 (i : Int) ∧ Hid (Nr.OwnN wr w2.heap.size s (trueL (fun i => bd (pi k i)) i)) ∧ Hid (Below w2.heap.size w2 wr)) (fun _ y _ => k + 3 - (intOf y).toNat)
  case atStart => exact ⟨0, Nat.zero_le _, rfl, Lib.hid (Gr.OwnG.nil _ _), Lib.hid (Below.refl _ _)⟩
  case round =>
    obtain ⟨i, hi, rfl, HO, HB2⟩ := hrel
    by_cases hlt : i < k + 3
    · have t1 : (i : Int) < (k : Int) + 3 := by omega
      have e1 : ((i : Int) + 3) % ((k : Int) + 3) = ((pi k i : Nat) : Int) := by
        rw [← pi_mod hlt]
        exact (Int.natCast_emod (i + 3) (k + 3)).symm
      have e0 : ((k : Int) + 3 = 0) = False := by simp; omega
      have HBC := Lib.hid (HBAD.out wr (B2.out.trans (HB2.out.mono B2.out.size)) (pi k i) (pi_lt hlt))
      have HSU := Lib.hid (trueL_succ (fun i => bd (pi k i)) i)
      have HLN : Hid ((trueL (fun i => bd (pi k i)) i).length ≤ 1000000) := Lib.hid (by
        unfold trueL
        have := List.length_filter_le (fun i => bd (pi k i)) (List.range i)
        rw [List.length_range] at this
        omega)
      generalize hp : pi k i = p at *
      have HP := Lib.hid hp
      clear hp
      go_wp2_with fail
      refine HBC.out.mono ?_
      rintro e w3 ⟨rfl, d, rfl⟩
      have B3 : Hid (Below w2.heap.size w2 (wr.drewN d)) := Lib.hid (below_drewN HB2.out d)
      have O3 : Hid (Nr.OwnN (wr.drewN d) w2.heap.size u6 (trueL (fun i => bd (pi k i)) i)) := Lib.hid HO.out
      clear HBC HO HB2 e1 e0
      cases hb : bd p with
      | true =>
        have HBT := Lib.hid hb
        clear hb
        generalize wr.drewN d = w3 at *
        go_wp2_with (at_builtin; refine wpList_app_g rfl 22 (.tmp 26) (.tmp 28) rfl rfl rfl (fun ty => appN O3.out i HLN.out B3.out.size ty) ?_; intro v5 W5 h5; refine of_hid ?_)
        refine Lib.hid ?_
        have H5 := Lib.hid h5
        clear h5
        go_wp2_with fail
        go_roundw
        case rel =>
          refine ⟨i + 1, by omega, by go_num, Lib.hid ?_, Lib.hid (B3.out.trans H5.out.2.1)⟩
          rw [HSU.out, HBT.out]
          exact H5.out.1
        case measure => simp [intOf]; omega
      | false =>
        have HBT := Lib.hid hb
        clear hb
        generalize wr.drewN d = w3 at *
        go_wp2_with fail
        go_roundw
        case rel =>
          refine ⟨i + 1, by omega, by go_num, Lib.hid ?_, B3⟩
          rw [HSU.out, HBT.out, if_neg (by decide), List.append_nil]
          exact O3.out
        case measure => simp [intOf]; omega
    · obtain rfl : i = k + 3 := by omega
      have HPL : Hid (plc k bd = trueL (fun i => bd (pi k i)) (k + 3)) := Lib.hid rfl
      have HRI := Lib.hid (trueL_rise (fun i => bd (pi k i)) (k + 3))
      have HIB : Hid (∀ i, i < k + 3 → isB (plc k bd).length (bzL (plc k bd)) i = bd (pi k i)) := Lib.hid fun i hi => trueL_isB (fun i => bd (pi k i)) (k + 3) hi
      rw [← HPL.out] at HRI HO
      obtain ⟨A6, c6, hv6, h6a, h6b, h6c, h6d, h6e⟩ := HO.out.shape (fun _ => rfl)
      obtain ⟨f, hf⟩ := first_of (plc k bd).length (bzL (plc k bd))
      have hfk : f < k + 3 := by have := hf.1; have := HM.out; omega
      have hgf := first_good HRI.out hf
      have hrf : rl (pi k f) = 128 := HGD.out _ (pi_lt hfk) (by rw [← HIB.out f hfk]; exact hgf)
      have HZ6 : Hid (RdZ wr wr.heap.size A6 (plc k bd).length (bzL (plc k bd))) := Lib.hid fun j hj => by
        have he : (plc k bd)[j]? = some ((plc k bd).getD j 0) := by rw [List.getD_eq_getElem?_getD, List.getElem?_eq_getElem hj]; rfl
        obtain ⟨b, o', e1, e2, e3⟩ := h6a j _ he
        have := e3 0 _ rfl
        rw [Nat.mul_one, Nat.add_zero] at this
        exact ⟨b, o', e1, e2, this⟩
      have HRB := Lib.hid (rebuild_docE k (plc k bd).length c2 w2.heap.size c6 wr.heap.size f (qOf k (plc k bd).length (bzL (plc k bd))) (some ⟨g2, o2, none⟩) A6 (fun i => ra (pi k i)) (fun i => rl (pi k i)) (fun i => rc (pi k i)) (fun i => x (pi k i)) (bzL (plc k bd)) wr (RD2.out wr HB2.out) HZ6.out HB2.out.size (Nat.le_refl _) h6b h6c h6d HRI.out hf hfk hk1 hk HM.out ⟨by show 1 ≤ rl (pi k f); rw [hrf]; decide, by show rl (pi k f) ≤ 4096; rw [hrf]; decide, fun i hi hne => by
        show rl (pi k i) = rl (pi k f)
        rw [hrf]
        exact HGD.out _ (pi_lt hi) (by rw [← HIB.out i hi]; exact isB_false hne)⟩ (qOf_split HRI.out))
      have HRB : Hid (Calls Tryz.prog 78 #[.slice (some ⟨g2, o2, none⟩) (k + 3) c2, .slice A6 (plc k bd).length c6] wr fun e w' => ∃ v R XX, e = .returned (.tuple #[v, .int .i64 0]) ∧ Cols w' wr.heap.size v (k + 3) 128 (fun i => (some ⟨R i, 0, none⟩, 128, 128)) R XX ∧ (∀ i, i < k + 3 → ∀ v, v < 128 → XX i v = docC k (plc k bd).length (qOf k (plc k bd).length (bzL (plc k bd))) (bzL (plc k bd)) (fun i => x (pi k i)) i v) ∧ Below wr.heap.size wr w') := by
        have h := HRB.out
        simp only [hrf] at h
        exact Lib.hid h
      subst hv6
      clear hf hfk hgf hrf HZ6 h6a h6b h6c h6d h6e HIB HRI HO RD2
      go_wp2_with fail
      refine HRB.out.mono ?_
      rintro e w4 ⟨v4, R, XX, rfl, hc4, hx4, hb4⟩
      obtain ⟨g4, c4, rfl, h4a, h4b, h4c⟩ := hc4.own.block (by omega)
      have C4 := Lib.hid hc4
      have X4 := Lib.hid hx4
      have B4 := Lib.hid (B2.out.trans (HB2.out.trans (hb4.mono HB2.out.size) |>.mono B2.out.size))
      have hsl : ∀ W : World, (Instr.sliceAt 77 (.slice (some ⟨g4, 0, none⟩) (k + 3) c4) none (some (.int .i64 (k : Int))) none).run Tryz.prog W = .ok (.slice (some ⟨g4, 0, none⟩) k c4) W := fun W => slice_headR g4 0 (k + 3) c4 k (by omega) W
      have hg4 : g4 < w4.heap.size := by
        have := hc4.own.at_ (j := 0) (by omega)
        exact block_lt_of_cell this
      have HJL : Hid ((joinL (fun j => (List.range 128).map (XX j)) k).length ≤ 100000) := Lib.hid (by
        have := joinL_len (L := fun j => (List.range 128).map (XX j)) (m := 128) (fun j => by simp) k
        omega)
      have HCB := Lib.hid (concat_B g4 0 k c4 (fun j => some ⟨R j, 0, none⟩) (fun j => (List.range 128).map (XX j)) (fun _ => 128) w4 hg4 (by omega) (fun j hj => by
        refine ⟨?_, fun i y e => ?_, fun e => by cases e⟩
        · rw [Nat.zero_add, hc4.own.at_ (j := j) (by omega)]
          simp [hdV]
        · have hrow := (hc4.row j (by omega)).2
          have hi := (List.getElem?_eq_some_iff.1 e).1
          simp at hi
          rw [List.getElem?_map, List.getElem?_range hi] at e
          injection e with e
          refine ⟨R j, 0, rfl, hrow.lt, fun u z hz => ?_⟩
          obtain ⟨rfl, rfl⟩ : u = 0 ∧ z = .int .u8 (y : Int) := by
            have hj := (List.getElem?_eq_some_iff.1 hz).1
            simp [csB] at hj
            subst hj
            simp [csB] at hz
            exact ⟨rfl, hz.symm⟩
          rw [Nat.zero_add, Nat.mul_one, Nat.add_zero, hrow.cell hi, ← e]) HJL.out)
      have HJE : Hid (joinL (fun j => (List.range 128).map (XX j)) k = joinL (fun t => (List.range 128).map (outRow k bd x t)) k) := Lib.hid (joinL_congr fun j hj => List.map_congr_left fun u hu => by
        have hu : u < 128 := by simpa using hu
        exact X4.out j (by omega) u hu)
      clear hc4 hx4 hb4 h4c HJL
      unfold maxLen at h4b
      go_wp2_with fail
      refine HCB.out.mono ?_
      rintro e w5 ⟨v5, rfl, h5, b5⟩
      have H5 := Lib.hid h5
      have B5 := Lib.hid (B4.out.trans (b5.mono B4.out.size))
      have HB45 := Lib.hid B4.out.size
      clear h5 b5
      go_wp2_with fail
      go_ret
      rw [← HJE.out]
      exact ⟨_, rfl, ⟨H5.out.1, H5.out.2.imp id fun ⟨g, cap, cur, e, q1, q2⟩ => ⟨g, cap, cur, e, Nat.le_trans HB45.out q1, q2⟩⟩, B5.out⟩
end Arr
end Go.Proofs.YtlhjpceaookanaaGreatDoor
