/-
  'parity.rising', 'parity.length', 'parity.alike' and 'parity.fault' with bad columns, each by a contract. Conditions: what is handed in reads as rows of bytes, and as a row of numbers.
-/
import Derived.Test.YtlhjpceaookanaaGreatDoorParTellsM
import Derived.Deep.Cut
import Derived.Test.YtlhjpceaookanaaGreatDoorParGrowM
import Derived.Test.YtlhjpceaookanaaGreatDoorArrCallsM
import Derived.Test.YtlhjpceaookanaaGreatDoorBytesM
namespace Go.Proofs.YtlhjpceaookanaaGreatDoor
open Go Go.RowKit
set_option maxRecDepth 100000
set_option linter.unusedVariables false

/-- n numbers that lie below block B -/
def RdZ (w : World) (B : Nat) (A : Option Addr) (n : Nat) (x : Nat → Int) : Prop :=
  ∀ i, i < n → ∃ b o, A = some ⟨b, o, none⟩ ∧ b < B ∧ w.cell? ⟨b, o + i, none⟩ = some (.int .i64 (x i))
theorem RdZ.below {w w' : World} {B B' n : Nat} {A : Option Addr} {x : Nat → Int} (h : RdZ w B A n x) (hb : Below B' w w') (hB : B ≤ B') : RdZ w' B A n x := by
  intro i hi
  obtain ⟨b, o, h1, h2, h3⟩ := h i hi
  exact ⟨b, o, h1, h2, (hb.cell (p := ⟨b, o + i, none⟩) (by show b < B'; omega)).trans h3⟩
theorem RdZ.drewN {w : World} {B n : Nat} {A : Option Addr} {x : Nat → Int} (h : RdZ w B A n x) (m : Nat) : RdZ (w.drewN m) B A n x := h
/-- the one ahead of number i -/
def prv (b : Nat → Int) (i : Nat) : Int := if i = 0 then -1 else b (i - 1)
theorem prv_succ (b : Nat → Int) (i : Nat) : prv b (i + 1) = b i := by unfold prv; rw [if_neg (by omega), Nat.add_sub_cancel]
/-- Are they numbers from 0 to n - 1, each above the one ahead of it? -/
def Rise (m : Nat) (b : Nat → Int) (n : Int) : Prop := ∀ i, i < m → prv b i < b i ∧ b i < n
theorem Rise.ge {m : Nat} {b : Nat → Int} {n : Int} (h : Rise m b n) : ∀ i, i < m → (i : Int) ≤ b i := by
  intro i
  induction i with
  | zero =>
    intro hi
    have := (h 0 hi).1
    unfold prv at this
    rw [if_pos rfl] at this
    omega
  | succ i ih =>
    intro hi
    have h1 := (h (i + 1) hi).1
    rw [prv_succ] at h1
    have := ih (by omega)
    omega
theorem Rise.lt {m : Nat} {b : Nat → Int} {n : Int} (h : Rise m b n) {i j : Nat} (hij : i < j) (hj : j < m) : b i < b j := by
  induction j with
  | zero => omega
  | succ j ih =>
    have h1 := (h (j + 1) hj).1
    rw [prv_succ] at h1
    by_cases e : i = j
    · rw [e]; exact h1
    · have := ih (by omega) (by omega)
      omega

set_option maxHeartbeats 400000 in
theorem rising_yes (m c B : Nat) (A : Option Addr) (b : Nat → Int) (n : Int) (w : World) (hr : RdZ w B A m b) (hm : m ≤ maxLen) (h : Rise m b n) : Calls Tryz.prog 110 #[.slice A m c, .int .i64 n] w fun e w' => e = .returned (.bool true) ∧ w = w' := by
  have HR := Lib.hid hr
  have HB := Lib.hid h
  unfold maxLen at hm
  clear hr h
  go_enter Tryz.func110, Tryz.ntmps110
  go_wp2
  go_loop [5, 10] (fun y x => ∃ i : Nat, i ≤ m ∧ x = .int .i64 i ∧ y = .int .i64 (prv b i)) (fun _ x => m - (intOf x).toNat)
  case atStart => exact ⟨0, by omega, rfl, rfl⟩
  case round =>
    obtain ⟨i, hi, rfl, rfl⟩ := hrel
    by_cases hlt : i < m
    · obtain ⟨bb, ob, rfl, _, hc⟩ := HR.out i hlt
      have hs := prv_succ b i
      obtain ⟨h1, h2⟩ := HB.out i hlt
      have t1 : (b i ≤ prv b i) = False := by simp; omega
      have t2 : (n ≤ b i) = False := by simp; omega
      have HS := Lib.hid hs
      clear h1 h2 hs
      generalize prv b i = p at *
      generalize b i = z at *
      go_wp2
      go_round
      case rel => exact ⟨i + 1, by omega, by go_num, by rw [HS.out]⟩
      case measure => simp [intOf]; omega
    · obtain rfl : i = m := by omega
      go_wp2
      go_ret
      exact ⟨rfl, rfl⟩

set_option maxHeartbeats 400000 in
theorem rising_no (m c B : Nat) (A : Option Addr) (b : Nat → Int) (n : Int) (w : World) (hr : RdZ w B A m b) (hm : m ≤ maxLen) (h : ¬ Rise m b n) : Calls Tryz.prog 110 #[.slice A m c, .int .i64 n] w fun e w' => e = .returned (.bool false) ∧ w = w' := by
  obtain ⟨i0, hi0, hbad, hgood⟩ := least_p (p := fun i => prv b i < b i ∧ b i < n) h
  have HR := Lib.hid hr
  have HG := Lib.hid hgood
  have HBAD := Lib.hid hbad
  unfold maxLen at hm
  clear hr h hgood hbad
  go_enter Tryz.func110, Tryz.ntmps110
  go_wp2
  go_loop [5, 10] (fun y x => ∃ i : Nat, i ≤ i0 ∧ x = .int .i64 i ∧ y = .int .i64 (prv b i)) (fun _ x => i0 - (intOf x).toNat)
  case atStart => exact ⟨0, by omega, rfl, rfl⟩
  case round =>
    obtain ⟨i, hi, rfl, rfl⟩ := hrel
    obtain ⟨bb, ob, rfl, _, hc⟩ := HR.out i (by omega)
    have i2 : (i : Int) < (m : Int) := by omega
    by_cases hlt : i < i0
    · have hs := prv_succ b i
      obtain ⟨h1, h2⟩ := HG.out i hlt
      have t1 : (b i ≤ prv b i) = False := by simp; omega
      have t2 : (n ≤ b i) = False := by simp; omega
      have HS := Lib.hid hs
      clear h1 h2 hs
      generalize prv b i = p at *
      generalize b i = z at *
      go_wp2
      go_round
      case rel => exact ⟨i + 1, by omega, by go_num, by rw [HS.out]⟩
      case measure => simp [intOf]; omega
    · obtain rfl : i = i0 := by omega
      have hb := HBAD.out
      by_cases h1 : b i ≤ prv b i
      · have t1 : (b i ≤ prv b i) = True := by simp; omega
        clear hb h1
        generalize prv b i = p at *
        generalize b i = z at *
        go_wp2
        go_ret
        exact ⟨rfl, rfl⟩
      · have t1 : (b i ≤ prv b i) = False := by simp; omega
        have t2 : (n ≤ b i) = True := by simp; omega
        clear hb h1
        generalize prv b i = p at *
        generalize b i = z at *
        go_wp2
        go_ret
        exact ⟨rfl, rfl⟩

/-- f is the first column that isn't bad -/
def First (m : Nat) (b : Nat → Int) (f : Nat) : Prop := f ≤ m ∧ (∀ j, j < f → b j = (j : Int)) ∧ (f < m → b f ≠ (f : Int))
theorem first_of (m : Nat) (b : Nat → Int) : ∃ f, First m b f := by
  by_cases h : ∀ i, i < m → b i = (i : Int)
  · exact ⟨m, Nat.le_refl _, h, fun e => absurd e (Nat.lt_irrefl _)⟩
  · obtain ⟨f, h1, h2, h3⟩ := least_p h
    exact ⟨f, by omega, h3, fun _ => h2⟩

set_option maxHeartbeats 400000 in
theorem length_at (k cd B m c B2 f : Nat) (A A2 : Option Addr) (ra : Nat → Option Addr) (rl rc : Nat → Nat) (x : Nat → Nat → Nat) (b : Nat → Int) (w : World) (hr : RdR w B A k ra rl rc x) (hz : RdZ w B2 A2 m b) (hf : First m b f) (hfk : f < k) (hk : k ≤ 16) (hm : m ≤ 16) :
    Calls Tryz.prog 101 #[.slice A k cd, .slice A2 m c] w fun e w' => e = .returned (.int .i64 (rl f : Nat)) ∧ w = w' := by
  obtain ⟨f1, f2, f3⟩ := hf
  have HR := Lib.hid hr
  have HZ := Lib.hid hz
  have H2 := Lib.hid f2
  have H3 := Lib.hid f3
  clear hr hz f2 f3
  go_enter Tryz.func101, Tryz.ntmps101
  go_wp2
  go_loop [9] (fun x => ∃ i : Nat, i ≤ f ∧ x = .int .i64 i) (fun x => f - (intOf x).toNat)
  case atStart => exact ⟨0, by omega, rfl⟩
  case round =>
    obtain ⟨i, hi, rfl⟩ := hrel
    obtain ⟨bx, ox, rfl, hbx, hcx, _⟩ := HR.out i (by omega)
    have i1 : (i : Int) < (k : Int) := by omega
    by_cases hlt : i < f
    · obtain ⟨bb, ob, rfl, _, hc⟩ := HZ.out i (by omega)
      have i2 : (i : Int) < (m : Int) := by omega
      rw [H2.out i hlt] at hc
      generalize ra i = r1 at *
      generalize rc i = c1 at *
      generalize rl i = n at *
      clear hbx
      go_wp2
      go_round
      case rel => exact ⟨i + 1, by omega, by go_num⟩
      case measure => simp [intOf]; omega
    · obtain rfl : i = f := by omega
      generalize ra i = r1 at *
      generalize rc i = c1 at *
      generalize hn : rl i = n at *
      have HN := Lib.hid hn
      clear hn hbx
      by_cases hm2 : i < m
      · obtain ⟨bb, ob, rfl, _, hc⟩ := HZ.out i hm2
        have i2 : (i : Int) < (m : Int) := by omega
        have hne : (b i != (i : Int)) = true := by rw [bne_iff_ne]; exact H3.out hm2
        generalize b i = z at *
        go_wp2
        go_ret
        exact ⟨by rw [HN.out]; rfl, rfl⟩
      · have i2 : (m : Int) ≤ (i : Int) := by omega
        go_wp2
        go_ret
        exact ⟨by rw [HN.out]; rfl, rfl⟩
/-- Have those that aren't bad the length n that a column may have? -/
def AlikeB (k m n : Nat) (b : Nat → Int) (rl : Nat → Nat) : Prop := 1 ≤ n ∧ n ≤ 4096 ∧ ∀ i, i < k → (∀ j, j < m → b j ≠ (i : Int)) → rl i = n
/-- the bad ones from number t on, q of them, as round i meets them -/
structure Left (w : World) (B : Nat) (v : Value) (m t q i : Nat) (b : Nat → Int) : Prop where
  sum : m = t + q
  row : ∃ A c, v = .slice A q c ∧ q ≤ c ∧ c ≤ maxLen ∧ RdZ w B A q (fun j => b (t + j))
  lo : ∀ j, j < t → b j < (i : Int)
  hi : ∀ j, t ≤ j → j < m → (i : Int) ≤ b j
section
variable {w : World} {B m t q i : Nat} {v : Value} {b : Nat → Int} {n : Int}
theorem Left.start {A : Option Addr} {c : Nat} (hz : RdZ w B A m b) (hc : m ≤ c) (hm : c ≤ maxLen) (hr : Rise m b n) : Left w B (.slice A m c) m 0 m 0 b :=
  ⟨by omega, ⟨A, c, rfl, hc, hm, fun j hj => by
    show ∃ b_1 o, A = some ⟨b_1, o, none⟩ ∧ b_1 < B ∧ w.cell? ⟨b_1, o + j, none⟩ = some (.int .i64 (b (0 + j)))
    rw [Nat.zero_add]; exact hz j hj⟩, fun j hj => absurd hj (by omega), fun j _ hj => by have := hr.ge j hj; omega⟩
/-- round i's column is not bad -/
theorem Left.keep (h : Left w B v m t q i b) (hn : q = 0 ∨ b t ≠ (i : Int)) (hr : Rise m b n) : Left w B v m t q (i + 1) b :=
  ⟨h.sum, h.row, fun j hj => by have := h.lo j hj; omega, fun j h1 h2 => by
    have hs := h.sum
    rcases hn with hn | hn
    · omega
    · have h3 := h.hi j h1 h2
      have h4 := h.hi t (Nat.le_refl _) (by omega)
      by_cases e : t = j
      · subst e; omega
      · have := hr.lt (show t < j by omega) h2
        omega⟩
theorem Left.not_bad (h : Left w B v m t q i b) (hn : q = 0 ∨ b t ≠ (i : Int)) (hr : Rise m b n) : ∀ j, j < m → b j ≠ (i : Int) := fun j hj => by
  by_cases e : j < t
  · have := h.lo j e; omega
  · have := (h.keep hn hr).hi j (by omega) hj
    omega
theorem Left.next {A : Option Addr} {c : Nat} (h : Left w B v m t (q + 1) i b) (hr : Rise m b n) (hb : b t = (i : Int)) (hc : q ≤ c) (hm : c ≤ maxLen) (hz : RdZ w B A q (fun j => b (t + 1 + j))) : Left w B (.slice A q c) m (t + 1) q (i + 1) b :=
  ⟨by have := h.sum; omega, ⟨A, c, rfl, hc, hm, hz⟩, fun j hj => by
    by_cases e : j < t
    · have := h.lo j e; omega
    · obtain rfl : j = t := by omega
      omega, fun j h1 h2 => by
    have := hr.lt (show t < j by omega) h2
    omega⟩
end

set_option maxHeartbeats 800000 in
theorem alike_bad (k cd B m c B2 f : Nat) (A A2 : Option Addr) (ra : Nat → Option Addr) (rl rc : Nat → Nat) (x : Nat → Nat → Nat) (b : Nat → Int) (w : World) (hr : RdR w B A k ra rl rc x) (hz : RdZ w B2 A2 m b) (hmc : m ≤ c) (hcm : c ≤ maxLen) (hri : Rise m b (k : Int)) (hf : First m b f) (hfk : f < k) (hk : k ≤ 16) (hm : m ≤ 16) (ha : AlikeB k m (rl f) b rl) :
    Calls Tryz.prog 81 #[.slice A k cd, .slice A2 m c] w fun e w' => e = .returned (.bool true) ∧ w = w' := by
  obtain ⟨h1, h2, h3⟩ := ha
  have HA := Lib.hid h3
  have HR := Lib.hid hr
  have HZ := Lib.hid hz
  have HRI := Lib.hid hri
  have HF := Lib.hid hf
  have L0 : Hid (Left w B2 (.slice A2 m c) m 0 m 0 b) := Lib.hid (Left.start hz hmc hcm hri)
  have t1 : ((rl f : Int) < 1) = False := by simp; omega
  have t2 : ((4096 : Int) < (rl f : Int)) = False := by simp; omega
  clear h3 hr hz hri hf
  go_enter Tryz.func81, Tryz.ntmps81
  go_wp2_with fail
  refine (length_at k cd B m c B2 f A A2 ra rl rc x b _ HR.out HZ.out HF.out hfk hk hm).mono ?_
  rintro e w1 ⟨rfl, rfl⟩
  generalize hn : rl f = n at *
  have HN := Lib.hid hn
  clear hn
  go_wp2_with fail
  go_loop [1, 19] (fun y x => ∃ i t q : Nat, i ≤ k ∧ x = .int .i64 i ∧ Hid (Left w B2 y m t q i b)) (fun _ x => k - (intOf x).toNat)
  case atStart => exact ⟨0, 0, m, by omega, rfl, L0⟩
  case round =>
    clear L0
    obtain ⟨i, t, q, hi, rfl, L⟩ := hrel
    by_cases hlt : i < k
    · obtain ⟨bx, ox, rfl, hbx, hcx, _⟩ := HR.out i hlt
      obtain ⟨A', c', rfl, hqc, hcm', hz'⟩ := L.out.row
      unfold maxLen at hcm'
      clear hbx
      by_cases hq : q = 0
      · subst hq
        rw [HA.out i hlt (L.out.not_bad (.inl rfl) HRI.out)] at hcx
        have L2 := Lib.hid (L.out.keep (.inl rfl) HRI.out)
        generalize ra i = r1 at *
        generalize rc i = c1 at *
        clear L hz'
        go_wp2_with fail
        go_round
        case rel => exact ⟨i + 1, t, 0, by omega, by go_num, L2⟩
        case measure => simp [intOf]; omega
      · obtain ⟨q, rfl⟩ : ∃ q', q = q' + 1 := ⟨q - 1, by omega⟩
        obtain ⟨bb, ob, rfl, hbb, hcb⟩ := hz' 0 (by omega)
        have hcb : w.cell? ⟨bb, ob, none⟩ = some (.int .i64 (b t)) := hcb
        by_cases hb : b t = (i : Int)
        · have hz2 : RdZ w B2 (some ⟨bb, ob + 1, none⟩) q (fun j => b (t + 1 + j)) := fun j hj => by
            obtain ⟨b', o', e, h1, h2⟩ := hz' (j + 1) (by omega)
            injection e with e
            injection e with e1 e2
            subst e1; subst e2
            refine ⟨bb, ob + 1, rfl, h1, ?_⟩
            rw [show ob + 1 + j = ob + (j + 1) by omega]
            show _ = some (Value.int .i64 (b (t + 1 + j)))
            rw [show t + 1 + j = t + (j + 1) by omega]
            exact h2
          have hz3 : q = 0 → RdZ w B2 (some ⟨bb, ob, none⟩) q (fun j => b (t + 1 + j)) := fun e j hj => absurd hj (by omega)
          rw [hb] at hcb
          have HZ2 := Lib.hid hz2
          have HZ3 := Lib.hid hz3
          have HB := Lib.hid hb
          have L2 := fun A c h1 h2 h3 => Lib.hid (L.out.next (A := A) (c := c) HRI.out HB.out h1 h2 h3)
          have HL2 := Lib.hid L2
          have hsub : IntKind.i64.wrap (((q + 1 : Nat) : Int) - 1) = (q : Int) := by rw [IntKind.wrap_i64]; omega
          generalize ra i = r1 at *
          generalize rc i = c1 at *
          generalize rl i = l1 at *
          clear hz' hz2 hz3 hbb hb L2 L
          by_cases hc1 : c' = 1
          · subst hc1
            obtain rfl : q = 0 := by omega
            go_wp2_with fail
            go_round
            case rel => exact ⟨i + 1, t + 1, 0, by omega, by go_num, HL2.out _ _ (by omega) (by unfold maxLen; omega) (HZ3.out rfl)⟩
            case measure => simp [intOf]; omega
          · have hc2 : 1 < c' := by omega
            go_wp2_with fail
            go_round
            case rel => exact ⟨i + 1, t + 1, q, by omega, by go_num, HL2.out _ _ (by omega) (by unfold maxLen; omega) HZ2.out⟩
            case measure => simp [intOf]; omega
        · have hne : (b t == (i : Int)) = false := by rw [beq_eq_false_iff_ne]; exact hb
          rw [HA.out i hlt (L.out.not_bad (.inr hb) HRI.out)] at hcx
          have L2 := Lib.hid (L.out.keep (.inr hb) HRI.out)
          generalize ra i = r1 at *
          generalize rc i = c1 at *
          generalize b t = z at *
          clear L hz' hbb hb
          go_wp2_with fail
          go_round
          case rel => exact ⟨i + 1, t, q + 1, by omega, by go_num, L2⟩
          case measure => simp [intOf]; omega
    · obtain rfl : i = k := by omega
      go_wp2_with fail
      go_ret
      exact ⟨rfl, rfl⟩

set_option maxHeartbeats 800000 in
theorem fault_none (k cd B m c B2 f : Nat) (A A2 : Option Addr) (ra : Nat → Option Addr) (rl rc : Nat → Nat) (x : Nat → Nat → Nat) (b : Nat → Int) (w : World) (hr : RdR w B A k ra rl rc x) (hz : RdZ w B2 A2 m b) (hmc : m ≤ c) (hcm : c ≤ maxLen) (hri : Rise m b (k : Int)) (hf : First m b f) (hfk : f < k) (hk4 : 4 ≤ k) (hk : k ≤ 16) (hm : m ≤ 3) (ha : AlikeB k m (rl f) b rl) :
    Calls Tryz.prog 97 #[.slice A k cd, .slice A2 m c] w fun e w' => e = .returned (.int .i64 0) ∧ w = w' := by
  have HA := Lib.hid ha
  have HR := Lib.hid hr
  have HZ := Lib.hid hz
  have HRI := Lib.hid hri
  have HF := Lib.hid hf
  have HC := Lib.hid hcm
  have t1 : ((k : Int) < 4) = False := by simp; omega
  have t2 : ((16 : Int) < (k : Int)) = False := by simp; omega
  have t3 : ((m : Int) == (k : Int)) = false := by rw [beq_eq_false_iff_ne]; omega
  have t4 : ((3 : Int) < (m : Int)) = False := by simp; omega
  have hmm : m ≤ maxLen := by unfold maxLen; omega
  clear ha hr hz hri hf hcm
  go_enter Tryz.func97, Tryz.ntmps97
  go_wp2_with fail
  refine (rising_yes m c B2 A2 b _ _ HZ.out hmm HRI.out).mono ?_
  rintro e w1 ⟨rfl, rfl⟩
  go_wp2_with fail
  refine (alike_bad k cd B m c B2 f A A2 ra rl rc x b _ HR.out HZ.out hmc HC.out HRI.out HF.out hfk hk (by omega) HA.out).mono ?_
  rintro e w1 ⟨rfl, rfl⟩
  go_wp2_with fail
  go_ret
  exact ⟨rfl, rfl⟩
set_option maxHeartbeats 800000 in
theorem fault_many (k cd B m c B2 f : Nat) (A A2 : Option Addr) (ra : Nat → Option Addr) (rl rc : Nat → Nat) (x : Nat → Nat → Nat) (b : Nat → Int) (w : World) (hr : RdR w B A k ra rl rc x) (hz : RdZ w B2 A2 m b) (hmc : m ≤ c) (hcm : c ≤ maxLen) (hri : Rise m b (k : Int)) (hf : First m b f) (hfk : f < k) (hk4 : 4 ≤ k) (hk : k ≤ 16) (hm3 : 3 < m) (hmk : m ≠ k) (hm : m ≤ 16) (ha : AlikeB k m (rl f) b rl) :
    Calls Tryz.prog 97 #[.slice A k cd, .slice A2 m c] w fun e w' => e = .returned (.int .i64 4) ∧ w = w' := by
  have HA := Lib.hid ha
  have HR := Lib.hid hr
  have HZ := Lib.hid hz
  have HRI := Lib.hid hri
  have HF := Lib.hid hf
  have HC := Lib.hid hcm
  have t1 : ((k : Int) < 4) = False := by simp; omega
  have t2 : ((16 : Int) < (k : Int)) = False := by simp; omega
  have t3 : ((m : Int) == (k : Int)) = false := by rw [beq_eq_false_iff_ne]; omega
  have t4 : ((3 : Int) < (m : Int)) = True := by simp; omega
  have hmm : m ≤ maxLen := by unfold maxLen; omega
  clear ha hr hz hri hf hcm
  go_enter Tryz.func97, Tryz.ntmps97
  go_wp2_with fail
  refine (rising_yes m c B2 A2 b _ _ HZ.out hmm HRI.out).mono ?_
  rintro e w1 ⟨rfl, rfl⟩
  go_wp2_with fail
  refine (alike_bad k cd B m c B2 f A A2 ra rl rc x b _ HR.out HZ.out hmc HC.out HRI.out HF.out hfk hk hm HA.out).mono ?_
  rintro e w1 ⟨rfl, rfl⟩
  go_wp2_with fail
  go_ret
  exact ⟨rfl, rfl⟩
set_option maxHeartbeats 800000 in
theorem fault_order (k cd B m c B2 : Nat) (A A2 : Option Addr) (ra : Nat → Option Addr) (rl rc : Nat → Nat) (x : Nat → Nat → Nat) (b : Nat → Int) (w : World) (hz : RdZ w B2 A2 m b) (hm : m ≤ maxLen) (hri : ¬ Rise m b (k : Int) ∨ m = k) (hk4 : 4 ≤ k) (hk : k ≤ 16) :
    Calls Tryz.prog 97 #[.slice A k cd, .slice A2 m c] w fun e w' => e = .returned (.int .i64 1) ∧ w = w' := by
  have HZ := Lib.hid hz
  have t1 : ((k : Int) < 4) = False := by simp; omega
  have t2 : ((16 : Int) < (k : Int)) = False := by simp; omega
  by_cases hr : Rise m b (k : Int)
  · have hmk : m = k := hri.resolve_left (fun h => h hr)
    have t3 : ((m : Int) == (k : Int)) = true := by rw [beq_iff_eq]; omega
    have HRI := Lib.hid hr
    clear hz hri hr hmk
    go_enter Tryz.func97, Tryz.ntmps97
    go_wp2_with fail
    refine (rising_yes m c B2 A2 b _ _ HZ.out hm HRI.out).mono ?_
    rintro e w1 ⟨rfl, rfl⟩
    go_wp2_with fail
    go_ret
    exact ⟨rfl, rfl⟩
  · have HRI := Lib.hid hr
    clear hz hri hr
    go_enter Tryz.func97, Tryz.ntmps97
    go_wp2_with fail
    refine (rising_no m c B2 A2 b _ _ HZ.out hm HRI.out).mono ?_
    rintro e w1 ⟨rfl, rfl⟩
    go_wp2_with fail
    go_ret
    exact ⟨rfl, rfl⟩
end Go.Proofs.YtlhjpceaookanaaGreatDoor
namespace Go.Proofs.YtlhjpceaookanaaGreatDoor
open Go Go.RowKit
set_option maxRecDepth 100000
set_option linter.unusedVariables false

/-- Is column i bad? -/
def isB (m : Nat) (b : Nat → Int) (i : Nat) : Bool := (List.range m).any fun j => b j == (i : Int)
theorem isB_true {m i j : Nat} {b : Nat → Int} (hj : j < m) (h : b j = (i : Int)) : isB m b i = true := by
  unfold isB
  rw [List.any_eq_true]
  exact ⟨j, by simpa using hj, by simpa using h⟩
theorem isB_false {m i : Nat} {b : Nat → Int} (h : ∀ j, j < m → b j ≠ (i : Int)) : isB m b i = false := by
  unfold isB
  rw [List.any_eq_false]
  intro j hj
  simpa using h j (by simpa using hj)
/-- the columns, noughts for those that are bad -/
def goodX (m : Nat) (b : Nat → Int) (x : Nat → Nat → Nat) (j : Nat) : Nat → Nat := if isB m b j then fun _ => 0 else x j
/-- behind i rounds of 'whole' -/
structure WholeAt (w0 w : World) (n k i : Nat) (X : Nat → Nat → Nat) : Prop where
  head : Blk w w0.heap.size 36 (hdP k n i (fun j => w0.heap.size + 1 + j))
  row : ∀ j, j < i → Blk w (w0.heap.size + 1 + j) 5 (rowArr n (X j))
  size : w.heap.size = w0.heap.size + 1 + i
  below : Below w0.heap.size w0 w
theorem WholeAt.cols {w0 w : World} {n k : Nat} {X : Nat → Nat → Nat} (h : WholeAt w0 w n k k X) (hk : k ≤ 16) (hn : n ≤ 4096) :
    Cols w w0.heap.size (.slice (some ⟨w0.heap.size, 0, none⟩) k k) k n (fun j => (some ⟨w0.heap.size + 1 + j, 0, none⟩, n, n)) (fun j => w0.heap.size + 1 + j) X := by
  refine ⟨.inr ⟨w0.heap.size, k, _, (0, 0), rfl, Nat.le_refl _, h.head, .inl (Nat.le_refl _), Nat.le_refl _, by unfold maxLen; omega, by simp [hdP], fun j hj => ?_⟩, fun j hj => ⟨n, rfl, Nat.le_refl _, by unfold maxLen; omega⟩, fun j hj => ⟨by omega, RowG.of_blk (h.row j hj) (Nat.le_refl _)⟩, fun j j' h1 h2 => by omega⟩
  rw [hdP_get hj, if_pos hj]
  rfl
theorem Left.below {w w' : World} {B B' m t q i : Nat} {v : Value} {b : Nat → Int} (h : Left w B v m t q i b) (hb : Below B' w w') (hB : B ≤ B') : Left w' B v m t q i b := by
  obtain ⟨g1, ⟨A', c', g2, g3, g4, g5⟩, g6, g7⟩ := h
  exact ⟨g1, ⟨A', c', g2, g3, g4, g5.below hb hB⟩, g6, g7⟩
theorem rowArr_ext {n : Nat} {X Y : Nat → Nat} (h : ∀ v, v < n → X v = Y v) : rowArr n X = rowArr n Y := rowArr_congr h
theorem WholeAt.next {w0 W w2 : World} {z n k i : Nat} {X : Nat → Nat → Nat} {Y : Nat → Nat} (hz : w0.heap.size = z) (hd : Blk W z 36 (hdP k n (i + 1) (fun j => z + 1 + j))) (he : ∀ j, j < i → Blk W (z + 1 + j) 5 (rowArr n (X j)))
    (hs : W.heap.size = z + 1 + i + 1) (hb0 : Below z w0 W) (hb : Blk w2 (z + 1 + i) 5 (rowArr n Y)) (ho : Only (z + 1 + i) W w2) (hs2 : w2.heap.size = W.heap.size) (hY : ∀ v, v < n → Y v = X i v) : WholeAt w0 w2 n k (i + 1) X := by
  subst hz
  refine ⟨ho.blk hd (by omega), fun j hj => ?_, by omega, hb0.trans (ho.below (by omega) (by omega))⟩
  by_cases e : j = i
  · subst e
    rw [← rowArr_ext hY]
    exact hb
  · exact ho.blk (he j (by omega)) (by omega)
set_option maxHeartbeats 3200000 in
theorem whole_any (k cd B m c B2 f : Nat) (A A2 : Option Addr) (ra : Nat → Option Addr) (rl rc : Nat → Nat) (x : Nat → Nat → Nat) (b : Nat → Int) (w : World) (hr : RdR w B A k ra rl rc x) (hz : RdZ w B2 A2 m b) (hB : B ≤ w.heap.size) (hB2 : B2 ≤ w.heap.size) (hmc : m ≤ c) (hcm : c ≤ maxLen) (hri : Rise m b (k : Int)) (hf : First m b f) (hfk : f < k) (hk : k ≤ 16) (hm : m ≤ 16) (ha : AlikeB k m (rl f) b rl) :
    Calls Tryz.prog 98 #[.slice A k cd, .slice A2 m c] w fun e w' => e = .returned (.slice (some ⟨w.heap.size, 0, none⟩) k k) ∧ WholeAt w w' (rl f) k k (goodX m b x) := by
  obtain ⟨h1, h2, h3⟩ := ha
  have HA := Lib.hid h3
  have HR := Lib.hid hr
  have HZ := Lib.hid hz
  have HRI := Lib.hid hri
  have HF := Lib.hid hf
  have HBB := Lib.hid (And.intro hB hB2)
  have L0 : Hid (Left w B2 (.slice A2 m c) m 0 m 0 b) := Lib.hid (Left.start hz hmc hcm hri)
  clear h3 hr hz hri hf hB hB2
  go_enter Tryz.func98, Tryz.ntmps98
  go_wp2_with fail
  refine (length_at k cd B m c B2 f A A2 ra rl rc x b _ HR.out HZ.out HF.out hfk hk hm).mono ?_
  rintro e w1 ⟨rfl, rfl⟩
  generalize hn : rl f = n at *
  have HN := Lib.hid hn
  clear hn
  have hmk : ∀ W : World, (Instr.makeSlice 77 (.int .i64 (k : Int)) (.int .i64 (k : Int))).run Tryz.prog W = .ok (.slice (some ⟨W.heap.size, 0, none⟩) k k) (W.alloc (.cells (hdP k n 0 (fun j => w.heap.size + 1 + j)) 36)) := fun W => make_rows k n (fun j => w.heap.size + 1 + j) (by omega) W
  have hmb := fun W => make_bytes n (by omega) W (n : Int) rfl
  have J0 : Hid (WholeAt w (w.alloc (.cells (hdP k n 0 (fun j => w.heap.size + 1 + j)) 36)) n k 0 (goodX m b x)) :=
    Lib.hid ⟨Blk.new _ _ _, fun j hj => absurd hj (by omega), by simp, (Below.refl _ _).alloc (Nat.le_refl _) _⟩
  go_wp2_with fail
  clear hmk
  generalize hwz : w.heap.size = z at *
  have HWZ := Lib.hid hwz
  clear hwz
  go_loopw [1, 17] (fun y x' wr => ∃ i t q : Nat, i ≤ k ∧ x' = .int .i64 i ∧ Hid (Left wr B2 y m t q i b) ∧ Hid (WholeAt w wr n k i (goodX m b x))) (fun _ x' _ => k - (intOf x').toNat)
  case atStart => exact ⟨0, 0, m, by omega, rfl, Lib.hid (by
    have h := J0.out.below
    obtain ⟨g1, ⟨A', c', g2, g3, g4, g5⟩, g6, g7⟩ := L0.out
    exact ⟨g1, ⟨A', c', g2, g3, g4, g5.below h (by rw [HWZ.out]; exact HBB.out.2)⟩, g6, g7⟩), J0⟩
  case round =>
    clear L0 J0
    obtain ⟨i, t, q, hi, rfl, L, H⟩ := hrel
    by_cases hlt : i < k
    · have hsz := H.out.size
      rw [HWZ.out] at hsz
      have hh := H.out.head
      rw [HWZ.out] at hh
      have HBE := Lib.hid (H.out.below)
      obtain ⟨bx, ox, rfl, hbx, hcx, hrx⟩ := (HR.out.below HBE.out (by rw [HWZ.out]; exact HBB.out.1)) i hlt
      obtain ⟨A', c', rfl, hqc, hcm', hz'⟩ := L.out.row
      unfold maxLen at hcm'
      have hzl := hh.lt
      have hbz : bx < z := by have := HBB.out.1; omega
      -- the world behind the new row
      have c1 : ∀ o, (wr.alloc o).cell? ⟨z, i, none⟩ = some (.slice none 0 0) := fun o => by
        rw [(hh.alloc o).cell, hdP_get hlt, if_neg (by omega)]
      have f1 : ∀ o, (wr.alloc o).frozen? ⟨z, i, none⟩ = false := fun o => (hh.alloc o).frozen i
      obtain ⟨W, hW⟩ : ∃ W, W = (wr.alloc (.cells (rowArr n fun _ => 0) 5)).setCell ⟨z, i, none⟩ (.slice (some ⟨z + 1 + i, 0, none⟩) n n) := ⟨_, rfl⟩
      have G1 : Hid (Blk W (z + 1 + i) 5 (rowArr n fun _ => 0)) := by
        have h := (Blk.new wr 5 (rowArr n fun _ => 0)).far (p := ⟨z, i, none⟩) (show wr.heap.size ≠ z by omega) (.slice (some ⟨z + 1 + i, 0, none⟩) n n)
        rw [hW]
        rw [hsz] at h
        exact h
      have D1 : Hid (Blk W z 36 (hdP k n (i + 1) (fun j => z + 1 + j))) := by
        have h := (hh.alloc (.cells (rowArr n fun _ => 0) 5)).set_ i (.slice (some ⟨z + 1 + i, 0, none⟩) n n)
        rw [hdP_set (R := fun j => z + 1 + j) hlt] at h
        rw [hW]
        exact h
      have E1 : Hid (∀ j, j < i → Blk W (z + 1 + j) 5 (rowArr n (goodX m b x j))) := by
        intro j hj
        have h := H.out.row j hj
        rw [HWZ.out] at h
        rw [hW]
        exact (h.alloc _).far (p := ⟨z, i, none⟩) (show z + 1 + j ≠ z by omega) _
      have S1 : Hid (W.heap.size = z + 1 + i + 1) := by
        show _ = _
        rw [hW]
        simp [hsz]
      have B1 : Hid (Below z wr W) := by
        rw [hW]
        exact ((Below.refl z wr).alloc (by omega) _).setCell (p := ⟨z, i, none⟩) (Nat.le_refl _) _
      have B0 : Hid (Below z w W) := Lib.hid ((HWZ.out ▸ HBE.out).trans B1.out)
      have cx : W.cell? ⟨bx, ox + i, none⟩ = some (.slice (ra i) (rl i) (rc i)) := (B1.out.cell (p := ⟨bx, ox + i, none⟩) hbz).trans hcx
      have HRX := Lib.hid (hrx.below B1.out HBB.out.1)
      have d1 : W.cell? ⟨z, i, none⟩ = some (.slice (some ⟨z + 1 + i, 0, none⟩) n n) := by rw [D1.out.cell, hdP_get hlt, if_pos (by omega)]
      have HWW := Lib.hid hW
      have HR' := Lib.hid hz'
      clear hW hh hrx hbx
      go_upto_region 7 with (fail)
      rw [← HWW.out]
      have zl : z ≤ W.heap.size := by have := S1.out; omega
      have LW := Lib.hid (L.out.below B1.out HBB.out.2)
      clear c1 f1 hcx hmb hbz HWW hzl L
      by_cases hq : q = 0
      · subst hq
        have hnb := LW.out.not_bad (.inl rfl) HRI.out
        rw [HA.out i hlt hnb] at cx ⊢
        have HRX2 := HRX.out
        rw [HA.out i hlt hnb] at HRX2
        have HRX3 := Lib.hid HRX2
        have L2 := Lib.hid (LW.out.keep (.inl rfl) HRI.out)
        have HGX : Hid (goodX m b x i = x i) := by unfold goodX; show _ = _; rw [isB_false hnb]; rfl
        clear hz' HRX HRX2 hnb
        generalize ra i = r1 at *
        generalize rc i = c1 at *
        go_wp2_with ((with_reducible refine wpList_copyRd rfl (.tmp 42) (.tmp 43) _ _ rfl Tryz.underlying36 (z + 1 + i) n n c1 B r1 rfl rfl (fun _ => 0) (x i) G1.out HRX3.out (Nat.le_refl _) ?_); intro w2 hb2 ho2 hs2; refine of_hid ?_)
        refine Lib.hid ?_
        have H2 := Lib.hid (WholeAt.next HWZ.out D1.out E1.out S1.out B0.out hb2 ho2 hs2 (fun v hv => by rw [if_pos hv, HGX.out]))
        have L3 := Lib.hid (L2.out.below (ho2.below (B := B2) (by have := HBB.out.2; omega) (by have := HBB.out.2; omega)) (Nat.le_refl _))
        clear hb2 ho2 hs2 L2 G1 D1 E1 B1 B0 H LW
        go_wp2_with fail
        go_roundw
        case rel => exact ⟨i + 1, t, 0, by omega, by go_num, L3, H2⟩
        case measure => simp [intOf]; omega
      · obtain ⟨q, rfl⟩ : ∃ q', q = q' + 1 := ⟨q - 1, by omega⟩
        obtain ⟨bb, ob, rfl, hbb, hcb⟩ := hz' 0 (by omega)
        have hcb : W.cell? ⟨bb, ob, none⟩ = some (.int .i64 (b t)) := (B1.out.cell (p := ⟨bb, ob, none⟩) (by have := HBB.out.2; show bb < z; omega)).trans hcb
        by_cases hb : b t = (i : Int)
        · have hz2 : RdZ W B2 (some ⟨bb, ob + 1, none⟩) q (fun j => b (t + 1 + j)) := fun j hj => by
            obtain ⟨b', o', e, h1, h2⟩ := (hz'.below B1.out HBB.out.2) (j + 1) (by omega)
            injection e with e
            injection e with e1 e2
            subst e1; subst e2
            refine ⟨bb, ob + 1, rfl, h1, ?_⟩
            rw [show ob + 1 + j = ob + (j + 1) by omega]
            show _ = some (Value.int .i64 (b (t + 1 + j)))
            rw [show t + 1 + j = t + (j + 1) by omega]
            exact h2
          have hz3 : q = 0 → RdZ W B2 (some ⟨bb, ob, none⟩) q (fun j => b (t + 1 + j)) := fun e j hj => absurd hj (by omega)
          have hsum := LW.out.sum
          rw [hb] at hcb
          have HZ2 := Lib.hid hz2
          have HZ3 := Lib.hid hz3
          have HB := Lib.hid hb
          have HL2 := Lib.hid (fun A c h1 h2 h3 => Lib.hid (LW.out.next (A := A) (c := c) HRI.out HB.out h1 h2 h3))
          have H2 := Lib.hid (WholeAt.next (X := goodX m b x) HWZ.out D1.out E1.out S1.out B0.out G1.out (Only.refl _ _) rfl (fun v hv => by unfold goodX; rw [isB_true (by omega) HB.out]; rfl))
          generalize ra i = r1 at *
          generalize rc i = c1 at *
          generalize rl i = l1 at *
          clear hz' hz2 hz3 hbb hb LW G1 D1 E1 B1 B0 H HRX hsum
          by_cases hc1 : c' = 1
          · subst hc1
            obtain rfl : q = 0 := by omega
            go_wp2_with fail
            go_roundw
            case rel => exact ⟨i + 1, t + 1, 0, by omega, by go_num, HL2.out _ _ (by omega) (by unfold maxLen; omega) (HZ3.out rfl), H2⟩
            case measure => simp [intOf]; omega
          · have hc2 : 1 < c' := by omega
            go_wp2_with fail
            go_roundw
            case rel => exact ⟨i + 1, t + 1, q, by omega, by go_num, HL2.out _ _ (by omega) (by unfold maxLen; omega) HZ2.out, H2⟩
            case measure => simp [intOf]; omega
        · have hne : (b t == (i : Int)) = false := by rw [beq_eq_false_iff_ne]; exact hb
          have hnb := LW.out.not_bad (.inr hb) HRI.out
          rw [HA.out i hlt hnb] at cx ⊢
          have HRX2 := HRX.out
          rw [HA.out i hlt hnb] at HRX2
          have HRX3 := Lib.hid HRX2
          have L2 := Lib.hid (LW.out.keep (.inr hb) HRI.out)
          have HGX : Hid (goodX m b x i = x i) := by unfold goodX; show _ = _; rw [isB_false hnb]; rfl
          clear hz' HRX HRX2 hnb hbb hb
          generalize ra i = r1 at *
          generalize rc i = c1 at *
          generalize b t = bt at *
          go_wp2_with ((with_reducible refine wpList_copyRd rfl (.tmp 42) (.tmp 43) _ _ rfl Tryz.underlying36 (z + 1 + i) n n c1 B r1 rfl rfl (fun _ => 0) (x i) G1.out HRX3.out (Nat.le_refl _) ?_); intro w2 hb2 ho2 hs2; refine of_hid ?_)
          refine Lib.hid ?_
          have H2 := Lib.hid (WholeAt.next HWZ.out D1.out E1.out S1.out B0.out hb2 ho2 hs2 (fun v hv => by rw [if_pos hv, HGX.out]))
          have L3 := Lib.hid (L2.out.below (ho2.below (B := B2) (by have := HBB.out.2; omega) (by have := HBB.out.2; omega)) (Nat.le_refl _))
          clear hb2 ho2 hs2 L2 G1 D1 E1 B1 B0 H LW
          go_wp2_with fail
          go_roundw
          case rel => exact ⟨i + 1, t, q + 1, by omega, by go_num, L3, H2⟩
          case measure => simp [intOf]; omega
    · obtain rfl : i = k := by omega
      go_wp2_with fail
      go_ret
      exact ⟨by rw [HWZ.out]; rfl, by rw [HN.out]; exact H.out⟩
end Go.Proofs.YtlhjpceaookanaaGreatDoor
namespace Go.Proofs.YtlhjpceaookanaaGreatDoor
open Go Go.RowKit
set_option maxRecDepth 100000
set_option linter.unusedVariables false
theorem len_rows (ty : TypeId) (A : Option Addr) (n c : Nat) (w : World) : (Builtin.len_ #[77] ty #[.slice A n c]).run Tryz.prog w = .ok (.int .i64 (n : Int)) w := by
  simp [Builtin.len_, Builtin.lenOf, goInt, run_underlying Tryz.underlying77]
theorem neq_int_t (a b : Nat) (h : a ≠ b) (w : World) : (binOp .neq 3 (.int .i64 (a : Int)) (.int .i64 (b : Int))).run Tryz.prog w = .ok (.bool true) w := by
  have e : (!((a : Int) == (b : Int))) = true := by
    rw [Bool.not_eq_true', beq_eq_false_iff_ne]; omega
  have h : (binOp .neq 3 (.int .i64 (a : Int)) (.int .i64 (b : Int))).run Tryz.prog w = .ok (.bool (!((a : Int) == (b : Int)))) w := by kernel_rfl
  rw [h, e]
theorem neq_int_f (a : Nat) (w : World) : (binOp .neq 3 (.int .i64 (a : Int)) (.int .i64 (a : Int))).run Tryz.prog w = .ok (.bool false) w := by
  have h : (binOp .neq 3 (.int .i64 (a : Int)) (.int .i64 (a : Int))).run Tryz.prog w = .ok (.bool (!((a : Int) == (a : Int)))) w := by kernel_rfl
  rw [h, beq_self_eq_true]
  rfl
theorem neq_int_same {a b : Nat} (h : a = b) (w : World) : (binOp .neq 3 (.int .i64 (a : Int)) (.int .i64 (b : Int))).run Tryz.prog w = .ok (.bool false) w := by
  subst h
  exact neq_int_f a w
theorem neq_u8_same {a b : Nat} (h : a = b) (w : World) : (binOp .neq 5 (.int .u8 (a : Int)) (.int .u8 (b : Int))).run Tryz.prog w = .ok (.bool false) w := by
  subst h
  have h : (binOp .neq 5 (.int .u8 (a : Int)) (.int .u8 (a : Int))).run Tryz.prog w = .ok (.bool (!((a : Int) == (a : Int)))) w := by kernel_rfl
  rw [h, beq_self_eq_true]
  rfl
theorem index_rows (b o n c i : Nat) (h : i < n) (w : World) : (Instr.indexAt 77 (.slice (some ⟨b, o, none⟩) n c) (.int .i64 (i : Int))).run Tryz.prog w = .ok (.pointer (some ⟨b, o + i, none⟩)) w :=
  index_slice (P := Tryz.prog) (t := 77) (e := 36) Tryz.underlying77 (by kernel_rfl) b o n c i h w
theorem index_rows_zero (b n c i : Nat) (h : i < n) (w : World) : (Instr.indexAt 77 (.slice (some ⟨b, 0, none⟩) n c) (.int .i64 (i : Int))).run Tryz.prog w = .ok (.pointer (some ⟨b, i, none⟩)) w := by
  have h := index_rows b 0 n c i h w
  rw [Nat.zero_add] at h
  exact h
theorem index_bytes (b o n c i : Nat) (h : i < n) (w : World) : (Instr.indexAt 36 (.slice (some ⟨b, o, none⟩) n c) (.int .i64 (i : Int))).run Tryz.prog w = .ok (.pointer (some ⟨b, o + i, none⟩)) w :=
  index_slice (P := Tryz.prog) (t := 36) (e := 5) Tryz.underlying36 size_u8 b o n c i h w
theorem RdR.head {w : World} {B n i b o : Nat} {ra : Nat → Option Addr} {rl rc : Nat → Nat} {x : Nat → Nat → Nat} (h : RdR w B (some ⟨b, o, none⟩) n ra rl rc x) (hi : i < n) : b < B ∧ w.cell? ⟨b, o + i, none⟩ = some (.slice (ra i) (rl i) (rc i)) ∧ RdB w B (ra i) (rl i) (x i) := by
  obtain ⟨b', o', q, h1, h2, h3⟩ := h i hi
  injection q with q
  injection q with q1 q2
  subst q1; subst q2
  exact ⟨h1, h2, h3⟩
theorem RdB.at_ {w : World} {B n j b o : Nat} {x : Nat → Nat} (h : RdB w B (some ⟨b, o, none⟩) n x) (hj : j < n) : b < B ∧ w.cell? ⟨b, o + j, none⟩ = some (.int .u8 ((x j : Nat) : Int)) ∧ x j < 256 := by
  obtain ⟨b', o', q, h1, h2, h3⟩ := h j hj
  injection q with q
  injection q with q1 q2
  subst q1; subst q2
  exact ⟨h1, h2, h3⟩
theorem below_drew {B : Nat} {a w : World} (h : Below B a w) : Below B a w.drew := ⟨h.os, h.tape, h.output, h.size, h.block⟩
theorem RdR.of_par {w : World} {h n B : Nat} {R : Nat → Nat} {x : Nat → Nat → Nat} (hp : RdR w B (some ⟨h, 0, none⟩) 3 (fun i => some ⟨R i, 0, none⟩) (fun _ => n) (fun _ => n) x) {j v : Nat} (hj : j < 3) (hv : v < n) :
    w.cell? ⟨h, j, none⟩ = some (.slice (some ⟨R j, 0, none⟩) n n) ∧ w.cell? ⟨R j, v, none⟩ = some (.int .u8 ((x j v : Nat) : Int)) := by
  obtain ⟨_, h1, h2⟩ := hp.head hj
  obtain ⟨_, h3, _⟩ := h2.at_ hv
  rw [Nat.zero_add] at h1 h3
  exact ⟨h1, h3⟩
end Go.Proofs.YtlhjpceaookanaaGreatDoor
