/-
  'parity.rising', 'parity.length', 'parity.alike' and 'parity.fault' with bad columns, each by a contract. Conditions: what is handed in reads as rows of bytes, and as a row of numbers.
-/
import Derived.Test.YtoabhbmhjelplaaParCheck
namespace Go.Proofs.Ytoabhbmhjelplaa
open Go Go.RowKit
set_option maxRecDepth 100000
set_option linter.unusedVariables false

/-- n numbers that lie below block B -/
def RdZ (w : World) (B : Nat) (A : Option Addr) (n : Nat) (x : Nat → Int) : Prop :=
  ∀ i, i < n → ∃ b o, A = some ⟨b, o, none⟩ ∧ b < B ∧ w.cell? ⟨b, o + i, none⟩ = some (.int .i64 (x i))
theorem RdZ.below {w w' : World} {B B' n : Nat} {A : Option Addr} {x : Nat → Int} (h : RdZ w B A n x) (hb : Below B' w w') (hB : B ≤ B') : RdZ w' B A n x := by
  intro i hi
  obtain ⟨b, o, h1, h2, h3⟩ := h i hi
  exact ⟨b, o, h1, h2, (hb.cell (p := ⟨b, o + i, none⟩) (by show b < B'; omega)).trans h3⟩
theorem RdZ.drewN {w : World} {B n : Nat} {A : Option Addr} {x : Nat → Int} (h : RdZ w B A n x) (m : Nat) : RdZ (w.drewN m) B A n x := h
/-- the one ahead of number i -/
def prv (b : Nat → Int) (i : Nat) : Int := if i = 0 then -1 else b (i - 1)
theorem prv_succ (b : Nat → Int) (i : Nat) : prv b (i + 1) = b i := by unfold prv; rw [if_neg (by omega), Nat.add_sub_cancel]
/-- Are they numbers from 0 to n - 1, each above the one ahead of it? -/
def Rise (m : Nat) (b : Nat → Int) (n : Int) : Prop := ∀ i, i < m → prv b i < b i ∧ b i < n
theorem Rise.ge {m : Nat} {b : Nat → Int} {n : Int} (h : Rise m b n) : ∀ i, i < m → (i : Int) ≤ b i := by
  intro i
  induction i with
  | zero =>
    intro hi
    have := (h 0 hi).1
    unfold prv at this
    rw [if_pos rfl] at this
    omega
  | succ i ih =>
    intro hi
    have h1 := (h (i + 1) hi).1
    rw [prv_succ] at h1
    have := ih (by omega)
    omega
theorem Rise.lt {m : Nat} {b : Nat → Int} {n : Int} (h : Rise m b n) {i j : Nat} (hij : i < j) (hj : j < m) : b i < b j := by
  induction j with
  | zero => omega
  | succ j ih =>
    have h1 := (h (j + 1) hj).1
    rw [prv_succ] at h1
    by_cases e : i = j
    · rw [e]; exact h1
    · have := ih (by omega) (by omega)
      omega

set_option maxHeartbeats 400000 in
theorem rising_yes (m c B : Nat) (A : Option Addr) (b : Nat → Int) (n : Int) (w : World) (hr : RdZ w B A m b) (hm : m ≤ maxLen) (h : Rise m b n) : Calls Try.prog 29 #[.slice A m c, .int .i64 n] w fun e w' => e = .returned (.bool true) ∧ w = w' := by
  have HR := Lib.hid hr
  have HB := Lib.hid h
  unfold maxLen at hm
  clear hr h
  go_enter Try.func29, Try.ntmps29
  go_wp2
  go_loop [5, 10] (fun y x => ∃ i : Nat, i ≤ m ∧ x = .int .i64 i ∧ y = .int .i64 (prv b i)) (fun _ x => m - (intOf x).toNat)
  case atStart => exact ⟨0, by omega, rfl, rfl⟩
  case round =>
    obtain ⟨i, hi, rfl, rfl⟩ := hrel
    by_cases hlt : i < m
    · obtain ⟨bb, ob, rfl, _, hc⟩ := HR.out i hlt
      have hs := prv_succ b i
      obtain ⟨h1, h2⟩ := HB.out i hlt
      have t1 : (b i ≤ prv b i) = False := by simp; omega
      have t2 : (n ≤ b i) = False := by simp; omega
      have HS := Lib.hid hs
      clear h1 h2 hs
      generalize prv b i = p at *
      generalize b i = z at *
      go_wp2
      go_round
      case rel => exact ⟨i + 1, by omega, by go_num, by rw [HS.out]⟩
      case measure => simp [intOf]; omega
    · obtain rfl : i = m := by omega
      go_wp2
      go_ret
      exact ⟨rfl, rfl⟩

set_option maxHeartbeats 400000 in
theorem rising_no (m c B : Nat) (A : Option Addr) (b : Nat → Int) (n : Int) (w : World) (hr : RdZ w B A m b) (hm : m ≤ maxLen) (h : ¬ Rise m b n) : Calls Try.prog 29 #[.slice A m c, .int .i64 n] w fun e w' => e = .returned (.bool false) ∧ w = w' := by
  obtain ⟨i0, hi0, hbad, hgood⟩ := least_p (p := fun i => prv b i < b i ∧ b i < n) h
  have HR := Lib.hid hr
  have HG := Lib.hid hgood
  have HBAD := Lib.hid hbad
  unfold maxLen at hm
  clear hr h hgood hbad
  go_enter Try.func29, Try.ntmps29
  go_wp2
  go_loop [5, 10] (fun y x => ∃ i : Nat, i ≤ i0 ∧ x = .int .i64 i ∧ y = .int .i64 (prv b i)) (fun _ x => i0 - (intOf x).toNat)
  case atStart => exact ⟨0, by omega, rfl, rfl⟩
  case round =>
    obtain ⟨i, hi, rfl, rfl⟩ := hrel
    obtain ⟨bb, ob, rfl, _, hc⟩ := HR.out i (by omega)
    have i2 : (i : Int) < (m : Int) := by omega
    by_cases hlt : i < i0
    · have hs := prv_succ b i
      obtain ⟨h1, h2⟩ := HG.out i hlt
      have t1 : (b i ≤ prv b i) = False := by simp; omega
      have t2 : (n ≤ b i) = False := by simp; omega
      have HS := Lib.hid hs
      clear h1 h2 hs
      generalize prv b i = p at *
      generalize b i = z at *
      go_wp2
      go_round
      case rel => exact ⟨i + 1, by omega, by go_num, by rw [HS.out]⟩
      case measure => simp [intOf]; omega
    · obtain rfl : i = i0 := by omega
      have hb := HBAD.out
      by_cases h1 : b i ≤ prv b i
      · have t1 : (b i ≤ prv b i) = True := by simp; omega
        clear hb h1
        generalize prv b i = p at *
        generalize b i = z at *
        go_wp2
        go_ret
        exact ⟨rfl, rfl⟩
      · have t1 : (b i ≤ prv b i) = False := by simp; omega
        have t2 : (n ≤ b i) = True := by simp; omega
        clear hb h1
        generalize prv b i = p at *
        generalize b i = z at *
        go_wp2
        go_ret
        exact ⟨rfl, rfl⟩

/-- f is the first column that isn't bad -/
def First (m : Nat) (b : Nat → Int) (f : Nat) : Prop := f ≤ m ∧ (∀ j, j < f → b j = (j : Int)) ∧ (f < m → b f ≠ (f : Int))
theorem first_of (m : Nat) (b : Nat → Int) : ∃ f, First m b f := by
  by_cases h : ∀ i, i < m → b i = (i : Int)
  · exact ⟨m, Nat.le_refl _, h, fun e => absurd e (Nat.lt_irrefl _)⟩
  · obtain ⟨f, h1, h2, h3⟩ := least_p h
    exact ⟨f, by omega, h3, fun _ => h2⟩

set_option maxHeartbeats 400000 in
theorem length_at (k cd B m c B2 f : Nat) (A A2 : Option Addr) (ra : Nat → Option Addr) (rl rc : Nat → Nat) (x : Nat → Nat → Nat) (b : Nat → Int) (w : World) (hr : RdR w B A k ra rl rc x) (hz : RdZ w B2 A2 m b) (hf : First m b f) (hfk : f < k) (hk : k ≤ 16) (hm : m ≤ 16) :
    Calls Try.prog 30 #[.slice A k cd, .slice A2 m c] w fun e w' => e = .returned (.int .i64 (rl f : Nat)) ∧ w = w' := by
  obtain ⟨f1, f2, f3⟩ := hf
  have HR := Lib.hid hr
  have HZ := Lib.hid hz
  have H2 := Lib.hid f2
  have H3 := Lib.hid f3
  clear hr hz f2 f3
  go_enter Try.func30, Try.ntmps30
  go_wp2
  go_loop [9] (fun x => ∃ i : Nat, i ≤ f ∧ x = .int .i64 i) (fun x => f - (intOf x).toNat)
  case atStart => exact ⟨0, by omega, rfl⟩
  case round =>
    obtain ⟨i, hi, rfl⟩ := hrel
    obtain ⟨bx, ox, rfl, hbx, hcx, _⟩ := HR.out i (by omega)
    have i1 : (i : Int) < (k : Int) := by omega
    by_cases hlt : i < f
    · obtain ⟨bb, ob, rfl, _, hc⟩ := HZ.out i (by omega)
      have i2 : (i : Int) < (m : Int) := by omega
      rw [H2.out i hlt] at hc
      generalize ra i = r1 at *
      generalize rc i = c1 at *
      generalize rl i = n at *
      clear hbx
      go_wp2
      go_round
      case rel => exact ⟨i + 1, by omega, by go_num⟩
      case measure => simp [intOf]; omega
    · obtain rfl : i = f := by omega
      generalize ra i = r1 at *
      generalize rc i = c1 at *
      generalize hn : rl i = n at *
      have HN := Lib.hid hn
      clear hn hbx
      by_cases hm2 : i < m
      · obtain ⟨bb, ob, rfl, _, hc⟩ := HZ.out i hm2
        have i2 : (i : Int) < (m : Int) := by omega
        have hne : (b i != (i : Int)) = true := by rw [bne_iff_ne]; exact H3.out hm2
        generalize b i = z at *
        go_wp2
        go_ret
        exact ⟨by rw [HN.out]; rfl, rfl⟩
      · have i2 : (m : Int) ≤ (i : Int) := by omega
        go_wp2
        go_ret
        exact ⟨by rw [HN.out]; rfl, rfl⟩
/-- Have those that aren't bad the length n that a column may have? -/
def AlikeB (k m n : Nat) (b : Nat → Int) (rl : Nat → Nat) : Prop := 1 ≤ n ∧ n ≤ 4096 ∧ ∀ i, i < k → (∀ j, j < m → b j ≠ (i : Int)) → rl i = n
/-- the bad ones from number t on, q of them, as round i meets them -/
structure Left (w : World) (B : Nat) (v : Value) (m t q i : Nat) (b : Nat → Int) : Prop where
  sum : m = t + q
  row : ∃ A c, v = .slice A q c ∧ q ≤ c ∧ c ≤ maxLen ∧ RdZ w B A q (fun j => b (t + j))
  lo : ∀ j, j < t → b j < (i : Int)
  hi : ∀ j, t ≤ j → j < m → (i : Int) ≤ b j
section
variable {w : World} {B m t q i : Nat} {v : Value} {b : Nat → Int} {n : Int}
theorem Left.start {A : Option Addr} {c : Nat} (hz : RdZ w B A m b) (hc : m ≤ c) (hm : c ≤ maxLen) (hr : Rise m b n) : Left w B (.slice A m c) m 0 m 0 b :=
  ⟨by omega, ⟨A, c, rfl, hc, hm, fun j hj => by
    show ∃ b_1 o, A = some ⟨b_1, o, none⟩ ∧ b_1 < B ∧ w.cell? ⟨b_1, o + j, none⟩ = some (.int .i64 (b (0 + j)))
    rw [Nat.zero_add]; exact hz j hj⟩, fun j hj => absurd hj (by omega), fun j _ hj => by have := hr.ge j hj; omega⟩
/-- round i's column is not bad -/
theorem Left.keep (h : Left w B v m t q i b) (hn : q = 0 ∨ b t ≠ (i : Int)) (hr : Rise m b n) : Left w B v m t q (i + 1) b :=
  ⟨h.sum, h.row, fun j hj => by have := h.lo j hj; omega, fun j h1 h2 => by
    have hs := h.sum
    rcases hn with hn | hn
    · omega
    · have h3 := h.hi j h1 h2
      have h4 := h.hi t (Nat.le_refl _) (by omega)
      by_cases e : t = j
      · subst e; omega
      · have := hr.lt (show t < j by omega) h2
        omega⟩
theorem Left.not_bad (h : Left w B v m t q i b) (hn : q = 0 ∨ b t ≠ (i : Int)) (hr : Rise m b n) : ∀ j, j < m → b j ≠ (i : Int) := fun j hj => by
  by_cases e : j < t
  · have := h.lo j e; omega
  · have := (h.keep hn hr).hi j (by omega) hj
    omega
theorem Left.next {A : Option Addr} {c : Nat} (h : Left w B v m t (q + 1) i b) (hr : Rise m b n) (hb : b t = (i : Int)) (hc : q ≤ c) (hm : c ≤ maxLen) (hz : RdZ w B A q (fun j => b (t + 1 + j))) : Left w B (.slice A q c) m (t + 1) q (i + 1) b :=
  ⟨by have := h.sum; omega, ⟨A, c, rfl, hc, hm, hz⟩, fun j hj => by
    by_cases e : j < t
    · have := h.lo j e; omega
    · obtain rfl : j = t := by omega
      omega, fun j h1 h2 => by
    have := hr.lt (show t < j by omega) h2
    omega⟩
end

set_option maxHeartbeats 800000 in
theorem alike_bad (k cd B m c B2 f : Nat) (A A2 : Option Addr) (ra : Nat → Option Addr) (rl rc : Nat → Nat) (x : Nat → Nat → Nat) (b : Nat → Int) (w : World) (hr : RdR w B A k ra rl rc x) (hz : RdZ w B2 A2 m b) (hmc : m ≤ c) (hcm : c ≤ maxLen) (hri : Rise m b (k : Int)) (hf : First m b f) (hfk : f < k) (hk : k ≤ 16) (hm : m ≤ 16) (ha : AlikeB k m (rl f) b rl) :
    Calls Try.prog 22 #[.slice A k cd, .slice A2 m c] w fun e w' => e = .returned (.bool true) ∧ w = w' := by
  obtain ⟨h1, h2, h3⟩ := ha
  have HA := Lib.hid h3
  have HR := Lib.hid hr
  have HZ := Lib.hid hz
  have HRI := Lib.hid hri
  have HF := Lib.hid hf
  have L0 : Hid (Left w B2 (.slice A2 m c) m 0 m 0 b) := Lib.hid (Left.start hz hmc hcm hri)
  have t1 : ((rl f : Int) < 1) = False := by simp; omega
  have t2 : ((4096 : Int) < (rl f : Int)) = False := by simp; omega
  clear h3 hr hz hri hf
  go_enter Try.func22, Try.ntmps22
  go_wp2_with fail
  refine (length_at k cd B m c B2 f A A2 ra rl rc x b _ HR.out HZ.out HF.out hfk hk hm).mono ?_
  rintro e w1 ⟨rfl, rfl⟩
  generalize hn : rl f = n at *
  have HN := Lib.hid hn
  clear hn
  go_wp2_with fail
  go_loop [1, 19] (fun y x => ∃ i t q : Nat, i ≤ k ∧ x = .int .i64 i ∧ Hid (Left w B2 y m t q i b)) (fun _ x => k - (intOf x).toNat)
  case atStart => exact ⟨0, 0, m, by omega, rfl, L0⟩
  case round =>
    clear L0
    obtain ⟨i, t, q, hi, rfl, L⟩ := hrel
    by_cases hlt : i < k
    · obtain ⟨bx, ox, rfl, hbx, hcx, _⟩ := HR.out i hlt
      obtain ⟨A', c', rfl, hqc, hcm', hz'⟩ := L.out.row
      unfold maxLen at hcm'
      clear hbx
      by_cases hq : q = 0
      · subst hq
        rw [HA.out i hlt (L.out.not_bad (.inl rfl) HRI.out)] at hcx
        have L2 := Lib.hid (L.out.keep (.inl rfl) HRI.out)
        generalize ra i = r1 at *
        generalize rc i = c1 at *
        clear L hz'
        go_wp2_with fail
        go_round
        case rel => exact ⟨i + 1, t, 0, by omega, by go_num, L2⟩
        case measure => simp [intOf]; omega
      · obtain ⟨q, rfl⟩ : ∃ q', q = q' + 1 := ⟨q - 1, by omega⟩
        obtain ⟨bb, ob, rfl, hbb, hcb⟩ := hz' 0 (by omega)
        have hcb : w.cell? ⟨bb, ob, none⟩ = some (.int .i64 (b t)) := hcb
        by_cases hb : b t = (i : Int)
        · have hz2 : RdZ w B2 (some ⟨bb, ob + 1, none⟩) q (fun j => b (t + 1 + j)) := fun j hj => by
            obtain ⟨b', o', e, h1, h2⟩ := hz' (j + 1) (by omega)
            injection e with e
            injection e with e1 e2
            subst e1; subst e2
            refine ⟨bb, ob + 1, rfl, h1, ?_⟩
            rw [show ob + 1 + j = ob + (j + 1) by omega]
            show _ = some (Value.int .i64 (b (t + 1 + j)))
            rw [show t + 1 + j = t + (j + 1) by omega]
            exact h2
          have hz3 : q = 0 → RdZ w B2 (some ⟨bb, ob, none⟩) q (fun j => b (t + 1 + j)) := fun e j hj => absurd hj (by omega)
          rw [hb] at hcb
          have HZ2 := Lib.hid hz2
          have HZ3 := Lib.hid hz3
          have HB := Lib.hid hb
          have L2 := fun A c h1 h2 h3 => Lib.hid (L.out.next (A := A) (c := c) HRI.out HB.out h1 h2 h3)
          have HL2 := Lib.hid L2
          have hsub : IntKind.i64.wrap (((q + 1 : Nat) : Int) - 1) = (q : Int) := by rw [IntKind.wrap_i64]; omega
          generalize ra i = r1 at *
          generalize rc i = c1 at *
          generalize rl i = l1 at *
          clear hz' hz2 hz3 hbb hb L2 L
          by_cases hc1 : c' = 1
          · subst hc1
            obtain rfl : q = 0 := by omega
            go_wp2_with fail
            go_round
            case rel => exact ⟨i + 1, t + 1, 0, by omega, by go_num, HL2.out _ _ (by omega) (by unfold maxLen; omega) (HZ3.out rfl)⟩
            case measure => simp [intOf]; omega
          · have hc2 : 1 < c' := by omega
            go_wp2_with fail
            go_round
            case rel => exact ⟨i + 1, t + 1, q, by omega, by go_num, HL2.out _ _ (by omega) (by unfold maxLen; omega) HZ2.out⟩
            case measure => simp [intOf]; omega
        · have hne : (b t == (i : Int)) = false := by rw [beq_eq_false_iff_ne]; exact hb
          rw [HA.out i hlt (L.out.not_bad (.inr hb) HRI.out)] at hcx
          have L2 := Lib.hid (L.out.keep (.inr hb) HRI.out)
          generalize ra i = r1 at *
          generalize rc i = c1 at *
          generalize b t = z at *
          clear L hz' hbb hb
          go_wp2_with fail
          go_round
          case rel => exact ⟨i + 1, t, q + 1, by omega, by go_num, L2⟩
          case measure => simp [intOf]; omega
    · obtain rfl : i = k := by omega
      go_wp2_with fail
      go_ret
      exact ⟨rfl, rfl⟩

set_option maxHeartbeats 800000 in
theorem fault_none (k cd B m c B2 f : Nat) (A A2 : Option Addr) (ra : Nat → Option Addr) (rl rc : Nat → Nat) (x : Nat → Nat → Nat) (b : Nat → Int) (w : World) (hr : RdR w B A k ra rl rc x) (hz : RdZ w B2 A2 m b) (hmc : m ≤ c) (hcm : c ≤ maxLen) (hri : Rise m b (k : Int)) (hf : First m b f) (hfk : f < k) (hk4 : 4 ≤ k) (hk : k ≤ 16) (hm : m ≤ 3) (ha : AlikeB k m (rl f) b rl) :
    Calls Try.prog 19 #[.slice A k cd, .slice A2 m c] w fun e w' => e = .returned (.int .i64 0) ∧ w = w' := by
  have HA := Lib.hid ha
  have HR := Lib.hid hr
  have HZ := Lib.hid hz
  have HRI := Lib.hid hri
  have HF := Lib.hid hf
  have HC := Lib.hid hcm
  have t1 : ((k : Int) < 4) = False := by simp; omega
  have t2 : ((16 : Int) < (k : Int)) = False := by simp; omega
  have t3 : ((m : Int) == (k : Int)) = false := by rw [beq_eq_false_iff_ne]; omega
  have t4 : ((3 : Int) < (m : Int)) = False := by simp; omega
  have hmm : m ≤ maxLen := by unfold maxLen; omega
  clear ha hr hz hri hf hcm
  go_enter Try.func19, Try.ntmps19
  go_wp2_with fail
  refine (rising_yes m c B2 A2 b _ _ HZ.out hmm HRI.out).mono ?_
  rintro e w1 ⟨rfl, rfl⟩
  go_wp2_with fail
  refine (alike_bad k cd B m c B2 f A A2 ra rl rc x b _ HR.out HZ.out hmc HC.out HRI.out HF.out hfk hk (by omega) HA.out).mono ?_
  rintro e w1 ⟨rfl, rfl⟩
  go_wp2_with fail
  go_ret
  exact ⟨rfl, rfl⟩
set_option maxHeartbeats 800000 in
theorem fault_many (k cd B m c B2 f : Nat) (A A2 : Option Addr) (ra : Nat → Option Addr) (rl rc : Nat → Nat) (x : Nat → Nat → Nat) (b : Nat → Int) (w : World) (hr : RdR w B A k ra rl rc x) (hz : RdZ w B2 A2 m b) (hmc : m ≤ c) (hcm : c ≤ maxLen) (hri : Rise m b (k : Int)) (hf : First m b f) (hfk : f < k) (hk4 : 4 ≤ k) (hk : k ≤ 16) (hm3 : 3 < m) (hmk : m ≠ k) (hm : m ≤ 16) (ha : AlikeB k m (rl f) b rl) :
    Calls Try.prog 19 #[.slice A k cd, .slice A2 m c] w fun e w' => e = .returned (.int .i64 4) ∧ w = w' := by
  have HA := Lib.hid ha
  have HR := Lib.hid hr
  have HZ := Lib.hid hz
  have HRI := Lib.hid hri
  have HF := Lib.hid hf
  have HC := Lib.hid hcm
  have t1 : ((k : Int) < 4) = False := by simp; omega
  have t2 : ((16 : Int) < (k : Int)) = False := by simp; omega
  have t3 : ((m : Int) == (k : Int)) = false := by rw [beq_eq_false_iff_ne]; omega
  have t4 : ((3 : Int) < (m : Int)) = True := by simp; omega
  have hmm : m ≤ maxLen := by unfold maxLen; omega
  clear ha hr hz hri hf hcm
  go_enter Try.func19, Try.ntmps19
  go_wp2_with fail
  refine (rising_yes m c B2 A2 b _ _ HZ.out hmm HRI.out).mono ?_
  rintro e w1 ⟨rfl, rfl⟩
  go_wp2_with fail
  refine (alike_bad k cd B m c B2 f A A2 ra rl rc x b _ HR.out HZ.out hmc HC.out HRI.out HF.out hfk hk hm HA.out).mono ?_
  rintro e w1 ⟨rfl, rfl⟩
  go_wp2_with fail
  go_ret
  exact ⟨rfl, rfl⟩
set_option maxHeartbeats 800000 in
theorem fault_order (k cd B m c B2 : Nat) (A A2 : Option Addr) (ra : Nat → Option Addr) (rl rc : Nat → Nat) (x : Nat → Nat → Nat) (b : Nat → Int) (w : World) (hz : RdZ w B2 A2 m b) (hm : m ≤ maxLen) (hri : ¬ Rise m b (k : Int) ∨ m = k) (hk4 : 4 ≤ k) (hk : k ≤ 16) :
    Calls Try.prog 19 #[.slice A k cd, .slice A2 m c] w fun e w' => e = .returned (.int .i64 1) ∧ w = w' := by
  have HZ := Lib.hid hz
  have t1 : ((k : Int) < 4) = False := by simp; omega
  have t2 : ((16 : Int) < (k : Int)) = False := by simp; omega
  by_cases hr : Rise m b (k : Int)
  · have hmk : m = k := hri.resolve_left (fun h => h hr)
    have t3 : ((m : Int) == (k : Int)) = true := by rw [beq_iff_eq]; omega
    have HRI := Lib.hid hr
    clear hz hri hr hmk
    go_enter Try.func19, Try.ntmps19
    go_wp2_with fail
    refine (rising_yes m c B2 A2 b _ _ HZ.out hm HRI.out).mono ?_
    rintro e w1 ⟨rfl, rfl⟩
    go_wp2_with fail
    go_ret
    exact ⟨rfl, rfl⟩
  · have HRI := Lib.hid hr
    clear hz hri hr
    go_enter Try.func19, Try.ntmps19
    go_wp2_with fail
    refine (rising_no m c B2 A2 b _ _ HZ.out hm HRI.out).mono ?_
    rintro e w1 ⟨rfl, rfl⟩
    go_wp2_with fail
    go_ret
    exact ⟨rfl, rfl⟩
end Go.Proofs.Ytoabhbmhjelplaa
