/-
  'Rebuild' and the document's 'Rebuild' by one case each: both refuse, with one error, or both make the same columns. Conditions: columns read as rows of bytes, the bad ones as a row of numbers.
-/
import Derived.Test.YtoabhbmhjelplaaParZero
import Derived.Test.YtoabhbmhjelplaaParDocReb
namespace Go.Proofs.Ytoabhbmhjelplaa
open Go Go.RowKit
set_option maxRecDepth 100000
set_option linter.unusedVariables false
theorem Rise.gap {m f : Nat} {b : Nat → Int} {n : Int} (h : Rise m b n) (hf : First m b f) (hfm : f < m) : ∀ d, f + d < m → ((f + d + 1 : Nat) : Int) ≤ b (f + d) := by
  intro d
  induction d with
  | zero =>
    intro hd
    have h1 := hf.2.2 hfm
    have h2 := h.ge f hfm
    simp only [Nat.add_zero]
    omega
  | succ d ih =>
    intro hd
    have h1 := ih (by omega)
    have h2 := h.lt (show f + d < f + (d + 1) by omega) hd
    omega
theorem Rise.count {m K : Nat} {b : Nat → Int} (h : Rise m b (K : Int)) : m ≤ K := by
  rcases Nat.eq_zero_or_pos m with e | e
  · omega
  · have h1 := h.ge (m - 1) (by omega)
    have h2 := (h (m - 1) (by omega)).2
    omega
theorem Rise.full {m f K : Nat} {b : Nat → Int} (h : Rise m b (K : Int)) (hf : First m b f) (hfk : f < K) : m ≠ K := fun e => by
  subst e
  have h1 := h.gap hf hfk (m - 1 - f) (by omega)
  have h2 := (h (m - 1) (by omega)).2
  rw [show f + (m - 1 - f) = m - 1 by omega] at h1
  omega
structure Refused (K cd m c B B2 : Nat) (A A2 : Option Addr) (ra : Nat → Option Addr) (rl rc : Nat → Nat) (x : Nat → Nat → Nat) (bz : Nat → Int) (er : Int) : Prop where
  ne : er ≠ 0
  doc : ∀ W, RdR W B A K ra rl rc x → RdZ W B2 A2 m bz → Calls Try.prog 12 #[.slice A K cd, .slice A2 m c] W fun e w' => e = .returned (.int .i64 er) ∧ ∃ d, w' = W.drewN d
  prg : ∀ W, RdR W B A K ra rl rc x → RdZ W B2 A2 m bz → Calls Try.prog 19 #[.slice A K cd, .slice A2 m c] W fun e w' => e = .returned (.int .i64 er) ∧ W = w'
theorem classify (K cd m c B B2 : Nat) (A A2 : Option Addr) (ra : Nat → Option Addr) (rl rc : Nat → Nat) (x : Nat → Nat → Nat) (bz : Nat → Int) (hmc : m ≤ c) (hcm : c ≤ maxLen) :
    (∃ er, Refused K cd m c B B2 A A2 ra rl rc x bz er) ∨ ∃ k f, K = k + 3 ∧ 0 < k ∧ k ≤ 13 ∧ m ≤ 3 ∧ Rise m bz (K : Int) ∧ First m bz f ∧ f < K ∧ AlikeB K m (rl f) bz rl := by
  have hmm : m ≤ maxLen := Nat.le_trans hmc hcm
  by_cases hk : 4 ≤ K ∧ K ≤ 16
  case neg =>
    exact .inl ⟨1, by omega, fun W _ _ => (rightB_few K cd m c A A2 W hk).mono fun e w' ⟨h1, h2⟩ => ⟨h1, 0, h2.symm⟩, fun W _ _ => fault_few K cd m c A A2 W hk⟩
  by_cases hri : Rise m bz (K : Int)
  case neg =>
    exact .inl ⟨1, by omega, fun W _ hz => rightB_no K cd B2 m c A A2 bz W hz hmm hri hk, fun W _ hz => fault_order K cd B m c B2 A A2 ra rl rc x bz W hz hmm (.inl hri) hk.1 hk.2⟩
  have hmK := hri.count
  obtain ⟨f, hf⟩ := first_of m bz
  -- the document's 'even', by where the walk ends
  have hev : ∀ (i0 : Nat) (v : Int), (∀ i, i < i0 → isB m bz i = true ∨ rl i = rl f) → (i0 = K ∨ (f < i0 ∧ i0 < K ∧ isB m bz i0 = false ∧ rl i0 ≠ rl f)) → v = (if i0 = K ∧ f < K ∧ 1 ≤ rl f ∧ rl f ≤ 4096 then ((rl f : Nat) : Int) else -1) →
      ∀ W, RdR W B A K ra rl rc x → RdZ W B2 A2 m bz → Calls Try.prog 13 #[.slice A K cd, .slice A2 m c] W fun e w' => e = .returned (.int .i64 v) ∧ W = w' := fun i0 v h1 h2 h3 W hr hz => by
    subst h3
    exact even_to K cd B m c B2 f i0 A A2 ra rl rc x bz W hr hz hmm hri hf (by omega) hk.2 h1 h2
  have hrt : ∀ v : Int, (∀ W, RdR W B A K ra rl rc x → RdZ W B2 A2 m bz → Calls Try.prog 13 #[.slice A K cd, .slice A2 m c] W fun e w' => e = .returned (.int .i64 v) ∧ W = w') →
      ∀ W, RdR W B A K ra rl rc x → RdZ W B2 A2 m bz → Calls Try.prog 12 #[.slice A K cd, .slice A2 m c] W fun e w' => e = .returned (.int .i64 (if v < 0 then 1 else if 3 < m then 4 else 0)) ∧ ∃ n, w' = W.drewN n := fun v he W hr hz =>
    rightB_rise K cd B m c B2 A A2 ra rl rc x bz v W hr hz hmm hri hk he
  by_cases hfk : f < K
  case neg =>
    have hfm : f = m := by have := hf.1; omega
    have hmk : m = K := by omega
    have hb : ∀ i, i < K → isB m bz i = true := fun i hi => first_lt hf (by omega)
    have he := hrt (-1) (hev K (-1) (fun i hi => .inl (hb i hi)) (.inl rfl) (by rw [if_neg (fun p => hfk p.2.1)]))
    exact .inl ⟨1, by omega, he, fun W _ hz => fault_order K cd B m c B2 A A2 ra rl rc x bz W hz hmm (.inr hmk) hk.1 hk.2⟩
  have hmK2 := hri.full hf hfk
  by_cases hal : AlikeB K m (rl f) bz rl
  case neg =>
    have hprg : ∀ W, RdR W B A K ra rl rc x → RdZ W B2 A2 m bz → Calls Try.prog 19 #[.slice A K cd, .slice A2 m c] W fun e w' => e = .returned (.int .i64 1) ∧ W = w' := fun W hr hz =>
      fault_alike K cd B m c B2 f A A2 ra rl rc x bz W hr hz hmc hcm hri hf hfk hk.1 hk.2 hmK2 (by omega) hal
    by_cases hall : ∀ i, i < K → isB m bz i = true ∨ rl i = rl f
    · have hrg : ¬ (1 ≤ rl f ∧ rl f ≤ 4096) := fun hh => hal ⟨hh.1, hh.2, fun i hi hn => by
        rcases hall i hi with h | h
        · rw [isB_false hn] at h; cases h
        · exact h⟩
      exact .inl ⟨1, by omega, hrt (-1) (hev K (-1) hall (.inl rfl) (by rw [if_neg (fun p => hrg ⟨p.2.2.1, p.2.2.2⟩)])), hprg⟩
    · obtain ⟨i0, hi0, hbad, hgood⟩ := least_p hall
      have hb0 : isB m bz i0 = false := by
        by_cases e : isB m bz i0 = true
        · exact absurd (.inl e) hbad
        · simpa using e
      have hn0 : rl i0 ≠ rl f := fun e => hbad (.inr e)
      have hfi : f < i0 := by
        rcases Nat.lt_trichotomy f i0 with e | e | e
        · exact e
        · subst e; exact absurd rfl hn0
        · rw [first_lt hf e] at hb0; cases hb0
      exact .inl ⟨1, by omega, hrt (-1) (hev i0 (-1) hgood (.inr ⟨hfi, hi0, hb0, hn0⟩) (by rw [if_neg (fun p => by omega)])), hprg⟩
  have hall : ∀ i, i < K → isB m bz i = true ∨ rl i = rl f := fun i hi => by
    by_cases e : isB m bz i = true
    · exact .inl e
    · exact .inr (hal.2.2 i hi fun j hj e2 => e (isB_true hj e2))
  by_cases hm3 : 3 < m
  · have h := hrt ((rl f : Nat) : Int) (hev K _ hall (.inl rfl) (by rw [if_pos ⟨rfl, hfk, hal.1, hal.2.1⟩]))
    rw [if_neg (by omega), if_pos hm3] at h
    exact .inl ⟨4, by omega, h, fun W hr hz => fault_many K cd B m c B2 f A A2 ra rl rc x bz W hr hz hmc hcm hri hf hfk hk.1 hk.2 hm3 hmK2 (by omega) hal⟩
  · exact .inr ⟨K - 3, f, by omega, by omega, by omega, by omega, hri, hf, hfk, hal⟩

/-- 'Rebuild' makes the document's columns -/
theorem rebuild_doc (k m cd B c B2 f q : Nat) (A A2 : Option Addr) (ra : Nat → Option Addr) (rl rc : Nat → Nat) (x : Nat → Nat → Nat) (bz : Nat → Int) (w : World) (hr : RdR w B A (k + 3) ra rl rc x) (hz : RdZ w B2 A2 m bz) (hB : B ≤ w.heap.size) (hB2 : B2 ≤ w.heap.size) (hmc : m ≤ c) (hcm : c ≤ maxLen) (h0 : A2 = none → c = 0) (hri : Rise m bz ((k + 3 : Nat) : Int)) (hf : First m bz f) (hfk : f < k + 3) (hk0 : 0 < k) (hk : k ≤ 13) (hm : m ≤ 3) (ha : AlikeB (k + 3) m (rl f) bz rl) (hs : Split k m q bz) :
    Calls Try.prog 8 #[.slice A (k + 3) cd, .slice A2 m c] w fun e w' => ∃ v H R XX, e = .returned (.tuple #[v, .int .i64 0]) ∧ Cols w' w.heap.size v (k + 3) (rl f) H R XX ∧ (∀ i, i < k + 3 → ∀ v, v < rl f → XX i v = docC k m q bz x i v) ∧ Below w.heap.size w w' := by
  have hx256 : ∀ i, i < k + 3 → isB m bz i = false → ∀ v, v < rl f → x i v < 256 := fun i hi hb v hv => by
    obtain ⟨_, _, _, _, _, h⟩ := hr i hi
    rw [ha.2.2 i hi fun j hj e => by rw [isB_true hj e] at hb; cases hb] at h
    obtain ⟨_, _, _, _, _, p⟩ := h v hv
    exact p
  obtain ⟨h1, h2, h3⟩ := docC_ok hri hs hm hk hx256
  by_cases hm0 : m = 0
  · subst hm0
    have hf0 : f = 0 := by have := hf.1; omega
    subst hf0
    refine (rebuild_zero (k + 3) k cd B c A A2 ra rl rc x w hr hB rfl hk0 (by omega) ⟨ha.1, ha.2.1, fun i hi => ha.2.2 i hi fun j hj => absurd hj (Nat.not_lt_zero _)⟩ h0 hcm).mono ?_
    rintro e w' ⟨v, H, R, e1, e2, e3⟩
    exact ⟨v, H, R, x, e1, e2, fun i hi v hv => h3 i hi (isB_false fun j hj => absurd hj (Nat.not_lt_zero _)) v hv, e3⟩
  · exact rebuild_some k m cd B c B2 f A A2 ra rl rc x (docC k m q bz x) bz w hr hz hB hB2 hmc hcm hri hf hfk hk0 hk (by omega) hm ha h1 h2 h3
end Go.Proofs.Ytoabhbmhjelplaa
