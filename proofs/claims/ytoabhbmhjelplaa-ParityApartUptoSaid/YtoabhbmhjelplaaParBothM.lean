/-
  'Rebuild' by a contract that tells each column's head: as long as its room. Conditions: those of XParClass. (Made by gen/mkparexact.py.)
-/
import Derived.Test.YtoabhbmhjelplaaParClass
import Derived.Test.YtoabhbmhjelplaaParCheck
import Derived.Test.YtoabhbmhjelplaaParTells
namespace Go.Proofs.Ytoabhbmhjelplaa
open Go Go.RowKit
set_option maxRecDepth 100000
set_option linter.unusedVariables false
set_option maxHeartbeats 1600000 in
theorem rebuild_someE (k m cd B c B2 f : Nat) (A A2 : Option Addr) (ra : Nat → Option Addr) (rl rc : Nat → Nat) (x D : Nat → Nat → Nat) (bz : Nat → Int) (w : World) (hr : RdR w B A (k + 3) ra rl rc x) (hz : RdZ w B2 A2 m bz) (hB : B ≤ w.heap.size) (hB2 : B2 ≤ w.heap.size) (hmc : m ≤ c) (hcm : c ≤ maxLen) (hri : Rise m bz ((k + 3 : Nat) : Int)) (hf : First m bz f) (hfk : f < k + 3) (hk0 : 0 < k) (hk : k ≤ 13) (hm0 : 0 < m) (hm : m ≤ 3) (ha : AlikeB (k + 3) m (rl f) bz rl)
    (hD : ∀ i, i < k + 3 → ∀ v, v < rl f → D i v < 256) (hpar : ∀ j, j < 3 → Due m k bz j → ∀ v, v < rl f → D (k + j) v = M.par k j D v) (hgood : ∀ i, i < k + 3 → isB m bz i = false → ∀ v, v < rl f → x i v = D i v) :
    Calls Try.prog 8 #[.slice A (k + 3) cd, .slice A2 m c] w fun e w' => ∃ v R XX, e = .returned (.tuple #[v, .int .i64 0]) ∧ Cols w' w.heap.size v (k + 3) (rl f) (fun i => (some ⟨R i, 0, none⟩, rl f, rl f)) R XX ∧ (∀ i, i < k + 3 → ∀ v, v < rl f → XX i v = D i v) ∧ Below w.heap.size w w' := by
  have HA := Lib.hid ha
  have HR := Lib.hid hr
  have HZ := Lib.hid hz
  have HRI := Lib.hid hri
  have HF := Lib.hid hf
  have HC := Lib.hid hcm
  have HD := Lib.hid (And.intro hD hpar)
  have HG := Lib.hid hgood
  have HBB := Lib.hid (And.intro hB hB2)
  have hzf := build_field
  clear hr hz hri hf ha hD hpar hgood hcm hB hB2
  go_enter Try.func8, Try.ntmps8
  go_wp2_with fail
  refine (fault_none (k + 3) cd B m c B2 f A A2 ra rl rc x bz _ HR.out HZ.out hmc HC.out HRI.out HF.out hfk (by omega) (by omega) hm HA.out).mono ?_
  rintro e w1 ⟨rfl, rfl⟩
  go_wp2_with fail
  refine (whole_any (k + 3) cd B m c B2 f A A2 ra rl rc x bz _ HR.out HZ.out HBB.out.1 HBB.out.2 hmc HC.out HRI.out HF.out hfk (by omega) (by omega) HA.out).mono ?_
  rintro e w2 ⟨rfl, H2⟩
  have C2 := Lib.hid (H2.cols (by omega) HA.out.2.1)
  have L2 := Lib.hid H2.below
  clear H2
  go_wp2_with fail
  have B2a : Below w2.heap.size w2 (w2.alloc (.cells (fcells 0 0 0) 61)) := (Below.refl _ _).alloc (Nat.le_refl _) _
  have C3 := Lib.hid (C2.out.below B2a (Nat.le_refl _))
  have L3 := Lib.hid (L2.out.trans (B2a.mono L2.out.size))
  have F3 : Hid (Fld (w2.alloc (.cells (fcells 0 0 0) 61)) w2.heap.size) := .inl (Blk.new _ _ _)
  obtain ⟨W3, hW3⟩ : ∃ W3, W3 = w2.alloc (.cells (fcells 0 0 0) 61) := ⟨_, rfl⟩
  rw [← hW3] at C3 L3 F3 ⊢
  have s2 := L2.out.size
  have s3 := L3.out.size
  have HX3 : Hid (∀ i, i < k + 3 → ∀ v, v < rl f → goodX m bz x i v < 256) := fun i hi v hv => by
    unfold goodX
    cases h : isB m bz i
    · rw [if_neg (by decide), HG.out i hi h v hv]
      exact HD.out.1 i hi v hv
    · rw [if_pos rfl]; omega
  have HZ3 : Hid (RdZ W3 W3.heap.size A2 m bz) := fun i hi => by
    obtain ⟨bb, o, e1, e2, e3⟩ := (HZ.out.below L3.out HBB.out.2) i hi
    exact ⟨bb, o, e1, by have := HBB.out.2; omega, e3⟩
  have HNE : Hid (∀ bb, (∃ o, A2 = some ⟨bb, o, none⟩) → bb ≠ w2.heap.size ∧ ∀ i, i < k + 3 → bb ≠ w.heap.size + 1 + i) := fun bb h => by
    obtain ⟨o, e⟩ := h
    obtain ⟨b', o', e1, e2, _⟩ := HZ.out 0 hm0
    rw [e] at e1
    injection e1 with e1
    injection e1 with q1 q2
    have := HBB.out.2
    exact ⟨by omega, fun i hi => by omega⟩
  have HGX : Hid (∀ i, i < k + 3 → isB m bz i = false → ∀ v, v < rl f → goodX m bz x i v = D i v) := fun i hi h v hv => by
    unfold goodX
    rw [h, if_neg (by decide)]
    exact HG.out i hi h v hv
  have HBX : Hid (∀ i, i < k + 3 → isB m bz i = true → ∀ v, v < rl f → goodX m bz x i v = 0) := fun i hi h v hv => by
    unfold goodX
    rw [h, if_pos rfl]
  clear hW3 B2a C2
  refine (mend_any w2.heap.size k m (rl f) w.heap.size (k + 3) w.heap.size c A2 _ _ bz (goodX m bz x) D W3 C3.out ⟨Nat.le_refl _, by unfold maxLen; omega⟩ HX3.out HD.out.1 HD.out.2 HGX.out HBX.out HA.out.1 HA.out.2.1 hk0 hk HZ3.out hmc HC.out HRI.out hm0 hm HNE.out F3.out).mono ?_
  rintro e w4 ⟨rfl, XX, hc4, hd4, hf4, ho4⟩
  have C4 := Lib.hid hc4
  have D4 := Lib.hid hd4
  have L4 : Hid (Below w.heap.size w w4) := Lib.hid (L3.out.trans (ho4.below s2 (fun j hj => by omega) s3))
  clear hc4 hd4 hf4 ho4 C3 F3 HX3 HZ3 HNE HGX HBX
  go_wp2_with fail
  go_ret2
  exact ⟨.slice (some ⟨w.heap.size, 0, none⟩) (k + 3) (k + 3), _, XX, rfl, C4.out, D4.out, L4.out⟩
set_option maxHeartbeats 1600000 in
theorem rebuild_zeroE (k m cd B c2 : Nat) (A A2 : Option Addr) (ra : Nat → Option Addr) (rl rc : Nat → Nat) (x : Nat → Nat → Nat) (w : World) (hr : RdR w B A k ra rl rc x) (hB : B ≤ w.heap.size) (hm : k = m + 3) (hm0 : 0 < m) (hk : k ≤ 16) (ha : Alike k rl) (h0 : A2 = none → c2 = 0) (hcm : c2 ≤ maxLen) :
    Calls Try.prog 8 #[.slice A k cd, .slice A2 0 c2] w fun e w' => ∃ v R, e = .returned (.tuple #[v, .int .i64 0]) ∧ Cols w' w.heap.size v k (rl 0) (fun i => (some ⟨R i, 0, none⟩, rl 0, rl 0)) R x ∧ Below w.heap.size w w' := by
  subst hm
  have HA := Lib.hid ha
  have HR := Lib.hid hr
  have hz := build_field
  have HZ : Hid (RdZ w 0 A2 0 (fun _ => 0)) := fun i hi => absurd hi (by omega)
  have HRI : Hid (Rise 0 (fun _ => 0) ((m + 3 : Nat) : Int)) := fun i hi => absurd hi (by omega)
  have HF : Hid (First 0 (fun _ => 0) 0) := ⟨Nat.le_refl _, fun j hj => absurd hj (by omega), fun h => absurd h (by omega)⟩
  have HAB : Hid (AlikeB (m + 3) 0 (rl 0) (fun _ => 0) rl) := ⟨ha.1, ha.2.1, fun i hi _ => ha.2.2 i hi⟩
  have HC0 : Hid (c2 ≤ maxLen) := hcm
  have H0 := Lib.hid h0
  clear hr ha h0
  go_enter Try.func8, Try.ntmps8
  go_wp2_with fail
  refine (fault_none (m + 3) cd B 0 c2 0 0 A A2 ra rl rc x (fun _ => 0) _ HR.out HZ.out (Nat.zero_le _) HC0.out HRI.out HF.out (by omega) (by omega) (by omega) (by omega) HAB.out).mono ?_
  rintro e w1 ⟨rfl, rfl⟩
  go_wp2_with fail
  refine (whole_any (m + 3) cd B 0 c2 0 0 A A2 ra rl rc x (fun _ => 0) _ HR.out HZ.out hB (by omega) (by omega) HC0.out HRI.out HF.out (by omega) hk (by omega) HAB.out).mono ?_
  rintro e w2 ⟨rfl, H2⟩
  have C2 := Lib.hid (H2.cols hk HA.out.2.1)
  have L2 := Lib.hid H2.below
  have HX : Hid (∀ j, goodX 0 (fun _ => 0) x j = x j) := fun j => by unfold goodX; rw [isB_false (fun j hj => absurd hj (by omega))]; rfl
  clear H2 HZ HRI HF HAB
  go_wp2_with fail
  refine (mend_zero w2.heap.size m (m + 3) c2 (some ⟨w.heap.size, 0, none⟩) A2 _ hk H0.out HC0.out).mono ?_
  rintro e w3 ⟨rfl, hb3⟩
  have B2 : Below w2.heap.size w2 (w2.alloc (.cells (fcells 0 0 0) 61)) := (Below.refl _ _).alloc (Nat.le_refl _) _
  have HB3 := Lib.hid (B2.trans (hb3.mono B2.size))
  clear hb3 B2
  go_wp2_with fail
  go_ret2
  have h := C2.out.below HB3.out (Nat.le_refl _)
  rw [show goodX 0 (fun _ => 0) x = x from funext HX.out] at h
  exact ⟨.slice (some ⟨w.heap.size, 0, none⟩) (m + 3) (m + 3), _, rfl, h, L2.out.trans (HB3.out.mono L2.out.size)⟩
theorem rebuild_docE (k m cd B c B2 f q : Nat) (A A2 : Option Addr) (ra : Nat → Option Addr) (rl rc : Nat → Nat) (x : Nat → Nat → Nat) (bz : Nat → Int) (w : World) (hr : RdR w B A (k + 3) ra rl rc x) (hz : RdZ w B2 A2 m bz) (hB : B ≤ w.heap.size) (hB2 : B2 ≤ w.heap.size) (hmc : m ≤ c) (hcm : c ≤ maxLen) (h0 : A2 = none → c = 0) (hri : Rise m bz ((k + 3 : Nat) : Int)) (hf : First m bz f) (hfk : f < k + 3) (hk0 : 0 < k) (hk : k ≤ 13) (hm : m ≤ 3) (ha : AlikeB (k + 3) m (rl f) bz rl) (hs : Split k m q bz) :
    Calls Try.prog 8 #[.slice A (k + 3) cd, .slice A2 m c] w fun e w' => ∃ v R XX, e = .returned (.tuple #[v, .int .i64 0]) ∧ Cols w' w.heap.size v (k + 3) (rl f) (fun i => (some ⟨R i, 0, none⟩, rl f, rl f)) R XX ∧ (∀ i, i < k + 3 → ∀ v, v < rl f → XX i v = docC k m q bz x i v) ∧ Below w.heap.size w w' := by
  have hx256 : ∀ i, i < k + 3 → isB m bz i = false → ∀ v, v < rl f → x i v < 256 := fun i hi hb v hv => by
    obtain ⟨_, _, _, _, _, h⟩ := hr i hi
    rw [ha.2.2 i hi fun j hj e => by rw [isB_true hj e] at hb; cases hb] at h
    obtain ⟨_, _, _, _, _, p⟩ := h v hv
    exact p
  obtain ⟨h1, h2, h3⟩ := docC_ok hri hs hm hk hx256
  by_cases hm0 : m = 0
  · subst hm0
    have hf0 : f = 0 := by have := hf.1; omega
    subst hf0
    refine (rebuild_zeroE (k + 3) k cd B c A A2 ra rl rc x w hr hB rfl hk0 (by omega) ⟨ha.1, ha.2.1, fun i hi => ha.2.2 i hi fun j hj => absurd hj (Nat.not_lt_zero _)⟩ h0 hcm).mono ?_
    rintro e w' ⟨v, R, e1, e2, e3⟩
    exact ⟨v, R, x, e1, e2, fun i hi v hv => h3 i hi (isB_false fun j hj => absurd hj (Nat.not_lt_zero _)) v hv, e3⟩
  · exact rebuild_someE k m cd B c B2 f A A2 ra rl rc x (docC k m q bz x) bz w hr hz hB hB2 hmc hcm hri hf hfk hk0 hk (by omega) hm ha h1 h2 h3
end Go.Proofs.Ytoabhbmhjelplaa
namespace Go.Proofs.Ytoabhbmhjelplaa
open Go Go.RowKit
set_option maxRecDepth 100000
set_option linter.unusedVariables false
/-- i columns of n bytes, each alone in its memory, with no room behind it -/
abbrev Ans (w : World) (base : Nat) (v : Value) (i n : Nat) (R : Nat → Nat) (X : Nat → Nat → Nat) : Prop := Cols w base v i n (fun j => (some ⟨R j, 0, none⟩, n, n)) R X
theorem Ans.none_ (w : World) (base n : Nat) (R : Nat → Nat) (X : Nat → Nat → Nat) : Ans w base (.slice none 0 0) 0 n R X := Cols.none_ _ _ _ _ _ _
theorem make_ans (k cd B : Nat) (A : Option Addr) (ra : Nat → Option Addr) (rl rc : Nat → Nat) (x : Nat → Nat → Nat) (w : World) (hr : RdR w B A k ra rl rc x) (hB : B ≤ w.heap.size) :
    Calls Try.prog 10 #[.slice A k cd] w fun e w' => ∃ v er i n R X, e = .returned (.tuple #[v, .int .i64 er]) ∧ i ≤ 16 ∧ n ≤ 4096 ∧ Ans w' w.heap.size v i n R X ∧ Below w.heap.size w w' := by
  by_cases h : 0 < k ∧ k ≤ 13 ∧ Alike k rl
  · exact (make_cols k cd B A ra rl rc x w hr hB h.1 h.2.1 h.2.2).mono fun e w' ⟨v, R, h1, h2, h3⟩ => ⟨v, 0, 3, rl 0, R, _, h1, by omega, h.2.2.2.1, h2, h3⟩
  · refine (make_no k cd B A ra rl rc x w hr h).mono ?_
    rintro e w' ⟨h1, rfl⟩
    exact ⟨_, _, 0, 0, fun _ => 0, fun _ _ => 0, h1, by omega, by omega, Ans.none_ _ _ _ _ _, Below.refl _ _⟩
theorem check_ans (k cd B : Nat) (A : Option Addr) (ra : Nat → Option Addr) (rl rc : Nat → Nat) (x : Nat → Nat → Nat) (w : World) (hr : RdR w B A k ra rl rc x) (hB : B ≤ w.heap.size) (hcd : k ≤ cd) (hcm : cd ≤ maxLen) :
    Calls Try.prog 11 #[.slice A k cd] w fun e w' => ∃ y er, e = .returned (.tuple #[.bool y, .int .i64 er]) ∧ Below w.heap.size w w' := by
  by_cases h : 4 ≤ k ∧ k ≤ 16 ∧ Alike k rl
  · obtain ⟨m, rfl⟩ : ∃ m, k = m + 3 := ⟨k - 3, by omega⟩
    by_cases ht : ∀ j, j < 3 → Tells m (rl 0) x j
    · exact (check_yes (m + 3) m cd B A ra rl rc x w hr hB rfl (by omega) h.2.1 hcd hcm h.2.2 ht).mono fun e w' ⟨h1, h2⟩ => ⟨_, _, h1, h2⟩
    · exact (check_no (m + 3) m cd B A ra rl rc x w hr hB rfl (by omega) h.2.1 hcd hcm h.2.2 ht).mono fun e w' ⟨h1, h2⟩ => ⟨_, _, h1, h2⟩
  · refine (check_bad k cd B A ra rl rc x w hr h).mono ?_
    rintro e w' ⟨h1, rfl⟩
    exact ⟨_, _, h1, Below.refl _ _⟩
/-- what both Rebuilds answer: i columns of n bytes, XX; none where they refuse -/
structure Same2 (K m : Nat) (rl : Nat → Nat) (x : Nat → Nat → Nat) (bz : Nat → Int) (i n : Nat) (XX : Nat → Nat → Nat) : Prop where
  few : i ≤ 16
  short : n ≤ 4096
  lt : ∀ a, a < i → ∀ u, u < n → XX a u < 256
  prg : ∀ (cd B c B2 : Nat) (A A2 : Option Addr) (ra : Nat → Option Addr) (rc : Nat → Nat) (W : World), RdR W B A K ra rl rc x → RdZ W B2 A2 m bz → B ≤ W.heap.size → B2 ≤ W.heap.size → m ≤ c → c ≤ maxLen → (A2 = none → c = 0) →
    Calls Try.prog 8 #[.slice A K cd, .slice A2 m c] W fun e w' => ∃ v er R X, e = .returned (.tuple #[v, .int .i64 er]) ∧ Ans w' W.heap.size v i n R X ∧ (∀ a, a < i → ∀ u, u < n → X a u = XX a u) ∧ Below W.heap.size W w'
  doc : ∀ (cd B c B2 : Nat) (A A2 : Option Addr) (ra : Nat → Option Addr) (rc : Nat → Nat) (W : World), RdR W B A K ra rl rc x → RdZ W B2 A2 m bz → B ≤ W.heap.size → B2 ≤ W.heap.size → m ≤ c → c ≤ maxLen → (∀ i, i < K → rl i ≤ rc i ∧ rc i ≤ maxLen) →
    Calls Try.prog 7 #[.slice A K cd, .slice A2 m c] W fun e w' => ∃ v er H R X, e = .returned (.tuple #[v, .int .i64 er]) ∧ Cols w' W.heap.size v i n H R X ∧ (∀ a, a < i → ∀ u, u < n → X a u = XX a u) ∧ Below W.heap.size W w'
theorem rebuilds (K m : Nat) (rl : Nat → Nat) (x : Nat → Nat → Nat) (bz : Nat → Int) (hx : ∀ i, i < K → ∀ v, v < rl i → x i v < 256) : ∃ i n XX, Same2 K m rl x bz i n XX := by
  by_cases h : ∃ k f, K = k + 3 ∧ 0 < k ∧ k ≤ 13 ∧ m ≤ 3 ∧ Rise m bz (K : Int) ∧ First m bz f ∧ f < K ∧ AlikeB K m (rl f) bz rl
  · obtain ⟨k, f, rfl, hk0, hk13, hm3, hri, hf, hfk, hal⟩ := h
    obtain ⟨q, hs⟩ := split_of k hri
    refine ⟨k + 3, rl f, docC k m q bz x, by omega, hal.2.1, ?_, ?_, ?_⟩
    · exact (docC_ok hri hs hm3 hk13 fun i hi hb v hv => hx i hi v (by
        rw [hal.2.2 i hi fun j hj e => by rw [isB_true hj e] at hb; cases hb]
        exact hv)).1
    · intro cd B c B2 A A2 ra rc W hr hz hB hB2 hmc hcm h0
      exact (rebuild_docE k m cd B c B2 f q A A2 ra rl rc x bz W hr hz hB hB2 hmc hcm h0 hri hf hfk hk0 hk13 hm3 hal hs).mono fun e w' ⟨v, R, X, h1, h2, h3, h4⟩ => ⟨v, 0, R, X, h1, h2, h3, h4⟩
    · intro cd B c B2 A A2 ra rc W hr hz hB hB2 hmc hcm hrc
      exact (docReb.main k m cd B c B2 f q A A2 ra rl rc x bz W hr hz hB hB2 hri hf hfk hk0 hk13 hm3 hal hrc hs).mono fun e w' ⟨v, H, R, X, h1, h2, h3, h4⟩ => ⟨v, 0, H, R, X, h1, h2, h3, h4⟩
  · refine ⟨0, 0, fun _ _ => 0, by omega, by omega, fun a ha => absurd ha (by omega), ?_, ?_⟩
    · intro cd B c B2 A A2 ra rc W hr hz hB hB2 hmc hcm h0
      rcases classify K cd m c B B2 A A2 ra rl rc x bz hmc hcm with ⟨er, href⟩ | ⟨k, f, h2⟩
      · refine (rebuild_err K cd m c A A2 er W href.ne (href.prg W hr hz)).mono ?_
        rintro e w' ⟨rfl, rfl⟩
        exact ⟨_, _, fun _ => 0, fun _ _ => 0, rfl, Ans.none_ _ _ _ _ _, fun a ha => absurd ha (by omega), Below.refl _ _⟩
      · exact absurd ⟨k, f, h2⟩ h
    · intro cd B c B2 A A2 ra rc W hr hz hB hB2 hmc hcm hrc
      rcases classify K cd m c B B2 A A2 ra rl rc x bz hmc hcm with ⟨er, href⟩ | ⟨k, f, h2⟩
      · refine (docRebuild_err K cd m c A A2 er W href.ne (href.doc W hr hz)).mono ?_
        rintro e w' ⟨rfl, d, rfl⟩
        exact ⟨_, _, fun _ => (none, 0, 0), fun _ => 0, fun _ _ => 0, rfl, Cols.none_ _ _ _ _ _ _, fun a ha => absurd ha (by omega), ⟨rfl, rfl, rfl, Nat.le_refl _, fun _ _ => rfl⟩⟩
      · exact absurd ⟨k, f, h2⟩ h
end Go.Proofs.Ytoabhbmhjelplaa
