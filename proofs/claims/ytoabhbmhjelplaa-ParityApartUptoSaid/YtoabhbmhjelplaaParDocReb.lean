/-
  The document's 'Rebuild' by a contract, with up to three bad columns. Conditions: columns read as rows of bytes, the bad ones as a rising row of numbers.
-/
import Derived.Test.YtoabhbmhjelplaaParDocAid
import Derived.Deep.DeepCutAuto
namespace Go.Proofs.Ytoabhbmhjelplaa
open Go Go.RowKit
set_option maxRecDepth 100000
set_option linter.unusedVariables false
namespace docReb
def lostL (bz : Nat → Int) (t : Nat) : List Nat := (List.range t).map (lz bz)
theorem lostL_length (bz : Nat → Int) (t : Nat) : (lostL bz t).length = t := by simp [lostL]
theorem lostL_succ (bz : Nat → Int) (t : Nat) : lostL bz (t + 1) = lostL bz t ++ [lz bz t] := by simp [lostL, List.range_succ]
theorem lostL_get {bz : Nat → Int} {t a : Nat} (h : a < t) : (lostL bz t).getD a 0 = lz bz a := by simp [lostL, List.getD_eq_getElem?_getD, h]
/-- t of the q lost ones lie below i -/
structure Cnt (q i t : Nat) (bz : Nat → Int) : Prop where
  le : t ≤ q
  lo : ∀ a, a < t → bz a < (i : Int)
  hi : ∀ a, t ≤ a → a < q → (i : Int) ≤ bz a
theorem Cnt.start (q : Nat) {m : Nat} {bz : Nat → Int} {N : Int} (h : Rise m bz N) (hq : q ≤ m) : Cnt q 0 0 bz :=
  ⟨Nat.zero_le _, fun a ha => absurd ha (by omega), fun a _ ha => by have := h.ge a (by omega); omega⟩
theorem Cnt.take {q i t m : Nat} {bz : Nat → Int} {N : Int} (h : Cnt q i t bz) (hr : Rise m bz N) (hq : q ≤ m) (hb : isB q bz i = true) : bz t = (i : Int) ∧ Cnt q (i + 1) (t + 1) bz := by
  obtain ⟨a, ha, e⟩ := isB_of hb
  have hat : t ≤ a := by
    by_cases h1 : a < t
    · have := h.lo a h1; omega
    · omega
  have he : a = t := by
    by_cases h1 : t < a
    · have h2 := hr.lt h1 (by omega)
      have h3 := h.hi t (Nat.le_refl _) (by omega)
      omega
    · omega
  subst he
  refine ⟨e, by omega, fun b hb => ?_, fun b h1 h2 => ?_⟩
  · by_cases e2 : b = a
    · subst e2; omega
    · have := h.lo b (by omega); omega
  · have := hr.lt (show a < b by omega) (by omega)
    omega
theorem Cnt.pass {q i t : Nat} {bz : Nat → Int} (h : Cnt q i t bz) (hb : isB q bz i = false) : Cnt q (i + 1) t bz :=
  ⟨h.le, fun b hb => by have := h.lo b hb; omega, fun b h1 h2 => by
    have h3 := h.hi b h1 h2
    by_cases e : bz b = (i : Int)
    · rw [isB_true h2 e] at hb; cases hb
    · omega⟩
theorem Cnt.done {q i t k : Nat} {bz : Nat → Int} (h : Cnt q i t bz) (hlo : ∀ a, a < q → bz a < (k : Int)) (hi : k ≤ i) : t = q := by
  have := h.le
  by_cases e : t < q
  · have h1 := h.hi t (Nat.le_refl _) e
    have h2 := hlo t e
    omega
  · omega
theorem owns_neG {w : World} {B n m g : Nat} {v : Value} {xs : List Value} {X : Nat → Nat} (h : w.ownsRow B 3 1 v n xs) (hr : RowG w g m X) : v.ownBlock ≠ some g := fun e => by
  rcases h.2 with ⟨h1, _⟩ | ⟨g', cap, cur, h1, _, hb, _⟩
  · rw [h1] at e; cases e
  · rw [h1] at e
    simp [Value.ownBlock] at e
    subst e
    obtain ⟨cs, fr, hb2, _⟩ := hr
    rw [hb2] at hb
    injection hb with hb
    injection hb with _ hb _
    exact absurd hb (by decide)
theorem make_noughts (n : Nat) (hn : n ≤ 70000) (w : World) :
    (Instr.makeSlice 31 (.int .i64 (n : Int)) (.int .i64 (n : Int))).run Try.prog w = .ok (.slice (some ⟨w.heap.size, 0, none⟩) n n) (w.alloc (.cells (rowArr n (fun _ => 0)) 5)) := make_bytes n (by omega) w (n : Int) rfl

theorem _root_.Go.Proofs.Ytoabhbmhjelplaa.Cols.ints {w w' : World} {B base n N : Nat} {v u : Value} {xs : List Value} {H : Nat → Hd} {R : Nat → Nat} {x : Nat → Nat → Nat} {i : Nat} (h : Cols w base v i N H R x) (ho : w.ownsRow B 3 1 u n xs) (hg : w.grownBy w' u.ownBlock) : Cols w' base v i N H R x :=
  ⟨h.own.keep fun g e => hg.block g (h.own.lt e).1 (fun q => owns_ne ho h.own e q.symm), h.hd, fun j hj => ⟨(h.row j hj).1, (h.row j hj).2.heap (hg.block _ (h.row j hj).2.lt (fun q => owns_neG ho (h.row j hj).2 q.symm))⟩, h.apart⟩

theorem _root_.Go.Proofs.Ytoabhbmhjelplaa.Cols.openD {w : World} {base i n : Nat} {v : Value} {H : Nat → Hd} {R : Nat → Nat} {x : Nat → Nat → Nat} (h : Cols w base v i n H R x) (hi : 0 < i) : ∃ g c, v = .slice (some ⟨g, 0, none⟩) i c ∧ i ≤ c ∧ c ≤ maxLen ∧ base ≤ g := by
  rcases h.own with ⟨_, rfl⟩ | ⟨g, cap, cur, fr, rfl, hg, hb, _, h1, h2, _, h4⟩
  · omega
  · exact ⟨g, cap, rfl, h1, h2, hg⟩
theorem _root_.Go.Proofs.Ytoabhbmhjelplaa.Cols.grown8 {w w' : World} {B0 t n m : Nat} {v u : Value} {H : Nat → Hd} {R : Nat → Nat} {x : Nat → Nat → Nat} {X : Nat → Nat} (h : Cols w B0 v t n H R x) (ho : Own8 w B0 u m X) (hN : ∀ j, j < t → u.ownBlock ≠ some (R j)) (hg : w.grownBy w' u.ownBlock) : Cols w' B0 v t n H R x :=
  ⟨h.own.keep fun g e => hg.block g (h.own.lt e).1 (det.ownS_ne8 h.own ho g e), h.hd, fun j hj => ⟨(h.row j hj).1, (h.row j hj).2.heap (hg.block _ (h.row j hj).2.lt (fun q => hN j hj q.symm))⟩, h.apart⟩
theorem ints_rd {w : World} {B q c : Nat} {A : Option Addr} {bz : Nat → Int} (h : w.ownsRow B 3 1 (.slice A q c) q (natL (lostL bz q))) : RdZ w w.heap.size A q (fun a => ((lz bz a : Nat) : Int)) ∧ q ≤ c ∧ ∀ bb, (∃ o, A = some ⟨bb, o, none⟩) → B ≤ bb := by
  obtain ⟨A', c', e, h1, h2, h3⟩ := own_ints2 h
  injection e with e1 e2 e3
  subst e1; subst e3
  refine ⟨fun a ha => ?_, h1, h3⟩
  obtain ⟨b, o, p1, p2, p3⟩ := h2 a ha
  refine ⟨b, o, p1, p2, ?_⟩
  rw [p3]
  show some (Value.int .i64 (((lostL bz q).getD a 0 : Nat) : Int)) = _
  rw [lostL_get ha]
theorem isB_lz {m q : Nat} {bz : Nat → Int} {N : Int} (h : Rise m bz N) (hq : q ≤ m) (i : Nat) : isB q (fun a => ((lz bz a : Nat) : Int)) i = isB q bz i := by
  by_cases hb : isB q bz i = true
  · obtain ⟨a, ha, e⟩ := isB_of hb
    rw [hb, isB_true ha (by rw [lz_cast h (by omega)]; exact e)]
  · have hb : isB q bz i = false := by simpa using hb
    rw [hb, isB_false]
    intro a ha e
    have e : ((lz bz a : Nat) : Int) = (i : Int) := e
    rw [lz_cast h (by omega)] at e
    rw [isB_true ha e] at hb
    cases hb
theorem below_dN {b : Nat} {w w' : World} (h : Below b w w') (n : Nat) : Below b w (w'.drewN n) := ⟨h.os, h.tape, h.output, h.size, h.block⟩
theorem quiet_of_eq {P : Program} {f : FuncId} {args : Array Value} {w : World} {n : Nat} {v : Value} (h : Calls P f args (w.drewN n) fun e w' => e = .returned v ∧ w.drewN n = w') : Calls P f args (w.drewN n) fun e w'' => e = .returned v ∧ ∃ m, w'' = w.drewN m :=
  h.mono fun _ _ ⟨he, hm⟩ => ⟨he, n, hm.symm⟩
/-- one byte of one column -/
theorem _root_.Go.Proofs.Ytoabhbmhjelplaa.Cols.setbyte {w : World} {base K n j v0 u : Nat} {v : Value} {H : Nat → Hd} {R : Nat → Nat} {X : Nat → Nat → Nat} (h : Cols w base v K n H R X) (hj : j < K) (hv : v0 < n) : Cols (w.setCell ⟨R j, v0, none⟩ (.int .u8 ((u : Nat) : Int))) base v K n H R (fun i => if i = j then upd (X j) v0 u else X i) := by
  have hrj := (h.row j hj).2
  refine ⟨h.own.keep fun g hg => Below.heap_setCell w _ _ g (fun e => h.own.neG hrj (by rw [hg]; exact congrArg some e.symm)), h.hd, fun i hi => ⟨(h.row i hi).1, ?_⟩, h.apart⟩
  show RowG _ (R i) n (if i = j then upd (X j) v0 u else X i)
  by_cases e : i = j
  · subst e
    rw [if_pos rfl]
    exact hrj.set hv
  · rw [if_neg e]
    exact (h.row i hi).2.far (p := ⟨R j, v0, none⟩) (h.ne hi hj e) _
/-- another row in one column's place -/
theorem _root_.Go.Proofs.Ytoabhbmhjelplaa.Cols.sethead {w : World} {base K n g c g2 c2 i : Nat} {H : Nat → Hd} {R : Nat → Nat} {X : Nat → Nat → Nat} {Y : Nat → Nat} (h : Cols w base (.slice (some ⟨g, 0, none⟩) K c) K n H R X) (hi : i < K) (hr : RowG w g2 n Y) (hb : base ≤ g2) (hcc : n ≤ c2 ∧ c2 ≤ maxLen) (hne : ∀ j, j < K → R j ≠ g2) :
    Cols (w.setCell ⟨g, i, none⟩ (.slice (some ⟨g2, 0, none⟩) n c2)) base (.slice (some ⟨g, 0, none⟩) K c) K n (fun j => if j = i then (some ⟨g2, 0, none⟩, n, c2) else H j) (fun j => if j = i then g2 else R j) (fun j => if j = i then Y else X j) := by
  have hob : (Value.slice (some ⟨g, 0, none⟩) K c).ownBlock = some g := rfl
  have hfar : ∀ {m : Nat} {z : Nat} {W : Nat → Nat}, RowG w z m W → RowG (w.setCell ⟨g, i, none⟩ (.slice (some ⟨g2, 0, none⟩) n c2)) z m W := fun {m z W} hz => hz.far (p := ⟨g, i, none⟩) (fun e => h.own.neG hz (by rw [hob, e])) _
  have q1 : ∀ j, j ≠ i → (if j = i then g2 else R j) = R j := fun j hj => if_neg hj
  refine ⟨h.own.set (a := (some ⟨g2, 0, none⟩, n, c2)) hi, fun j hj => ?_, fun j hj => ?_, fun j l hjl hl => ?_⟩
  · by_cases e : j = i
    · subst e
      rw [if_pos rfl, if_pos rfl]
      exact ⟨c2, rfl, hcc⟩
    · rw [if_neg e, if_neg e]
      exact h.hd j hj
  · by_cases e : j = i
    · subst e
      rw [if_pos rfl, if_pos rfl]
      exact ⟨hb, hfar hr⟩
    · rw [if_neg e, if_neg e]
      exact ⟨(h.row j hj).1, hfar (h.row j hj).2⟩
  · by_cases e : j = i
    · subst e
      rw [if_pos rfl, if_neg (by omega)]
      exact (hne l hl).symm
    · by_cases e2 : l = i
      · subst e2
        rw [if_neg e, if_pos rfl]
        exact hne j (by omega)
      · rw [if_neg e, if_neg e2]
        exact h.apart j l hjl hl
/-- what stands in the copy while byte v0 is sought -/
def mixD (k m q : Nat) (bz : Nat → Int) (x : Nat → Nat → Nat) (v0 i v : Nat) : Nat := if i < k ∧ v < v0 then docD k m q bz x i v else X0 m bz x i v
/-- .. and a of the lost ones have theirs -/
def mixL (k m q : Nat) (bz : Nat → Int) (x : Nat → Nat → Nat) (v0 a i v : Nat) : Nat := if M.isL a (lz bz) i = true ∧ v = v0 then docD k m q bz x i v else mixD k m q bz x v0 i v
theorem mixL_done {k m q : Nat} {bz : Nat → Int} {x : Nat → Nat → Nat} {N : Int} (h : Rise m bz N) (hs : Split k m q bz) (v0 i v : Nat) : mixL k m q bz x v0 q i v = mixD k m q bz x (v0 + 1) i v := by
  unfold mixL mixD
  by_cases hik : i < k
  · by_cases hv : v = v0
    · subst hv
      rw [if_pos (show i < k ∧ v < v + 1 from ⟨hik, by omega⟩), if_neg (show ¬ (i < k ∧ v < v) from fun q => Nat.lt_irrefl _ q.2)]
      by_cases hl : M.isL q (lz bz) i = true
      · rw [if_pos ⟨hl, rfl⟩]
      · have hl : M.isL q (lz bz) i = false := by simpa using hl
        rw [if_neg (fun q => by rw [hl] at q; cases q.1), docD_not v hl]
    · rw [if_neg (fun q => hv q.2)]
      by_cases h1 : v < v0
      · rw [if_pos ⟨hik, h1⟩, if_pos ⟨hik, by omega⟩]
      · rw [if_neg (fun q => h1 q.2), if_neg (fun q => by omega)]
  · rw [if_neg (show ¬ (i < k ∧ v < v0 + 1) from fun q => hik q.1), if_neg (show ¬ (i < k ∧ v < v0) from fun q => hik q.1)]
    rw [if_neg]
    rintro ⟨hl, _⟩
    obtain ⟨a, ha, e⟩ := M.isL_of hl
    have := lz_lt h hs a ha
    omega
theorem mixL_zero {k m q : Nat} {bz : Nat → Int} {x : Nat → Nat → Nat} (v0 i v : Nat) : mixL k m q bz x v0 0 i v = mixD k m q bz x v0 i v := by
  unfold mixL
  rw [if_neg]
  rintro ⟨hl, _⟩
  obtain ⟨a, ha, _⟩ := M.isL_of hl
  omega
theorem mixD_at {k m q : Nat} {bz : Nat → Int} {x : Nat → Nat → Nat} (v0 i : Nat) : mixD k m q bz x v0 i v0 = X0 m bz x i v0 := by
  unfold mixD
  rw [if_neg (fun q => Nat.lt_irrefl _ q.2)]

theorem mixL_step {k m q : Nat} {bz : Nat → Int} {x Y : Nat → Nat → Nat} {v0 a la u i v : Nat} (hla : la = lz bz a) (hu : docD k m q bz x la v0 = u) (hY : Y i v = mixL k m q bz x v0 a i v) : (if i = la then upd (Y la) v0 u else Y i) v = mixL k m q bz x v0 (a + 1) i v := by
  have hs : M.isL (a + 1) (lz bz) i = true ↔ M.isL a (lz bz) i = true ∨ i = la := by
    constructor
    · intro h
      obtain ⟨b, hb, e⟩ := M.isL_of h
      by_cases h1 : b < a
      · exact .inl (M.isL_true h1 e)
      · obtain rfl : b = a := by omega
        exact .inr (by rw [hla, e])
    · rintro (h | h)
      · obtain ⟨b, hb, e⟩ := M.isL_of h
        exact M.isL_true (show b < a + 1 by omega) e
      · exact M.isL_true (show a < a + 1 by omega) (by rw [h, hla])
  by_cases e : i = la
  · subst e
    rw [if_pos rfl]
    unfold upd
    by_cases hv : v = v0
    · subst hv
      rw [if_pos rfl]
      unfold mixL
      rw [if_pos ⟨hs.2 (.inr rfl), rfl⟩]
      exact hu.symm
    · rw [if_neg hv, hY]
      unfold mixL
      rw [if_neg (fun p => hv p.2), if_neg (fun p => hv p.2)]
  · rw [if_neg e, hY]
    unfold mixL
    by_cases hl : M.isL a (lz bz) i = true
    · by_cases hv : v = v0
      · rw [if_pos ⟨hl, hv⟩, if_pos ⟨hs.2 (.inl hl), hv⟩]
      · rw [if_neg (fun p => hv p.2), if_neg (fun p => hv p.2)]
    · rw [if_neg (fun p => hl p.1), if_neg (fun p => (hs.1 p.1).elim hl e)]

set_option maxHeartbeats 25600000 in
theorem main (k m cd B c B2 f q : Nat) (A A2 : Option Addr) (ra : Nat → Option Addr) (rl rc : Nat → Nat) (x : Nat → Nat → Nat) (bz : Nat → Int) (w : World) (hr : RdR w B A (k + 3) ra rl rc x) (hz : RdZ w B2 A2 m bz) (hB : B ≤ w.heap.size) (hB2 : B2 ≤ w.heap.size) (hri : Rise m bz ((k + 3 : Nat) : Int)) (hf : First m bz f) (hfk : f < k + 3) (hk0 : 0 < k) (hk : k ≤ 13) (hm : m ≤ 3) (ha : AlikeB (k + 3) m (rl f) bz rl) (hrc : ∀ i, i < k + 3 → rl i ≤ rc i ∧ rc i ≤ maxLen) (hs : Split k m q bz) :
    Calls Try.prog 7 #[.slice A (k + 3) cd, .slice A2 m c] w fun e w' => ∃ v H R XX, e = .returned (.tuple #[v, .int .i64 0]) ∧ Cols w' w.heap.size v (k + 3) (rl f) H R XX ∧ (∀ i, i < k + 3 → ∀ v, v < rl f → XX i v = docC k m q bz x i v) ∧ Below w.heap.size w w' := by
  obtain ⟨n, hn⟩ : ∃ n, n = rl f := ⟨_, rfl⟩
  have hal := ha
  rw [← hn] at hal ⊢
  obtain ⟨hn1, hn2, hla⟩ := hal
  have HLA : Hid (∀ i, i < k + 3 → isB m bz i = false → rl i = n) := Lib.hid fun i hi hb => hla i hi fun j hj e => by rw [isB_true hj e] at hb; cases hb
  have hx256 : ∀ i, i < k + 3 → isB m bz i = false → ∀ v, v < n → x i v < 256 := fun i hi hb v hv => by
    obtain ⟨_, _, _, _, _, h⟩ := hr i hi
    rw [HLA.out i hi hb] at h
    obtain ⟨_, _, _, _, _, p⟩ := h v hv
    exact p
  have HDOC := Lib.hid (docC_ok hri hs hm hk hx256)
  have HX : Hid (∀ i, i < k + 3 → ∀ v, v < n → X0 m bz x i v < 256) := Lib.hid fun i hi v hv => by
    by_cases hb : isB m bz i = true
    · rw [X0_bad v hb]; omega
    · have hb : isB m bz i = false := by simpa using hb
      rw [X0_good v hb]; exact hx256 i hi hb v hv
  have HR := Lib.hid hr
  have HZ := Lib.hid hz
  have HRI := Lib.hid hri
  have HRC := Lib.hid hrc
  have HS := Lib.hid hs
  have HBB := Lib.hid (And.intro hB hB2)
  have hqm := hs.le
  have HEV : Hid (∀ w, RdR w B A (k + 3) ra rl rc x → RdZ w B2 A2 m bz → Calls Try.prog 13 #[.slice A (k + 3) cd, .slice A2 m c] w fun e w' => e = .returned (.int .i64 (n : Int)) ∧ w = w') := Lib.hid fun w hr hz => by
    have h := even_to (k + 3) cd B m c B2 f (k + 3) A A2 ra rl rc x bz w hr hz (by unfold maxLen; omega) hri hf (by omega) (by omega) (fun i hi => by
      by_cases e : isB m bz i = true
      · exact .inl e
      · exact .inr (by rw [HLA.out i hi (by simpa using e), hn])) (.inl rfl)
    rw [if_pos ⟨rfl, hfk, by omega, by omega⟩, ← hn] at h
    exact h
  have HRT : Hid (Calls Try.prog 12 #[.slice A (k + 3) cd, .slice A2 m c] w fun e w' => e = .returned (.int .i64 0) ∧ ∃ d, w' = w.drewN d) := Lib.hid (by
    have h := rightB_rise (k + 3) cd B m c B2 A A2 ra rl rc x bz (n : Int) w hr hz (by unfold maxLen; omega) hri (by omega) HEV.out
    rw [if_neg (by omega), if_neg (by omega)] at h
    exact h)
  have hmk := fun W => make_noughts n (by omega) W
  obtain ⟨b0, o0, hA0, hbB0, _⟩ := hr 0 (by omega)
  subst hA0
  have hbB : b0 < w.heap.size := by omega
  obtain ⟨Z, hZ⟩ : ∃ Z, Z = w.heap.size := ⟨_, rfl⟩
  rw [← hZ] at hbB HBB ⊢
  have HZ0 := Lib.hid hZ
  clear hr hz hri hf ha hrc hs hB hB2 hla hn hbB0 hZ hx256
  go_enter Try.func7, Try.ntmps7
  go_wp2_with fail
  refine HRT.out.mono ?_
  rintro e w1 ⟨rfl, d1, rfl⟩
  have s2' : Hid (Z = (w.drewN d1).heap.size) := Lib.hid HZ0.out
  have R1 : Hid (RdR (w.drewN d1) B (some ⟨b0, o0, none⟩) (k + 3) ra rl rc x) := Lib.hid HR.out
  have Z1 : Hid (RdZ (w.drewN d1) B2 A2 m bz) := Lib.hid HZ.out
  have L1 : Hid (∀ w', Below Z (w.drewN d1) w' → Below Z w w') := Lib.hid fun w' h => ⟨h.os, h.tape, h.output, h.size, h.block⟩
  clear HRT HR HZ
  generalize w.drewN d1 = w2 at *
  go_wp2_with fail
  refine (HEV.out w2 R1.out Z1.out).mono ?_
  rintro e w3 ⟨rfl, rfl⟩
  have e3 : IntKind.i64.wrap (((k + 3 : Nat) : Int) - 3) = (k : Int) := by rw [IntKind.wrap_i64]; omega
  clear HEV
  go_wp2_with fail
  go_loopw [9, 10, 11] (fun v u t wr => ∃ (i : Nat) (H : Nat → Hd) (R : Nat → Nat) (tt : Nat), t = .int .i64 i ∧ i ≤ k + 3 ∧ Hid (Cols wr Z v i n H R (X0 m bz x)) ∧ Hid (Cnt q i tt bz) ∧ Hid (wr.ownsRow Z 3 1 u tt (natL (lostL bz tt))) ∧ Hid (Below Z w2 wr)) (fun _ _ t _ => k + 3 - (intOf t).toNat)
  case atStart => exact ⟨0, fun _ => (none, 0, 0), fun _ => 0, 0, rfl, by omega, Lib.hid (Cols.none_ _ _ _ _ _ _), Lib.hid (Cnt.start q HRI.out hqm), Lib.hid ⟨rfl, .inl ⟨rfl, rfl⟩⟩, Lib.hid (Below.refl _ _)⟩
  case round =>
    obtain ⟨wo, rfl⟩ : ∃ wo : World, wo = wr := ⟨_, rfl⟩
    obtain ⟨i, H, R, tt, rfl, hi, C1, N1, O1, L2⟩ := hrel
    have s2 := L2.out.size
    rw [← s2'.out] at s2
    by_cases hlt : i < k + 3
    · have i2 : (i : Int) < (k : Int) + 3 := by omega
      go_wp2_with fail
      refine (has_any m c B2 i A2 bz _ (Z1.out.below L2.out HBB.out.2) (by unfold maxLen; omega)).mono ?_
      rintro e w3 ⟨rfl, rfl⟩
      by_cases hb : isB m bz i = true
      · rw [hb]
        have HBI := Lib.hid hb
        have LA : Hid (Below wo.heap.size wo (wo.alloc (.cells (rowArr n fun _ => 0) 5))) := Lib.hid ((Below.refl _ _).alloc (Nat.le_refl _) _)
        have G4 : Hid (RowG (wo.alloc (.cells (rowArr n fun _ => 0) 5)) wo.heap.size n (fun _ => 0)) := Lib.hid (RowG.of_blk (Blk.new wo _ _) (Nat.le_refl _))
        have h4 := rdh_one (wo.alloc (.cells (rowArr n fun _ => 0) 5)) (some ⟨wo.heap.size, 0, none⟩) n n
        have z4 : (wo.alloc (.cells (rowArr n fun _ => 0) 5)).heap.size = wo.heap.size + 1 := by simp
        have LB : Hid (Below wo.heap.size wo ((wo.alloc (.cells (rowArr n fun _ => 0) 5)).alloc (.cells #[.slice (some ⟨wo.heap.size, 0, none⟩) n n] 31))) := Lib.hid (LA.out.alloc (by omega) _)
        rw [z4] at h4
        have H4 := Lib.hid h4
        have C4 := Lib.hid (C1.out.below LB.out (Nat.le_refl _))
        have O4 : Hid (((wo.alloc (.cells (rowArr n fun _ => 0) 5)).alloc (.cells #[.slice (some ⟨wo.heap.size, 0, none⟩) n n] 31)).ownsRow Z 3 1 u10 tt (natL (lostL bz tt))) := Lib.hid ((O1.out.alloc _).alloc _)
        have hzz : Z ≤ ((wo.alloc (.cells (rowArr n fun _ => 0) 5)).alloc (.cells #[.slice (some ⟨wo.heap.size, 0, none⟩) n n] 31)).heap.size := Nat.le_trans s2 LB.out.size
        have HZ := Lib.hid hzz
        clear hb h4 z4 hzz LA
        go_wp2_with ((with_reducible refine wpList_append_hd rfl (.tmp 45) (.tmp 48) rfl rfl rfl C4.out.own H4.out (fun e => by cases e) (Nat.le_refl _) (by omega) HZ.out ?_); intro v5 w5 ho5 hg5 he5; refine of_hid ?_)
        refine Lib.hid ?_
        have C5 := Lib.hid (C4.out.push ho5 hg5 (G4.out.alloc _) s2 ⟨Nat.le_refl n, by unfold maxLen; omega⟩ (fun j hj => by have := (C1.out.row j hj).2.lt; omega) (fun v _ => (X0_bad v HBI.out).symm))
        have L5 := Lib.hid (own_rowS (L2.out.trans (LB.out.mono s2)) C4.out.own hg5 HZ.out)
        have O5 : Hid (w5.ownsRow Z 3 1 u10 tt (natL (lostL bz tt))) := Lib.hid (owns_keep O4.out fun g hg => hg5.block g (O4.out.lt g hg).2 (fun e => owns_ne O4.out C4.out.own e.symm hg))
        have s5 := L5.out.size
        rw [← s2'.out] at s5
        clear ho5 hg5 he5 C4 C1 L2 LB G4 H4 HZ O4 O1
        by_cases hik : i < k
        · have t1 : ((i : Int) < (k : Int)) = True := by simp; omega
          obtain ⟨htz, hn1'⟩ := N1.out.take HRI.out hqm (by rw [← isB_data HS.out hik]; exact HBI.out)
          have N6 := Lib.hid hn1'
          have hlz : lz bz tt = i := by unfold lz; omega
          have HLZ := Lib.hid hlz
          have htq : tt < q := hn1'.le
          have O6 : Hid ((w5.alloc (.cells #[.int .i64 (i : Int)] 3)).ownsRow Z 3 1 u10 tt (natL (lostL bz tt))) := Lib.hid (O5.out.alloc _)
          have HC : Hid ((w5.alloc (.cells #[.int .i64 (i : Int)] 3)).cell? ⟨w5.heap.size, 0, none⟩ = some (.int .i64 (i : Int))) := by
            show _ = _
            rw [(Blk.new w5 _ _).cell]
            rfl
          have hzz : Z ≤ (w5.alloc (.cells #[.int .i64 (i : Int)] 3)).heap.size := by simp; omega
          have HZ' := Lib.hid hzz
          have L6a : Hid (Below Z w2 (w5.alloc (.cells #[.int .i64 (i : Int)] 3))) := L5.out.alloc s5 _
          have C6a := Lib.hid (C5.out.below ((Below.refl w5.heap.size w5).alloc (Nat.le_refl _) (.cells #[.int .i64 (i : Int)] 3)) (Nat.le_refl _))
          clear hzz htz hn1' hlz N1 O5 L5 C5 hik
          go_wp2_with ((with_reducible refine wpList_pushZ rfl (.tmp 53) (.tmp 55) rfl rfl O6.out rfl HC.out (by omega) HZ'.out ?_); intro v6 w6 ho6 hg6; refine of_hid ?_)
          refine Lib.hid ?_
          have L6 := Lib.hid (below_grown L6a.out O6.out hg6 HZ'.out)
          have C6 := Lib.hid (C6a.out.ints O6.out hg6)
          have O7 : Hid (w6.ownsRow Z 3 1 v6 (tt + 1) (natL (lostL bz (tt + 1)))) := Lib.hid (by rw [lostL_succ, natL_snoc, HLZ.out]; exact ho6)
          clear ho6 hg6 O6 HC HZ' L6a C6a HLZ
          go_wp2_with fail
          go_roundw
          case rel => exact ⟨i + 1, _, _, tt + 1, by go_num, by omega, C6, N6, O7, L6⟩
          case measure => simp [intOf]; omega
        · have t1 : ((i : Int) < (k : Int)) = False := by simp; omega
          have htt := N1.out.done HS.out.lo (show k ≤ i by omega)
          have N6 : Hid (Cnt q (i + 1) tt bz) := Lib.hid ⟨N1.out.le, fun b hb => by have := N1.out.lo b hb; omega, fun b h1 h2 => by omega⟩
          clear hik htt N1
          go_wp2_with fail
          go_roundw
          case rel => exact ⟨i + 1, _, _, tt, by go_num, by omega, C5, N6, O5, L5⟩
          case measure => simp [intOf]; omega
      · have hb : isB m bz i = false := by simpa using hb
        rw [hb]
        have HBI := Lib.hid hb
        have N6 : Hid (Cnt q (i + 1) tt bz) := Lib.hid (N1.out.pass (by
          by_cases e : isB q bz i = true
          · obtain ⟨a, ha, e2⟩ := isB_of e
            rw [isB_true (show a < m by omega) e2] at hb
            cases hb
          · simpa using e))
        obtain ⟨hba, hca, hxa⟩ := (R1.out.below L2.out HBB.out.1).head hlt
        rw [HLA.out i hlt hb] at hca hxa
        have hrc := HRC.out i hlt
        rw [HLA.out i hlt hb] at hrc
        obtain ⟨bx, ox, hxe, _⟩ := hxa 0 (by omega)
        rw [hxe] at hca hxa
        have hbw : b0 < wo.heap.size := by omega
        have O2 : Hid (Own8 (wo.alloc (.cells #[] 5)) wo.heap.size (.slice (some ⟨wo.heap.size, 0, none⟩) 0 0) 0 (fun _ => 0)) := Lib.hid (own_empty (Nat.le_refl _))
        have RX : Hid (RdB (wo.alloc (.cells #[] 5)) B (some ⟨bx, ox, none⟩) n (x i)) := Lib.hid (hxa.below ((Below.refl wo.heap.size wo).alloc (Nat.le_refl _) _) (by have := HBB.out.1; omega))
        have LA : Hid (Below wo.heap.size wo (wo.alloc (.cells #[] 5))) := Lib.hid ((Below.refl _ _).alloc (Nat.le_refl _) _)
        obtain ⟨ci, hci⟩ : ∃ ci, ci = rc i := ⟨_, rfl⟩
        rw [← hci] at hca hrc
        clear hxe hxa hba hb hci N1
        go_wp2_with ((with_reducible refine wpList_append_rd rfl (.tmp 58) (.tmp 62) rfl rfl rfl O2.out RX.out (fun e => by cases e) hrc.1 (by omega) (by simp) ?_); intro v4 w4 ho2 hg2 he2; refine of_hid ?_)
        refine Lib.hid ?_
        rw [Nat.zero_add] at ho2
        obtain ⟨g, cg, rfl, hgb, hrow, hng, hcg⟩ := ho2.row (by omega)
        have L4 : Hid (Below wo.heap.size wo w4) := Lib.hid (own_grown8 LA.out O2.out hg2 (by simp))
        have G4 : Hid (RowG w4 g n (x i)) := hrow.congr fun v hv => rfl
        have C4 : Hid (Cols (w4.alloc (.cells #[.slice (some ⟨g, 0, none⟩) n cg] 31)) Z u9 i n H R (X0 m bz x)) := Lib.hid ((C1.out.below L4.out (Nat.le_refl _)).below ((Below.refl w4.heap.size w4).alloc (Nat.le_refl _) _) (Nat.le_refl _))
        have O4 : Hid ((w4.alloc (.cells #[.slice (some ⟨g, 0, none⟩) n cg] 31)).ownsRow Z 3 1 u10 tt (natL (lostL bz tt))) := Lib.hid ((owns_keep O1.out fun g hg => L4.out.block g (O1.out.lt g hg).2).alloc _)
        have H4 := Lib.hid (rdh_one w4 (some ⟨g, 0, none⟩) n cg)
        have s4 := L4.out.size
        have hzz : Z ≤ (w4.alloc (.cells #[.slice (some ⟨g, 0, none⟩) n cg] 31)).heap.size := by simp; omega
        have HZ := Lib.hid hzz
        clear hzz ho2 hg2 he2 hrow O2 RX hca LA
        go_wp2_with ((with_reducible refine wpList_append_hd rfl (.tmp 57) (.tmp 64) rfl rfl rfl C4.out.own H4.out (fun e => by cases e) (Nat.le_refl _) (by omega) HZ.out ?_); intro v5 w5 ho5 hg5 he5; refine of_hid ?_)
        refine Lib.hid ?_
        have C5 := Lib.hid (C4.out.push ho5 hg5 (G4.out.alloc _) (by omega) ⟨hng, hcg⟩ (fun j hj => by have := (C1.out.row j hj).2.lt; omega) (fun v _ => (X0_good v HBI.out).symm))
        have L5 := Lib.hid (own_rowS ((L2.out.trans (L4.out.mono s2)).alloc (by omega) _) C4.out.own hg5 HZ.out)
        have O5 : Hid (w5.ownsRow Z 3 1 u10 tt (natL (lostL bz tt))) := Lib.hid (owns_keep O4.out fun g hg => hg5.block g (O4.out.lt g hg).2 (fun e => owns_ne O4.out C4.out.own e.symm hg))
        clear ho5 hg5 he5 C4 C1 L2 L4 G4 H4 HZ O4 O1
        go_wp2_with fail
        go_roundw
        case rel => exact ⟨i + 1, _, _, tt, by go_num, by omega, C5, N6, O5, L5⟩
        case measure => simp [intOf]; omega
    · obtain rfl : i = k + 3 := by omega
      have htq := (N1.out.done HS.out.lo (by omega)).symm
      subst htq
      obtain ⟨h0, c9, rfl, hc9, hc9m, hh0⟩ := C1.out.openD (by omega)
      obtain ⟨A10, c10, rfl, hqc, _, _⟩ := own_ints2 O1.out
      have M0 : Hid (∀ i, i < k + 3 → ∀ v, v < n → X0 m bz x i v = mixD k m q bz x 0 i v) := Lib.hid fun i _ v _ => by unfold mixD; rw [if_neg (fun q => Nat.not_lt_zero _ q.2)]
      unfold maxLen at hc9m
      clear hi hlt N1 hmk s2
      go_wp2_with fail
      go_loopg [12] n (fun gk t wr => ∃ (v0 : Nat) (XX : Nat → Nat → Nat), gk = n - v0 ∧ t = .int .i64 v0 ∧ v0 ≤ n ∧ Hid (Cols wr Z (.slice (some ⟨h0, 0, none⟩) (k + 3) c9) (k + 3) n H R XX) ∧ Hid (∀ i, i < k + 3 → ∀ v, v < n → XX i v = mixD k m q bz x v0 i v) ∧ Hid (wr.ownsRow Z 3 1 (.slice A10 q c10) q (natL (lostL bz q))) ∧ Hid (Below Z w2 wr))
      case atStart => exact ⟨0, _, rfl, rfl, by omega, C1, M0, O1, L2⟩
      case round =>
        clear C1 M0 O1 L2
        obtain ⟨v0, XX, rfl, rfl, hv0, C2, M2, O2, L3⟩ := hrel
        have s3 := L3.out.size
        rw [← s2'.out] at s3
        go_upto_region 16 with (fail)
        go_cut [73] (fun c wx => ∃ bb : Bool, c = .bool bb ∧ Hid (bb = decide (v0 < n ∧ 0 < q)) ∧ wx = wr)
        case first =>
          by_cases h1 : v0 < n
          · have t1 : decide ((v0 : Int) < (n : Int)) = true := by simp; omega
            have t1' : decide (v0 < n) = true := by simp; omega
            by_cases h2 : 0 < q
            · have t2 : decide (0 < q) = true := by simp; omega
              have hb : decide (v0 < n ∧ 0 < q) = true := decide_eq_true ⟨h1, h2⟩
              go_wp2_with fail
              go_meet
              exact ⟨_, rfl, Lib.hid hb.symm, rfl⟩
            · have t2 : decide (0 < q) = false := by simp; omega
              have hb : decide (v0 < n ∧ 0 < q) = false := decide_eq_false fun p => h2 p.2
              go_wp2_with fail
              go_meet
              exact ⟨_, rfl, Lib.hid hb.symm, rfl⟩
          · have t1 : decide ((v0 : Int) < (n : Int)) = false := by simp; omega
            have t1' : decide (v0 < n) = false := by simp; omega
            have hb : decide (v0 < n ∧ 0 < q) = false := decide_eq_false fun p => h1 p.1
            go_wp2_with fail
            go_meet
            exact ⟨_, rfl, Lib.hid hb.symm, rfl⟩
        case rest =>
        obtain ⟨bb, rfl, HBB2, rfl⟩ := hcut
        by_cases hgo : v0 < n ∧ 0 < q
        · obtain rfl : bb = true := HBB2.out.trans (decide_eq_true hgo)
          clear HBB2
          obtain ⟨hvn, hq0⟩ := hgo
          have HST : Hid (∀ y, y < q → jz k m bz y < 3) := Lib.hid fun y hy => ((jz_facts HRI.out HS.out hm).2.1 y hy).1
          have HJL : Hid (q ≤ (sndL m bz k 3).length) := Lib.hid (jz_facts HRI.out HS.out hm).1
          obtain ⟨Z1', hZ1⟩ : ∃ Z1', Z1' = wc.heap.size := ⟨_, rfl⟩
          rw [← hZ1] at s3
          have HZ1 := Lib.hid hZ1
          have L0 : Hid (Below Z1' wc wc) := Lib.hid (Below.refl _ _)
          obtain ⟨FF, hFF⟩ : ∃ FF : Nat → Nat → Nat, FF = M.fac (lz bz) (jz k m bz) := ⟨_, rfl⟩
          obtain ⟨SS, hSS⟩ : ∃ SS : Nat → Nat, SS = docS k (jz k m bz) (X0 m bz x) v0 := ⟨_, rfl⟩
          have HFF := Lib.hid hFF
          have HSS := Lib.hid hSS
          have i0 : (v0 : Int) < (n : Int) := by omega
          clear hZ1 hFF hSS
          go_wp2_with fail
          go_loopg [13, 14, 15] 3 (fun gk vr vs t wr => ∃ (r y : Nat) (Hr : Nat → Hd) (Rr : Nat → Nat), gk = 3 - r ∧ t = .int .i64 r ∧ r ≤ 3 ∧ y ≤ q ∧ Hid (y = (sndL m bz k r).length) ∧ Hid (Cols wr Z1' vr y q Hr Rr FF) ∧ Hid (Own8 wr Z1' vs y SS) ∧ Hid (∀ a, a < y → vs.ownBlock ≠ some (Rr a)) ∧ Hid (Below Z1' wc wr))
          case atStart => exact ⟨0, 0, fun _ => (none, 0, 0), fun _ => 0, rfl, rfl, by omega, by omega, Lib.hid rfl, Lib.hid (Cols.none_ _ _ _ _ _ _), Lib.hid (Own8.nil _ _ _), Lib.hid fun a ha => absurd ha (Nat.not_lt_zero _), L0⟩
          case round =>
            clear L0
            obtain ⟨r, y, Hr, Rr, rfl, rfl, hr3, hyq, Y1, C4, W4, N4, L4⟩ := hrel
            have s4 := L4.out.size
            rw [← HZ1.out] at s4
            obtain ⟨A13, c13, rfl, hc13, hc13m, _, _⟩ := C4.out.heads
            unfold maxLen at hc13m
            go_upto_region 21 with (fail)
            go_cut [84] (fun c wx => ∃ bb : Bool, c = .bool bb ∧ Hid (bb = decide (r < 3 ∧ y < q)) ∧ wx = wr)
            case first =>
              by_cases h1 : r < 3
              · have t1 : decide ((r : Int) < 3) = true := by simp; omega
                by_cases h2 : y < q
                · have t2 : decide (y < q) = true := by simp; omega
                  have t2' : decide ((y : Int) < (q : Int)) = true := by simp; omega
                  have hb : decide (r < 3 ∧ y < q) = true := decide_eq_true ⟨h1, h2⟩
                  go_wp2_with fail
                  go_meet
                  exact ⟨_, rfl, Lib.hid hb.symm, rfl⟩
                · have t2 : decide (y < q) = false := by simp; omega
                  have t2' : decide ((y : Int) < (q : Int)) = false := by simp; omega
                  have hb : decide (r < 3 ∧ y < q) = false := decide_eq_false fun p => h2 p.2
                  go_wp2_with fail
                  go_meet
                  exact ⟨_, rfl, Lib.hid hb.symm, rfl⟩
              · have t1 : decide ((r : Int) < 3) = false := by simp; omega
                have hb : decide (r < 3 ∧ y < q) = false := decide_eq_false fun p => h1 p.1
                go_wp2_with fail
                go_meet
                exact ⟨_, rfl, Lib.hid hb.symm, rfl⟩
            case rest =>
            obtain ⟨bb, rfl, HBB2, rfl⟩ := hcut
            by_cases hgo : r < 3 ∧ y < q
            · obtain rfl : bb = true := HBB2.out.trans (decide_eq_true hgo)
              clear HBB2
              obtain ⟨hrlt, hylt⟩ := hgo
              obtain ⟨kr, hkr, hkr2⟩ : ∃ kr : Nat, IntKind.i64.wrap ((k : Int) + (r : Int)) = (kr : Int) ∧ kr = k + r := ⟨k + r, by rw [IntKind.wrap_i64]; omega, rfl⟩
              have KR := Lib.hid hkr2
              have hkl : kr < k + 3 := by omega
              have j1 : (0 : Int) ≤ (kr : Int) := by omega
              have j2 : (kr : Int) < (k : Int) + 3 := by omega
              clear hkr2
              go_wp2_with fail
              refine (has_any m c B2 kr A2 bz _ (Z1.out.below (L3.out.trans (L4.out.mono s3)) HBB.out.2) (by unfold maxLen; omega)).mono ?_
              rintro e w3 ⟨rfl, rfl⟩
              by_cases hb : isB m bz kr = true
              · rw [hb]
                have Y2 : Hid (y = (sndL m bz k (r + 1)).length) := Lib.hid (by rw [sndL_bad (by rw [← KR.out]; exact hb)]; exact Y1.out)
                clear hb Y1
                go_wp2_with fail
                go_roundg (3 - (r + 1))
                case measure => omega
                case rel => exact ⟨r + 1, y, _, _, rfl, by go_num, by omega, hyq, Y2, C4, W4, N4, L4⟩
              · have hb : isB m bz kr = false := by simpa using hb
                rw [hb]
                have HBI : Hid (isB m bz (k + r) = false) := Lib.hid (by rw [← KR.out]; exact hb)
                have Y2 : Hid (y + 1 = (sndL m bz k (r + 1)).length) := Lib.hid (by rw [sndL_good HBI.out, List.length_append, ← Y1.out]; rfl)
                have JY : Hid (jz k m bz y = r) := Lib.hid (by rw [Y1.out]; exact jz_next hrlt HBI.out)
                -- the sum
                have C5 := Lib.hid (C2.out.below L4.out (by rw [HZ1.out]; exact Nat.le_refl _))
                obtain ⟨ck, hck, _, _⟩ := C5.out.cell hkl
                have hrow := (C5.out.row kr hkl).2.cell hvn
                obtain ⟨s0, hs0⟩ : ∃ s0, s0 = X0 m bz x kr v0 := ⟨_, rfl⟩
                rw [M2.out kr hkl v0 hvn, mixD_at, ← hs0] at hrow
                have HS0 := Lib.hid hs0
                clear hb Y1 hs0
                go_wp2_with fail
                have O5 : Hid (wc.ownsRow Z 3 1 (.slice A10 q c10) q (natL (lostL bz q))) := Lib.hid (owns_keep O2.out fun g hg => L4.out.block g (by rw [HZ1.out]; exact (O2.out.lt g hg).2))
                have LZ := Lib.hid (ints_rd O5.out).1
                have E0 : Hid (s0 < 256) := Lib.hid (by rw [HS0.out]; exact HX.out kr hkl v0 hvn)
                have EX : Hid (s0 ^^^ M.par 0 r (X0 m bz x) v0 = s0) := Lib.hid (by rw [show M.par 0 r (X0 m bz x) v0 = 0 from rfl, Nat.xor_zero])
                clear hkr hck hrow
                go_loopg [16, 17] k (fun gk su t wr' => ∃ (i d : Nat), gk = k - i ∧ t = .int .i64 i ∧ i ≤ k ∧ su = .int .u8 ((s0 ^^^ M.par i r (X0 m bz x) v0 : Nat) : Int) ∧ Hid (wr' = wc.drewN d))
                case atStart => exact ⟨0, 0, rfl, rfl, by omega, by rw [EX.out], Lib.hid rfl⟩
                case round =>
                  clear EX
                  obtain ⟨i, d, rfl, rfl, hik, rfl, hw⟩ := hrel
                  by_cases hlt : i < k
                  · have i2 : (i : Int) < (k : Int) := by omega
                    obtain ⟨wq, hwq⟩ : ∃ wq, wq = wr := ⟨_, rfl⟩
                    rw [← hwq] at hw ⊢
                    clear hwq
                    have hsv : s0 ^^^ M.par i r (X0 m bz x) v0 < 256 := M.xor_lt E0.out (M.par_lt _ _ _ _)
                    have PS : Hid (M.par (i + 1) r (X0 m bz x) v0 = M.par i r (X0 m bz x) v0 ^^^ M.gmul (M.pw (i * r)) (X0 m bz x i v0)) := Lib.hid (M.par_succ _ _ _ _)
                    have PL : Hid (isB q (fun a => ((lz bz a : Nat) : Int)) i = true → M.par (i + 1) r (X0 m bz x) v0 = M.par i r (X0 m bz x) v0) := Lib.hid fun hb => par_lost HRI.out HS.out hlt (by rw [← isB_lz HRI.out hqm]; exact hb)
                    obtain ⟨pv, hpv⟩ : ∃ pv, pv = M.par i r (X0 m bz x) v0 := ⟨_, rfl⟩
                    rw [← hpv] at hsv PS PL
                    obtain ⟨sv, hsvv⟩ : ∃ sv, sv = s0 ^^^ pv := ⟨_, rfl⟩
                    rw [← hpv, ← hsvv]
                    rw [← hsvv] at hsv
                    have HSV := Lib.hid hsvv
                    have C5q : Cols wq Z (.slice (some ⟨h0, 0, none⟩) (k + 3) c9) (k + 3) n H R XX := by rw [hw.out]; exact C5.out.below (B := wc.heap.size) ⟨rfl, rfl, rfl, Nat.le_refl _, fun _ _ => rfl⟩ (Nat.le_refl _)
                    have LZq : Hid (RdZ wq wc.heap.size A10 q (fun a => ((lz bz a : Nat) : Int))) := Lib.hid (by rw [hw.out]; exact LZ.out)
                    obtain ⟨ci, hci, _, _⟩ := C5q.cell (show i < k + 3 by omega)
                    have hrow := (C5q.row i (by omega)).2.cell hvn
                    rw [M2.out i (by omega) v0 hvn, mixD_at] at hrow
                    have hxi := HX.out i (by omega) v0 hvn
                    obtain ⟨xi, hxie⟩ : ∃ xi, xi = X0 m bz x i v0 := ⟨_, rfl⟩
                    rw [← hxie] at hrow hxi PS
                    have hgl := M.gmul_lt (M.pw (i * r)) xi
                    have hpw := M.pw_any_lt (i * r)
                    have HPW : Hid (∀ W : World, Calls Try.prog 16 #[.int .i64 (r : Int), .int .i64 (i : Int)] W fun e w' => e = .returned (.int .u8 ((M.pw (i * r) : Nat) : Int)) ∧ W = w') := Lib.hid fun W => power_any r i W hrlt (by omega)
                    obtain ⟨pw, hpwe⟩ : ∃ pw, pw = M.pw (i * r) := ⟨_, rfl⟩
                    rw [← hpwe] at PS hgl hpw HPW
                    obtain ⟨gm, hgm⟩ : ∃ gm, gm = M.gmul pw xi := ⟨_, rfl⟩
                    have HMU : Hid (∀ W : World, Calls Try.prog 15 #[.int .u8 (pw : Int), .int .u8 (xi : Int)] W fun e w' => e = .returned (.int .u8 ((gm : Nat) : Int)) ∧ W = w') := Lib.hid fun W => by rw [hgm]; exact refmul_any _ _ hpw hxi W
                    rw [← hgm] at PS hgl
                    have xr := u8_xor_nat sv gm hsv hgl
                    have ER : Hid (((sv ^^^ gm : Nat) : Int) = ((s0 ^^^ M.par (i + 1) r (X0 m bz x) v0 : Nat) : Int)) := Lib.hid (by rw [PS.out, HSV.out, Nat.xor_assoc])
                    obtain ⟨sg, hsg⟩ : ∃ sg, sg = sv ^^^ gm := ⟨_, rfl⟩
                    rw [← hsg] at xr ER
                    clear hpv hsvv hxie hpwe hgm hsg hgl hpw hsv hxi C5q
                    go_wp2_with fail
                    refine (has_any q c10 wc.heap.size i A10 (fun a => ((lz bz a : Nat) : Int)) wq LZq.out (by unfold maxLen; omega)).mono ?_
                    rintro e w3 ⟨rfl, rfl⟩
                    by_cases hb : isB q (fun a => ((lz bz a : Nat) : Int)) i = true
                    · have ER2 : Hid (sv = s0 ^^^ M.par (i + 1) r (X0 m bz x) v0) := Lib.hid (by rw [PL.out hb, HSV.out])
                      rw [hb]
                      clear hb xr hci hrow
                      go_wp2_with fail
                      go_roundg (k - (i + 1))
                      case measure => omega
                      case rel => exact ⟨i + 1, d, rfl, by go_num, by omega, by rw [ER2.out], hw⟩
                    · have hb : isB q (fun a => ((lz bz a : Nat) : Int)) i = false := by simpa using hb
                      rw [hb]
                      clear hb
                      go_wp2_with fail
                      go_quiet ((first | (go_at_call 16; exact quiet_of_eq (HPW.out _)) | (go_at_call 15; exact quiet_of_eq (HMU.out _))))
                      clear hci hrow xr
                      go_wp2_with fail
                      go_roundg (k - (i + 1))
                      case measure => omega
                      case rel => exact ⟨i + 1, d + nq, rfl, by go_num, by omega, by rw [← ER.out], Lib.hid (by rw [hw.out]; simp [World.drewN_drewN])⟩
                  · obtain rfl := hw.out
                    obtain rfl : k = i := by omega
                    obtain ⟨sv, hsvv⟩ : ∃ sv, sv = s0 ^^^ M.par k r (X0 m bz x) v0 := ⟨_, rfl⟩
                    have hsv : sv < 256 := by rw [hsvv]; exact M.xor_lt E0.out (M.par_lt _ _ _ _)
                    rw [← hsvv]
                    have HSY : Hid (SS y = sv) := Lib.hid (by
                      rw [HSS.out, hsvv, HS0.out, KR.out]
                      unfold docS
                      rw [JY.out])
                    clear hsvv
                    have C6 : Hid (Cols (wc.drewN d) Z1' (.slice A13 y c13) y q Hr Rr FF) := Lib.hid (C4.out.below (B := wc.heap.size) ⟨rfl, rfl, rfl, Nat.le_refl _, fun _ _ => rfl⟩ (Nat.le_refl _))
                    have W6 : Hid (Own8 (wc.drewN d) Z1' u14 y SS) := Lib.hid W4.out
                    have L6 := Lib.hid (below_dN L4.out d)
                    have LZ6 : Hid (RdZ (wc.drewN d) (wc.drewN d).heap.size A10 q (fun a => ((lz bz a : Nat) : Int))) := Lib.hid LZ.out
                    have s6 : Z1' ≤ (wc.drewN d).heap.size := s4
                    have HLT : Hid (∀ a, a < q → lz bz a < k) := Lib.hid (lz_lt HRI.out HS.out)
                    have HFY : Hid (∀ b, FF y b = M.pw (lz bz b * r)) := Lib.hid fun b => by rw [HFF.out]; unfold M.fac; rw [JY.out]
                    clear C4 W4 L4 LZ s4 C5 O5
                    generalize wc.drewN d = w6 at *
                    obtain ⟨Z3, hZ3⟩ : ∃ Z3, Z3 = w6.heap.size := ⟨_, rfl⟩
                    rw [← hZ3] at s6 LZ6
                    have HZ3 := Lib.hid hZ3
                    have K0 : Hid (Below Z3 w6 w6) := Lib.hid (Below.refl _ _)
                    clear hZ3
                    go_wp2_with fail
                    go_loopg [18, 19] q (fun gk cf t wr => ∃ a : Nat, gk = q - a ∧ t = .int .i64 a ∧ a ≤ q ∧ Hid (Own8 wr Z3 cf a (FF y)) ∧ Hid (Below Z3 w6 wr))
                    case atStart => exact ⟨0, rfl, rfl, by omega, Lib.hid (Own8.nil _ _ _), K0⟩
                    case round =>
                      clear K0
                      obtain ⟨a, rfl, rfl, haq, F7, L7⟩ := hrel
                      have s7 := L7.out.size
                      rw [← HZ3.out] at s7
                      by_cases hlt : a < q
                      · have i3 : (a : Int) < (q : Int) := by omega
                        obtain ⟨bl, ol, hAe, hbl, hcl⟩ := LZ6.out a hlt
                        subst hAe
                        have hcl : wr.cell? ⟨bl, ol + a, none⟩ = some (.int .i64 ((lz bz a : Nat) : Int)) := (L7.out.cell (p := ⟨bl, ol + a, none⟩) hbl).trans hcl
                        have hla := HLT.out a hlt
                        obtain ⟨la, hlae⟩ : ∃ la, la = lz bz a := ⟨_, rfl⟩
                        rw [← hlae] at hcl hla
                        have HPA : Hid (FF y a = M.pw (la * r)) := Lib.hid (by rw [HFY.out, hlae])
                        have hpw := M.pw_any_lt (la * r)
                        have hpower := power_any r la wr hrlt (by omega)
                        obtain ⟨pw, hpwe⟩ : ∃ pw, pw = M.pw (la * r) := ⟨_, rfl⟩
                        rw [← hpwe] at HPA hpw hpower
                        have HPO := Lib.hid hpower
                        have FB := Lib.hid (F7.out.below ((Below.refl wr.heap.size wr).alloc (Nat.le_refl _) (.cells #[.int .u8 ((pw : Nat) : Int)] 5)) (Nat.le_refl _))
                        have RB := Lib.hid (D.rdb_one8 wr pw hpw)
                        have LB := Lib.hid (L7.out.alloc s7 (.cells #[.int .u8 ((pw : Nat) : Int)] 5))
                        have hsb := LB.out.size
                        rw [← HZ3.out] at hsb
                        have SB := Lib.hid hsb
                        have QK : Hid (a + 1 ≤ 70368744177664) := Lib.hid (by omega)
                        clear hlae hpwe hpower hpw hla hbl hsb F7 L7
                        go_wp2_with fail
                        refine HPO.out.mono ?_
                        rintro e w7 ⟨rfl, rfl⟩
                        clear HPO
                        go_wp2_with ((with_reducible refine wpList_append_rd rfl (.tmp 129) (.tmp 136) rfl rfl rfl FB.out RB.out (fun e => by cases e) (Nat.le_refl _) QK.out SB.out ?_); intro v9 w9 ho9 hg9 hat9; refine of_hid ?_)
                        refine Lib.hid ?_
                        have F9 : Hid (Own8 w9 Z3 v9 (a + 1) (FF y)) := Lib.hid (ho9.congr fun j hj => by
                          unfold cat
                          by_cases e : j < a
                          · rw [if_pos e]
                          · obtain rfl : j = a := by omega
                            rw [if_neg e]
                            exact HPA.out.symm)
                        have L9 : Hid (Below Z3 w6 w9) := Lib.hid (D.own_grown8 LB.out FB.out hg9 SB.out)
                        clear ho9 hg9 hat9 FB RB LB SB hcl HPA
                        go_wp2_with fail
                        go_roundg (q - (a + 1))
                        case measure => omega
                        case rel => exact ⟨a + 1, rfl, by go_num, by omega, F9, L9⟩
                      · obtain rfl : a = q := by omega
                        obtain ⟨g, cg, rfl, hgb, hrow, hng, hcg⟩ := F7.out.row hq0
                        have G7 := Lib.hid hrow
                        have C7 := Lib.hid (C6.out.below L7.out (by rw [HZ3.out]; exact Nat.le_refl _))
                        have W7 := Lib.hid (W6.out.below L7.out (by rw [HZ3.out]; exact Nat.le_refl _))
                        have NR : Hid (∀ j, j < y → Rr j ≠ g) := Lib.hid fun j hj => by have := (C6.out.row j hj).2.lt; rw [← HZ3.out] at this; omega
                        have NW : Hid (u14.ownBlock ≠ some g) := Lib.hid fun e => by have := (W6.out.lt e).1; rw [← HZ3.out] at this; omega
                        have L7b := Lib.hid (L6.out.trans (L7.out.mono s6))
                        have s7b := L7b.out.size
                        rw [← HZ1.out] at s7b
                        have C8 := Lib.hid (C7.out.below ((Below.refl wr.heap.size wr).alloc (Nat.le_refl _) (.cells #[.slice (some ⟨g, 0, none⟩) a cg] 31)) (Nat.le_refl _))
                        have W8 := Lib.hid (W7.out.below ((Below.refl wr.heap.size wr).alloc (Nat.le_refl _) (.cells #[.slice (some ⟨g, 0, none⟩) a cg] 31)) (Nat.le_refl _))
                        have H8 := Lib.hid (rdh_one wr (some ⟨g, 0, none⟩) a cg)
                        have L8 := Lib.hid (L7b.out.alloc s7b (.cells #[.slice (some ⟨g, 0, none⟩) a cg] 31))
                        have hz8 := L8.out.size
                        rw [← HZ1.out] at hz8
                        have HZ8 := Lib.hid hz8
                        have hzg : Z1' ≤ g := by omega
                        clear hrow hz8 F7 C6 W6 L6 L7 LZ6 L7b
                        go_wp2_with ((with_reducible refine wpList_append_hd rfl (.tmp 138) (.tmp 140) rfl rfl rfl C8.out.own H8.out (fun e => by cases e) (Nat.le_refl _) (by omega) HZ8.out ?_); intro v5 w8 ho5 hg5 he5; refine of_hid ?_)
                        refine Lib.hid ?_
                        have C9 := Lib.hid (C8.out.push ho5 hg5 (G7.out.alloc _) hzg ⟨hng, hcg⟩ NR.out (fun v _ => rfl))
                        have W9 : Hid (Own8 w8 Z1' u14 y SS) := Lib.hid (W8.out.keep fun b hb => hg5.block b (W8.out.lt hb).1 (fun e => det.ownS_ne8 C8.out.own W8.out b e.symm hb.symm))
                        have N9 : Hid (∀ j, j < y + 1 → u14.ownBlock ≠ some (if j = y then g else Rr j)) := Lib.hid fun j hj => by
                          by_cases e : j = y
                          · rw [if_pos e]; exact NW.out
                          · rw [if_neg e]; exact N4.out j (by omega)
                        have L9 := Lib.hid (own_rowS L8.out C8.out.own hg5 HZ8.out)
                        have s9 := L9.out.size
                        rw [← HZ1.out] at s9
                        have C10 := Lib.hid (C9.out.below ((Below.refl w8.heap.size w8).alloc (Nat.le_refl _) (.cells #[.int .u8 ((sv : Nat) : Int)] 5)) (Nat.le_refl _))
                        have W10 := Lib.hid (W9.out.below ((Below.refl w8.heap.size w8).alloc (Nat.le_refl _) (.cells #[.int .u8 ((sv : Nat) : Int)] 5)) (Nat.le_refl _))
                        have R10 := Lib.hid (D.rdb_one8 w8 sv hsv)
                        have L10 := Lib.hid (L9.out.alloc s9 (.cells #[.int .u8 ((sv : Nat) : Int)] 5))
                        have hz10 := L10.out.size
                        rw [← HZ1.out] at hz10
                        have HZ10 := Lib.hid hz10
                        have QK : Hid (y + 1 ≤ 70368744177664) := Lib.hid (by omega)
                        have NF : Hid (∀ j, j < y + 1 → (if j = y then g else Rr j) < w8.heap.size) := Lib.hid fun j hj => (C9.out.row j hj).2.lt
                        clear ho5 hg5 he5 C8 W8 H8 HZ8 L8 C9 W9 L9 hz10 C7 W7 G7 NR NW N4
                        go_wp2_with ((with_reducible refine wpList_append_rd rfl (.tmp 142) (.tmp 144) rfl rfl rfl W10.out R10.out (fun e => by cases e) (Nat.le_refl _) QK.out HZ10.out ?_); intro v11 w11 ho11 hg11 hat11; refine of_hid ?_)
                        refine Lib.hid ?_
                        have W11 : Hid (Own8 w11 Z1' v11 (y + 1) SS) := Lib.hid (ho11.congr fun j hj => by
                          unfold cat
                          by_cases e : j < y
                          · rw [if_pos e]
                          · obtain rfl : j = y := by omega
                            rw [if_neg e]
                            exact HSY.out.symm)
                        have C11 := Lib.hid (C10.out.grown8 W10.out N9.out hg11)
                        have N11 : Hid (∀ j, j < y + 1 → v11.ownBlock ≠ some (if j = y then g else Rr j)) := Lib.hid fun j hj e => by
                          rcases hat11 with h | h
                          · exact N9.out j hj (h ▸ e)
                          · rw [h] at e
                            injection e with e
                            have h1 := NF.out j hj
                            have h2 : (w8.alloc (.cells #[.int .u8 ((sv : Nat) : Int)] 5)).heap.size = w8.heap.size + 1 := by simp
                            omega
                        have L11 : Hid (Below Z1' _ w11) := Lib.hid (D.own_grown8 L10.out W10.out hg11 HZ10.out)
                        clear ho11 hg11 hat11 C10 W10 R10 L10 HZ10 N9 NF
                        go_wp2_with fail
                        go_roundg (3 - (r + 1))
                        case measure => omega
                        case rel => exact ⟨r + 1, y + 1, _, _, rfl, by go_num, by omega, by omega, Y2, C11, W11, N11, L11⟩
            · obtain rfl : bb = false := HBB2.out.trans (decide_eq_false hgo)
              clear HBB2
              have hyq' : y = q := by
                by_cases h1 : r < 3
                · by_cases h2 : y < q
                  · exact absurd ⟨h1, h2⟩ hgo
                  · omega
                · obtain rfl : r = 3 := by omega
                  have h1 := Y1.out
                  have h2 := HJL.out
                  omega
              subst hyq'
              clear hgo Y1 HJL
              have hFl : ∀ j, j < y → ∀ v, v < y → FF j v < 256 := fun j _ v _ => by rw [HFF.out]; exact M.fac_lt _ _ _ _
              have RD := Lib.hid (C4.out.rdrA hFl)
              have HSL : Hid (∀ j, j < y → SS j < 256) := Lib.hid fun j hj => by
                rw [HSS.out]
                exact docS_lt HST.out (fun i hi => HX.out i hi v0 hvn) hj
              obtain ⟨A14, c14, rfl, hr14, hc14, hc14m, _, _⟩ := W4.out.shape HSL.out
              have RB := Lib.hid hr14
              have HCL : Hid (∀ i, i < y → (Hr i).2.1 = y ∧ y ≤ (Hr i).2.2 ∧ (Hr i).2.2 ≤ maxLen) := Lib.hid fun i hi => by
                obtain ⟨ci, e, h1, h2⟩ := C4.out.hd i hi
                rw [e]
                exact ⟨rfl, h1, h2⟩
              have DET : Hid (M.det y FF ≠ 0) := Lib.hid (by
                rw [HFF.out]
                obtain ⟨f1, f2, f3⟩ := jz_facts HRI.out HS.out hm
                exact (doc_solved (by omega) hk (lz_rise HRI.out HS.out) (lz_lt HRI.out HS.out) f3 (fun x hx => (f2 x hx).1) (v := v0) (fun i hi => HX.out i hi v0 hvn)).1)
              unfold maxLen at hc14m
              clear hr14 hFl HSL HST W4 N4
              have hmq : y ≤ 8 := by omega
              go_wp2_with fail
              refine (det.solve_ok A13 A14 y c13 c14 wc.heap.size wc.heap.size _ _ _ FF SS wc RD.out RB.out ⟨hq0, hmq, rfl, fun i hi => (HCL.out i hi).1⟩ (fun i hi => by have := HCL.out i hi; exact ⟨by rw [this.1]; exact this.2.1, this.2.2⟩) (Nat.le_refl _) (Nat.le_refl _)).mono ?_
              rintro e w6 ⟨hsol, hl6⟩
              have L6z := Lib.hid (L4.out.trans (hl6.mono s4))
              have L6 := Lib.hid (L3.out.trans (L6z.out.mono s3))
              have C6 := Lib.hid (C2.out.below L6z.out (by rw [HZ1.out]; exact Nat.le_refl _))
              have O6 : Hid (w6.ownsRow Z 3 1 (.slice A10 y c10) y (natL (lostL bz y))) := Lib.hid (owns_keep O2.out fun g hg => L6z.out.block g (by rw [HZ1.out]; exact (O2.out.lt g hg).2))
              cases hsol with
              | none h => exact absurd h DET.out
              | one v h ho =>
              obtain ⟨gx, cx, rfl, hgx, hrx, hcx, hcxm⟩ := ho.row hq0
              have X6 := Lib.hid hrx
              have NX : Hid (∀ j, j < k + 3 → R j ≠ gx) := Lib.hid fun j hj => by
                have h1 := (C2.out.row j hj).2.lt
                rw [← HZ1.out] at h1
                omega
              have M6 : Hid (∀ i, i < k + 3 → ∀ v, v < n → XX i v = mixL k m y bz x v0 0 i v) := Lib.hid fun i hi v hv => by rw [mixL_zero]; exact M2.out i hi v hv
              unfold maxLen at hcxm
              clear ho hrx h hl6 DET HCL RD RB C4 L4 L3 C2 O2 M2 L6z s4
              go_wp2_with fail
              go_loopg [22] y (fun gk t wr => ∃ (a : Nat) (YY : Nat → Nat → Nat), gk = y - a ∧ t = .int .i64 a ∧ a ≤ y ∧ Hid (Cols wr Z (.slice (some ⟨h0, 0, none⟩) (k + 3) c9) (k + 3) n H R YY) ∧ Hid (∀ i, i < k + 3 → ∀ v, v < n → YY i v = mixL k m y bz x v0 a i v) ∧ Hid (RowG wr gx y (det.solX y FF SS)) ∧ Hid (wr.ownsRow Z 3 1 (.slice A10 y c10) y (natL (lostL bz y))) ∧ Hid (Below Z w2 wr))
              case atStart => exact ⟨0, _, rfl, rfl, by omega, C6, M6, X6, O6, L6⟩
              case round =>
                clear C6 M6 X6 O6 L6
                obtain ⟨a, YY, rfl, rfl, hay, C7, M7, X7, O7, L7⟩ := hrel
                by_cases hlt : a < y
                · have i3 : (a : Int) < (y : Int) := by omega
                  obtain ⟨bl, ol, hAe, hbl, hcl0⟩ := (ints_rd O7.out).1 a hlt
                  subst hAe
                  have hcl : wr.cell? ⟨bl, ol + a, none⟩ = some (.int .i64 ((lz bz a : Nat) : Int)) := hcl0
                  clear hcl0
                  have hla := lz_lt HRI.out HS.out a hlt
                  obtain ⟨la, hlae⟩ : ∃ la, la = lz bz a := ⟨_, rfl⟩
                  rw [← hlae] at hcl hla
                  have HLA2 := Lib.hid hlae
                  have hlk : la < k + 3 := by omega
                  obtain ⟨cl, hch, _, _⟩ := C7.out.cell hlk
                  have hrow := (C7.out.row la hlk).2.cell hvn
                  have hfro := (C7.out.row la hlk).2.frozen hvn
                  have hxc := X7.out.cell hlt
                  have DA : Hid (docD k m y bz x la v0 = det.solX y FF SS a) := Lib.hid (by rw [hlae, docD_at HRI.out HS.out v0 hlt, HFF.out, HSS.out])
                  obtain ⟨sx, hsx⟩ : ∃ sx, sx = det.solX y FF SS a := ⟨_, rfl⟩
                  rw [← hsx] at hxc DA
                  obtain ⟨ov, hov⟩ : ∃ ov, ov = YY la v0 := ⟨_, rfl⟩
                  rw [← hov] at hrow
                  obtain ⟨rla, hrla⟩ : ∃ rla, rla = R la := ⟨_, rfl⟩
                  have C8 := Lib.hid (C7.out.setbyte (u := sx) hlk hvn)
                  rw [← hrla] at hch hrow hfro C8
                  have HRLA := Lib.hid hrla
                  have l1 : (0 : Int) ≤ (la : Int) := by omega
                  have l2 : (la : Int) < (k : Int) + 3 := by omega
                  clear hlae hsx hov hrla hbl
                  go_wp2_with fail
                  go_region
                  go_wp2_with fail
                  have C9 : Hid (Cols (wr.setCell ⟨rla, v0, none⟩ (.int .u8 ((sx : Nat) : Int))).drew Z (.slice (some ⟨h0, 0, none⟩) (k + 3) c9) (k + 3) n H R (fun i => if i = la then upd (YY la) v0 sx else YY i)) := Lib.hid (C8.out.below (B := (wr.setCell ⟨rla, v0, none⟩ (.int .u8 ((sx : Nat) : Int))).heap.size) ⟨rfl, rfl, rfl, Nat.le_refl _, fun _ _ => rfl⟩ (Nat.le_refl _))
                  have M9 : Hid (∀ i, i < k + 3 → ∀ v, v < n → (if i = la then upd (YY la) v0 sx else YY i) v = mixL k m y bz x v0 (a + 1) i v) := Lib.hid fun i hi v hv => mixL_step HLA2.out DA.out (M7.out i hi v hv)
                  have hne : gx ≠ rla := fun e => NX.out la hlk (by rw [← HRLA.out, e])
                  have hob : ∀ g, (Value.slice (some ⟨bl, ol, none⟩) y c10).ownBlock = some g → g ≠ rla := fun g hg e => owns_neG O7.out (by have := (C7.out.row la hlk).2; rw [← HRLA.out] at this; exact this) (by rw [hg, e])
                  have X9 : Hid (RowG (wr.setCell ⟨rla, v0, none⟩ (.int .u8 ((sx : Nat) : Int))).drew gx y (det.solX y FF SS)) := Lib.hid (X7.out.far (p := ⟨rla, v0, none⟩) hne _)
                  have O9 : Hid ((wr.setCell ⟨rla, v0, none⟩ (.int .u8 ((sx : Nat) : Int))).drew.ownsRow Z 3 1 (.slice (some ⟨bl, ol, none⟩) y c10) y (natL (lostL bz y))) := Lib.hid (owns_keep O7.out fun g hg => Below.heap_setCell wr ⟨rla, v0, none⟩ _ g (hob g hg))
                  have hZr : Z ≤ rla := by have := (C7.out.row la hlk).1; rw [← HRLA.out] at this; exact this
                  have L9 : Hid (Below Z w2 (wr.setCell ⟨rla, v0, none⟩ (.int .u8 ((sx : Nat) : Int))).drew) := Lib.hid (below_dN (L7.out.setCell (p := ⟨rla, v0, none⟩) hZr _) 1)
                  clear C7 M7 X7 O7 L7 C8 hob hne hch hrow hfro hxc hcl
                  go_roundg (y - (a + 1))
                  case measure => omega
                  case rel => exact ⟨a + 1, _, rfl, by go_num, by omega, C9, M9, X9, O9, L9⟩
                · obtain rfl : y = a := by omega
                  have M8 : Hid (∀ i, i < k + 3 → ∀ v, v < n → YY i v = mixD k m y bz x (v0 + 1) i v) := Lib.hid fun i hi v hv => by rw [M7.out i hi v hv, mixL_done HRI.out HS.out]
                  clear M7 X7
                  go_wp2_with fail
                  go_roundg (n - (v0 + 1))
                  case measure => omega
                  case rel => exact ⟨v0 + 1, _, rfl, by go_num, by omega, C7, M8, O7, L7⟩
        · obtain rfl : bb = false := HBB2.out.trans (decide_eq_false hgo)
          clear HBB2
          have M3 : Hid (∀ i, i < k + 3 → ∀ v, v < n → XX i v = if i < k then docD k m q bz x i v else X0 m bz x i v) := Lib.hid fun i hi v hv => by
            rw [M2.out i hi v hv]
            unfold mixD
            by_cases hik : i < k
            · rw [if_pos hik]
              by_cases hv2 : v < v0
              · rw [if_pos ⟨hik, hv2⟩]
              · have hq0 : q = 0 := by
                  by_cases e : q = 0
                  · exact e
                  · exact absurd ⟨by omega, by omega⟩ hgo
                rw [if_neg (fun p => hv2 p.2), docD_not v]
                rw [hq0]
                exact M.isL_false fun a ha => absurd ha (Nat.not_lt_zero _)
            · rw [if_neg hik, if_neg (fun p => hik p.1)]
          clear hgo M2 O2
          go_wp2_with fail
          go_loopg [23] 3 (fun gk t wr => ∃ (r : Nat) (H : Nat → Hd) (R : Nat → Nat) (XX : Nat → Nat → Nat), gk = 3 - r ∧ t = .int .i64 r ∧ r ≤ 3 ∧ Hid (Cols wr Z (.slice (some ⟨h0, 0, none⟩) (k + 3) c9) (k + 3) n H R XX) ∧ Hid (∀ i, i < k → ∀ v, v < n → XX i v = docD k m q bz x i v) ∧ Hid (∀ j, j < 3 → ∀ v, v < n → XX (k + j) v = if j < r then docC k m q bz x (k + j) v else X0 m bz x (k + j) v) ∧ Hid (Below Z w2 wr))
          case atStart => exact ⟨0, H, R, XX, rfl, rfl, by omega, C2, Lib.hid fun i hi v hv => by rw [M3.out i (by omega) v hv, if_pos hi], Lib.hid fun j hj v hv => by rw [M3.out (k + j) (by omega) v hv, if_neg (by omega), if_neg (by omega)], L3⟩
          case round =>
            clear C2 M3 L3 s3
            obtain ⟨r, H, R, XX, rfl, rfl, hr3, C3, D3, P3, L4⟩ := hrel
            have s4 := L4.out.size
            rw [← s2'.out] at s4
            --S7
            by_cases hlt : r < 3
            · have i2 : (r : Int) < 3 := by omega
              obtain ⟨kr, hkr, hkr2⟩ : ∃ kr : Nat, IntKind.i64.wrap ((k : Int) + (r : Int)) = (kr : Int) ∧ kr = k + r := ⟨k + r, by rw [IntKind.wrap_i64]; omega, rfl⟩
              have KR := Lib.hid hkr2
              have hkl : kr < k + 3 := by omega
              have j1 : (0 : Int) ≤ (kr : Int) := by omega
              have j2 : (kr : Int) < (k : Int) + 3 := by omega
              clear hkr2
              go_wp2_with fail
              refine (has_any m c B2 kr A2 bz _ (Z1.out.below L4.out HBB.out.2) (by unfold maxLen; omega)).mono ?_
              rintro e w3 ⟨rfl, rfl⟩
              by_cases hb : isB m bz kr = true
              · rw [hb]
                have HBI : Hid (isB m bz (k + r) = true) := Lib.hid (by rw [← KR.out]; exact hb)
                have hXX : ∀ i, i < k + 3 → ∀ v, v < n → XX i v < 256 := fun i hi v hv => by
                  by_cases hik : i < k
                  · rw [D3.out i hik v hv, ← docC_data v hik]; exact HDOC.out.1 i hi v hv
                  · obtain ⟨j, rfl⟩ : ∃ j, i = k + j := ⟨i - k, by omega⟩
                    rw [P3.out j (by omega) v hv]
                    split
                    · exact HDOC.out.1 _ hi v hv
                    · exact HX.out _ hi v hv
                have hrd := C3.out.rdrA hXX
                have RD : Hid (RdR wr wr.heap.size (some ⟨h0, 0, none⟩) k (fun j => (H j).1) (fun j => (H j).2.1) (fun j => (H j).2.2) XX) := Lib.hid fun i hi => hrd i (by omega)
                have HLN : Hid (∀ i, i < k → (H i).2.1 = n) := Lib.hid fun i hi => C3.out.len (by omega)
                have hsl := slice_headR h0 0 (k + 3) c9 k (by omega)
                clear hb hrd hXX
                go_wp2_with fail
                refine (refpar_any n k c9 wr.heap.size r _ _ _ _ XX _ RD.out HLN.out hk0 (by omega) hn1 hn2 hlt (Nat.le_refl _)).mono ?_
                rintro e w5 ⟨rfl, hg5, hl5⟩
                have C5 := Lib.hid (C3.out.below hl5 (Nat.le_refl _))
                have G5 := Lib.hid hg5
                have L5 := Lib.hid (L4.out.trans (hl5.mono s4))
                obtain ⟨cg1, cg2⟩ := C5.out.own.cells hkl
                obtain ⟨hv, hhv⟩ : ∃ hv, hv = hdV (H kr) := ⟨_, rfl⟩
                rw [← hhv] at cg1
                have hne5 : ∀ j, j < k + 3 → R j ≠ wr.heap.size := fun j hj => by have := (C3.out.row j hj).2.lt; omega
                have C6 := Lib.hid (C5.out.sethead hkl G5.out s4 ⟨Nat.le_refl n, by unfold maxLen; omega⟩ hne5)
                have L6 := Lib.hid (L5.out.setCell (p := ⟨h0, kr, none⟩) hh0 (.slice (some ⟨wr.heap.size, 0, none⟩) n n))
                have D6 : Hid (∀ i, i < k → ∀ v, v < n → (if i = kr then M.par k r XX else XX i) v = docD k m q bz x i v) := Lib.hid fun i hi v hv => by
                  rw [if_neg (by have := KR.out; omega)]
                  exact D3.out i hi v hv
                have P6 : Hid (∀ j, j < 3 → ∀ v, v < n → (if k + j = kr then M.par k r XX else XX (k + j)) v = if j < r + 1 then docC k m q bz x (k + j) v else X0 m bz x (k + j) v) := Lib.hid fun j hj v hv => by
                  by_cases e : j = r
                  · subst e
                    rw [if_pos KR.out.symm, if_pos (by omega), docC_par, HBI.out, if_pos rfl]
                    exact M.xsum_congr fun i hi => by rw [D3.out i hi v hv]
                  · rw [if_neg (by have := KR.out; omega), P3.out j hj v hv]
                    by_cases e2 : j < r
                    · rw [if_pos e2, if_pos (by omega)]
                    · rw [if_neg e2, if_neg (by omega)]
                clear hsl hg5 hl5 hhv hne5 C3 D3 P3 L4 C5 G5 L5 RD HLN
                go_wp2_with fail
                go_roundg (3 - (r + 1))
                case measure => omega
                case rel => exact ⟨r + 1, _, _, _, rfl, by go_num, by omega, C6, D6, P6, L6⟩
              · have hb : isB m bz kr = false := by simpa using hb
                rw [hb]
                have HBI : Hid (isB m bz (k + r) = false) := Lib.hid (by rw [← KR.out]; exact hb)
                have P6 : Hid (∀ j, j < 3 → ∀ v, v < n → XX (k + j) v = if j < r + 1 then docC k m q bz x (k + j) v else X0 m bz x (k + j) v) := Lib.hid fun j hj v hv => by
                  rw [P3.out j hj v hv]
                  by_cases e : j = r
                  · subst e
                    rw [if_neg (by omega), if_pos (by omega), docC_par, HBI.out]
                    rfl
                  · by_cases e2 : j < r
                    · rw [if_pos e2, if_pos (by omega)]
                    · rw [if_neg e2, if_neg (by omega)]
                clear hb P3
                go_wp2_with fail
                go_roundg (3 - (r + 1))
                case measure => omega
                case rel => exact ⟨r + 1, _, _, _, rfl, by go_num, by omega, C3, D3, P6, L4⟩
            · obtain rfl : r = 3 := by omega
              have XF : Hid (∀ i, i < k + 3 → ∀ v, v < n → XX i v = docC k m q bz x i v) := Lib.hid fun i hi v hv => by
                by_cases hik : i < k
                · rw [D3.out i hik v hv, docC_data v hik]
                · obtain ⟨j, rfl⟩ : ∃ j, i = k + j := ⟨i - k, by omega⟩
                  rw [P3.out j (by omega) v hv, if_pos (by omega)]
              clear D3 P3
              go_wp2_with fail
              go_ret2
              exact ⟨_, _, _, _, rfl, C3.out, XF.out, L1.out _ L4.out⟩
end docReb
end Go.Proofs.Ytoabhbmhjelplaa
