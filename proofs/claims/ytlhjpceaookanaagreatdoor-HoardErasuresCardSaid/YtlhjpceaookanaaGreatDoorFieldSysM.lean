/-
  '(*field.Field).Solve' by a contract: what is no system is refused; a system with one solution is answered by it; of any other one a vector that isn't nought is sent to nought. Conditions: the field's lock is free; what is handed in reads as rows of bytes.
-/
import Derived.Test.YtlhjpceaookanaaGreatDoorParKnownM
import Derived.BigRegion
import Derived.Test.YtlhjpceaookanaaGreatDoorFieldArgsM
namespace Go.Proofs.YtlhjpceaookanaaGreatDoor
open Go.RowKit
set_option maxRecDepth 100000
set_option linter.unusedVariables false

theorem hdArr_swap {n m k p : Nat} {R : Nat → Nat} (hk : k < n) (hp : p < n) :
    ((hdArr n m R).setIfInBounds k (.slice (some ⟨R p, 0, none⟩) m m)).setIfInBounds p (.slice (some ⟨R k, 0, none⟩) m m) = hdArr n m (fun i => R (M.swapR k p i)) := by
  rw [hdArr_set hk, hdArr_set hp]
  refine hdArr_congr fun c _ => ?_
  by_cases h1 : c = k
  · subst h1
    by_cases h2 : c = p
    · subst h2; simp [M.swapR]
    · simp [M.swapR, h2]
  · by_cases h2 : c = p
    · subst h2; simp [M.swapR, h1]
    · simp [M.swapR, h1, h2]
theorem Mat.swap {w : World} {bo n k p : Nat} {R : Nat → Nat} {m : Nat → Nat → Nat} (h : Mat w bo n R m) (hk : k < n) (hp : p < n) :
    Mat ((w.setCell ⟨bo, k, none⟩ (.slice (some ⟨R p, 0, none⟩) (n + 1) (n + 1))).setCell ⟨bo, p, none⟩ (.slice (some ⟨R k, 0, none⟩) (n + 1) (n + 1))).drew bo n (fun i => R (M.swapR k p i)) (fun i => m (M.swapR k p i)) := by
  refine ⟨?_, fun i hi => ?_, fun a b ha hb e => ?_⟩
  · have h1 := (h.head.set_ k (.slice (some ⟨R p, 0, none⟩) (n + 1) (n + 1))).set_ p (.slice (some ⟨R k, 0, none⟩) (n + 1) (n + 1))
    rw [hdArr_swap hk hp] at h1
    exact h1
  · have hi' := M.swapR_lt hk hp hi
    have hne := (h.ne_ hi').symm
    exact ((h.row _ hi').far (p := ⟨bo, k, none⟩) hne _).far (p := ⟨bo, p, none⟩) hne _
  · have h1 := h.inj _ _ (M.swapR_lt hk hp ha) (M.swapR_lt hk hp hb) e
    have h2 := congrArg (M.swapR k p) h1
    rwa [M.swapR_swapR, M.swapR_swapR] at h2

/-- behind k rounds of the elimination -/
structure At (w0 w : World) (B b bo n k : Nat) (R : Nat → Nat) (m m0 : Nat → Nat → Nat) : Prop where
  mat : Mat w bo n R m
  fld : Blk w b 147 (fcells 1 0 255)
  below : Below B w0 w
  hB : B ≤ bo ∧ ∀ i, i < n → B ≤ R i
  small : M.Small n m
  units : M.Units n m k
  sol : ∀ z, M.SmallV n z → (M.Sol n m z ↔ M.Sol n m0 z)
theorem At.swap {w0 w : World} {B b bo n k p : Nat} {R : Nat → Nat} {m m0 : Nat → Nat → Nat} (h : At w0 w B b bo n k R m m0) (hk : k < n) (hp : p < n) (hkp : k ≤ p) :
    At w0 ((w.setCell ⟨bo, k, none⟩ (.slice (some ⟨R p, 0, none⟩) (n + 1) (n + 1))).setCell ⟨bo, p, none⟩ (.slice (some ⟨R k, 0, none⟩) (n + 1) (n + 1))).drew B b bo n k (fun i => R (M.swapR k p i)) (fun i => m (M.swapR k p i)) m0 := by
  have hbb : b ≠ bo := Blk.ne_ h.fld h.mat.head (by decide)
  exact ⟨h.mat.swap hk hp, (h.fld.far (p := ⟨bo, k, none⟩) hbb _).far (p := ⟨bo, p, none⟩) hbb _, ((h.below.setCell (p := ⟨bo, k, none⟩) h.hB.1 _).setCell (p := ⟨bo, p, none⟩) h.hB.1 _).drew,
    ⟨h.hB.1, fun i hi => h.hB.2 _ (M.swapR_lt hk hp hi)⟩, fun i hi => h.small _ (M.swapR_lt hk hp hi), M.units_swap hk hp hkp h.units, fun z hz => (M.sol_swap hk hp m z).trans (h.sol z hz)⟩
theorem At.elim {w0 w w' : World} {B b bo n k : Nat} {R : Nat → Nat} {m m0 : Nat → Nat → Nat} (h : At w0 w B b bo n k R m m0) (hk : k < n) (hp : m k k ≠ 0) (hm : Mat w' bo n R (M.elim m k)) (ho : OnlyR n R w w') :
    At w0 w' B b bo n (k + 1) R (M.elim m k) m0 :=
  ⟨hm, ho.blk h.fld (fun i hi => h.fld.ne_ (h.mat.row i hi) (by decide)), h.below.trans (ho.below h.hB.2), h.hB, M.elim_small hk h.small, M.units_elim hk h.small h.units hp, fun z hz => (M.sol_elim hk h.small hz).trans (h.sol z hz)⟩

theorem first_pivot (n k : Nat) (m : Nat → Nat → Nat) : (∃ p, k ≤ p ∧ p < n ∧ m p k ≠ 0 ∧ ∀ i, k ≤ i → i < p → m i k = 0) ∨ ∀ i, k ≤ i → i < n → m i k = 0 := by
  have aux : ∀ q, q ≤ n → (∃ p, k ≤ p ∧ p < q ∧ m p k ≠ 0 ∧ ∀ i, k ≤ i → i < p → m i k = 0) ∨ ∀ i, k ≤ i → i < q → m i k = 0 := by
    intro q
    induction q with
    | zero => exact fun _ => .inr fun i _ hi => absurd hi (by omega)
    | succ q ih =>
      intro hq
      rcases ih (by omega) with ⟨p, h1, h2, h3, h4⟩ | h
      · exact .inl ⟨p, h1, by omega, h3, h4⟩
      · by_cases hk : k ≤ q ∧ m q k ≠ 0
        · exact .inl ⟨q, hk.1, by omega, hk.2, h⟩
        · refine .inr fun i h1 h2 => ?_
          by_cases e : i = q
          · subst e
            by_cases e2 : m i k = 0
            · exact e2
            · exact absurd ⟨h1, e2⟩ hk
          · exact h i h1 (by omega)
  rcases aux n (Nat.le_refl _) with ⟨p, h1, h2, h3, h4⟩ | h
  · exact .inl ⟨p, h1, h2, h3, h4⟩
  · exact .inr h

/-- What Solve answers to a system of n equations. -/
inductive Solved (w0 w : World) (B n : Nat) (m0 : Nat → Nat → Nat) : Ending → Prop where
  | one (g : Nat) (X : Nat → Nat) (hg : B ≤ g) (hb : Blk w g 5 (rowArr n X)) (hX : ∀ i, i < n → X i < 256) (hs : ∀ z, M.SmallV n z → (M.Sol n m0 z ↔ ∀ i, i < n → z i = M.gmul (X i) (z n))) :
      Solved w0 w B n m0 (.returned (.tuple #[.slice (some ⟨g, 0, none⟩) n n, .int .i64 0]))
  | none (z : Nat → Nat) (hz : M.SmallV n z) (hn : z n = 0) (hne : ∃ j, j < n ∧ z j ≠ 0) (hs : M.Sol n m0 z) :
      Solved w0 w B n m0 (.returned (.tuple #[.slice none 0 0, .int .i64 7]))

theorem join_at {w1 w2 : World} {b n : Nat} {x : Nat → Nat → Nat} {y : Nat → Nat} (h : JoinAt w1 w2 n n x y) (hb : Blk w1 b 147 (fcells 1 0 255)) (hx : ∀ i, i < n → ∀ j, j < n → x i j < 256) (hy : ∀ i, i < n → y i < 256) :
    At w1 w2 w1.heap.size b w1.heap.size n 0 (fun j => w1.heap.size + 1 + j) (joinM n x y) (joinM n x y) := by
  refine ⟨⟨?_, fun i hi => h.row i hi, fun i j _ _ e => by omega⟩, hb.below h.below hb.lt, h.below, ⟨Nat.le_refl _, fun i _ => by omega⟩, ?_, fun j hj => absurd hj (by omega), fun z _ => Iff.rfl⟩
  · have h1 := h.head
    rw [hdP_full] at h1
    exact h1
  · intro i hi j hj
    unfold joinM
    split
    · rename_i h2
      exact hx i hi j h2
    · exact hy i hi

set_option maxRecDepth 100000 in
set_option maxHeartbeats 400000 in
theorem solve_bad (b : Nat) (A A2 : Option Addr) (n c m c2 : Nat) (B : Nat) (ra : Nat → Option Addr) (rl rc : Nat → Nat) (x : Nat → Nat → Nat) (w : World) (hr : RdR w B A n ra rl rc x) (hq : ¬ IsSq n m rl) :
    Calls Tryz.prog 119 #[.pointer (some ⟨b, 0, none⟩), .slice A n c, .slice A2 m c2] w fun e w' => e = .returned (.tuple #[.slice none 0 0, .int .i64 1]) ∧ w = w' := by
  have HR := Lib.hid hr
  have HQ := Lib.hid hq
  clear hr hq
  go_enter Tryz.func119, Tryz.ntmps119
  go_wp2_with fail
  refine (square_no _ _ _ _ _ _ B ra rl rc x _ HR.out HQ.out).mono ?_
  rintro e w' ⟨rfl, rfl⟩
  go_wp2_with fail
  go_ret2
  exact ⟨rfl, rfl⟩

set_option maxRecDepth 100000 in
set_option maxHeartbeats 1600000 in
theorem solve_ok (b : Nat) (A A2 : Option Addr) (n c c2 : Nat) (B B2 : Nat) (ra : Nat → Option Addr) (rl rc : Nat → Nat) (x : Nat → Nat → Nat) (y : Nat → Nat) (w : World) (hB : B ≤ w.heap.size) (hB2 : B2 ≤ w.heap.size)
    (hrs : ∀ w1, Only b w w1 → RdR w1 B A n ra rl rc x) (hys : ∀ w1, Only b w w1 → RdB w1 B2 A2 n y) (hq : IsSq n n rl) (hb : Fld w b) :
    Calls Tryz.prog 119 #[.pointer (some ⟨b, 0, none⟩), .slice A n c, .slice A2 n c2] w fun e w' => Solved w w' w.heap.size n (joinM n x y) e ∧ Fld w' b ∧ Only b w w' := by
  have hr := hrs w (Only.refl _ _)
  have hy := hys w (Only.refl _ _)
  have HR := Lib.hid hr
  have HRS := Lib.hid hrs
  have HYS := Lib.hid hys
  have HQ := Lib.hid hq
  have HB := Lib.hid hb
  have hn1 := hq.1
  have hn8 := hq.2.1
  have HX : Hid (∀ i, i < n → ∀ j, j < n → x i j < 256) := by
    intro i hi j hj
    obtain ⟨_, _, _, _, _, h5⟩ := hr i hi
    have h6 := hq.2.2.2 i hi
    rw [h6] at h5
    obtain ⟨_, _, _, _, _, h7⟩ := h5 j hj
    exact h7
  have HYL : Hid (∀ i, i < n → y i < 256) := by
    intro i hi
    obtain ⟨_, _, _, _, _, h7⟩ := hy i hi
    exact h7
  clear hr hy hrs hys hq hb
  go_enter Tryz.func119, Tryz.ntmps119
  go_wp2_with fail
  refine (square_yes _ _ _ _ _ _ B ra rl rc x _ HR.out HQ.out).mono ?_
  rintro e w0 ⟨rfl, rfl⟩
  go_wp2_with fail
  refine (ready_some b _ HB.out).mono ?_
  rintro e w1 ⟨rfl, hf1, ho1⟩
  have F1 := Lib.hid hf1
  have O1 := Lib.hid ho1
  have R1 := Lib.hid (HRS.out _ ho1)
  have Y1 := Lib.hid (HYS.out _ ho1)
  have s1 : w.heap.size ≤ w1.heap.size := ho1.size
  clear hf1 ho1 HR HRS HYS
  go_wp2_with fail
  refine (join_any _ _ _ _ _ B B2 ra rl rc x y _ (by omega) (by omega) R1.out Y1.out HQ.out).mono ?_
  rintro e w2 ⟨rfl, hj⟩
  have HA := Lib.hid (join_at hj F1.out HX.out HYL.out)
  clear hj
  generalize hz : w1.heap.size = z at *
  have HZ := Lib.hid hz
  clear hz
  generalize hm0 : joinM n x y = m0 at *
  have HM0 := Lib.hid hm0
  clear hm0
  go_wp2_with fail
  go_loopw [26] (fun v wr => ∃ k : Nat, k ≤ n ∧ v = .int .i64 k ∧ Hid (∃ R m, At w1 wr z b z n k R m m0)) (fun v _ => n - (intOf v).toNat)
  case atStart => exact ⟨0, by omega, rfl, _, _, HA.out⟩
  case round =>
    obtain ⟨k, hk, rfl, H⟩ := hrel
    clear HA
    by_cases hlt : k < n
    · obtain ⟨R, m, h⟩ := H.out
      have HM := Lib.hid h
      clear h H
      rcases first_pivot n k m with ⟨p, hkp, hp, hne, hzero⟩ | hzero
      · have HN := Lib.hid hne
        have H0 := Lib.hid hzero
        clear hne hzero
        go_wp2_with fail
        refine (pivot_yes _ _ k p R m _ hn8 HM.out.mat hkp hp HN.out H0.out).mono ?_
        rintro e w' ⟨rfl, rfl⟩
        have d1 := HM.out.mat.headCell hlt
        have d2 := HM.out.mat.headCell hp
        have f1 := HM.out.mat.head.frozen k
        have f2 := HM.out.mat.head.frozen p
        go_wp2_with fail
        have HS := Lib.hid (HM.out.swap hlt hp hkp)
        have HN2 : Hid (m (M.swapR k p k) k ≠ 0) := by
          have e : M.swapR k p k = p := if_pos rfl
          rw [e]
          exact HN.out
        have HR2 : Hid (∃ R' m', m' k k ≠ 0 ∧ At w1 (((wr.setCell ⟨z, k, none⟩ (.slice (some ⟨R p, 0, none⟩) (n + 1) (n + 1))).setCell ⟨z, p, none⟩ (.slice (some ⟨R k, 0, none⟩) (n + 1) (n + 1))).drew) z b z n k R' m' m0) :=
          ⟨_, _, HN2.out, HS.out⟩
        clear HS HN2 HN H0 HM
        by_cases e : k = p
        · subst e
          generalize R k = r at *
          go_region
          go_wp2_with fail
          obtain ⟨R', m', hne', h'⟩ := HR2.out
          have HM' := Lib.hid h'
          have HN' := Lib.hid hne'
          clear h' hne' HR2 d1 d2 f1 f2
          refine (elim_any b z n k R' m' _ hn8 hlt HM'.out.fld HM'.out.mat HM'.out.small HN'.out).mono ?_
          rintro e w3 ⟨rfl, hm3, ho3⟩
          have HK : Hid (∃ R m, At w1 w3 z b z n (k + 1) R m m0) := ⟨_, _, HM'.out.elim hlt HN'.out hm3 ho3⟩
          clear hm3 ho3 HM' HN'
          go_wp2_with fail
          go_roundw
          case rel => exact ⟨k + 1, by omega, by go_num, HK⟩
          case measure => simp [intOf]; omega
        · generalize R k = r at *
          generalize R p = r2 at *
          go_region
          go_wp2_with fail
          obtain ⟨R', m', hne', h'⟩ := HR2.out
          have HM' := Lib.hid h'
          have HN' := Lib.hid hne'
          clear h' hne' HR2 d1 d2 f1 f2
          refine (elim_any b z n k R' m' _ hn8 hlt HM'.out.fld HM'.out.mat HM'.out.small HN'.out).mono ?_
          rintro e w3 ⟨rfl, hm3, ho3⟩
          have HK : Hid (∃ R m, At w1 w3 z b z n (k + 1) R m m0) := ⟨_, _, HM'.out.elim hlt HN'.out hm3 ho3⟩
          clear hm3 ho3 HM' HN'
          go_wp2_with fail
          go_roundw
          case rel => exact ⟨k + 1, by omega, by go_num, HK⟩
          case measure => simp [intOf]; omega
      · have H0 := Lib.hid hzero
        clear hzero
        go_wp2_with fail
        refine (pivot_no _ _ k R m _ hn8 hlt HM.out.mat H0.out).mono ?_
        rintro e w' ⟨rfl, rfl⟩
        have HK : Hid (Solved w wr w.heap.size n m0 (.returned (.tuple #[.slice none 0 0, .int .i64 7]))) := by
          refine .none (M.kern m k) (M.kern_small hlt HM.out.small) ?_ ⟨k, hlt, ?_⟩ ((HM.out.sol _ (M.kern_small hlt HM.out.small)).1 (M.kern_sol hlt HM.out.small HM.out.units H0.out))
          · unfold M.kern
            rw [if_neg (by omega), if_neg (by omega)]
          · unfold M.kern
            rw [if_neg (by omega), if_pos rfl]
            decide
        have HF : Hid (Fld wr b) := .inr HM.out.fld
        have HO : Hid (Only b w wr) := O1.out.trans (Only.of_below (by rw [HZ.out]; exact HM.out.below) b)
        clear HM H0
        go_wp2_with fail
        go_ret2
        exact ⟨by rw [HM0.out]; exact HK.out, HF.out, HO.out⟩
    · have hmb := fun W => make_bytes n (by omega) W (n : Int) rfl
      have HK : Hid (∃ R m, At w1 wr z b z n n R m m0) := by
        have e : k = n := by omega
        rw [e] at H
        exact H.out
      clear H
      obtain ⟨R, m, h⟩ := HK.out
      have HM := Lib.hid h
      clear h HK
      have HX0 : Hid (Blk (wr.alloc (.cells (rowArr n fun _ => 0) 5)) wr.heap.size 5 (rowArr n fun j => if j < 0 then m j n else 0) ∧ At w1 (wr.alloc (.cells (rowArr n fun _ => 0) 5)) z b z n n R m m0) := by
        refine ⟨?_, ?_⟩
        · have h := Blk.new wr 5 (rowArr n fun _ => 0)
          have e : rowArr n (fun _ => 0) = rowArr n (fun j => if j < 0 then m j n else 0) := rowArr_congr fun c _ => by rw [if_neg (by omega)]
          rw [← e]
          exact h
        · have h := HM.out
          exact ⟨⟨h.mat.head.alloc _, fun i hi => (h.mat.row i hi).alloc _, h.mat.inj⟩, h.fld.alloc _, h.below.alloc (by have := h.below.size; rw [HZ.out] at this; exact this) _, h.hB, h.small, h.units, h.sol⟩
      have hg : Hid (z ≤ wr.heap.size) := by have := HM.out.below.size; rw [HZ.out] at this; exact this
      have HNE : Hid (∀ i, i < n → R i ≠ wr.heap.size) := fun i hi => by have := (HM.out.mat.row i hi).lt; omega
      have HNZ : Hid (z ≠ wr.heap.size ∧ b ≠ wr.heap.size) := ⟨by have := HM.out.mat.head.lt; omega, by have := HM.out.fld.lt; omega⟩
      go_wp2_with fail
      generalize wr.heap.size = g at *
      obtain ⟨wa, rfl⟩ : ∃ wa : World, wa = wr := ⟨_, rfl⟩
      go_loopw [58] (fun v wr => ∃ i : Nat, i ≤ n ∧ v = .int .i64 i ∧ Hid (Blk wr g 5 (rowArr n fun j => if j < i then m j n else 0) ∧ At w1 wr z b z n n R m m0)) (fun v _ => n - (intOf v).toNat)
      case atStart => exact ⟨0, by omega, rfl, HX0⟩
      case round =>
        obtain ⟨i, hi, rfl, H⟩ := hrel
        clear HX0 HM hmb
        by_cases hlt2 : i < n
        · have c1 := H.out.2.mat.headCell hlt2
          have c2 := H.out.2.mat.cell (i := i) (j := n) hlt2 (Nat.le_refl _)
          have c3 : wr.cell? ⟨g, i, none⟩ = some (.int .u8 0) := by
            rw [H.out.1.cell, rowArr_get hlt2, if_neg (by omega)]; rfl
          have c4 := H.out.1.frozen i
          have HJ : Hid (Blk (wr.setCell ⟨g, i, none⟩ (.int .u8 ((m i n : Nat) : Int))) g 5 (rowArr n fun j => if j < i + 1 then m j n else 0) ∧ At w1 (wr.setCell ⟨g, i, none⟩ (.int .u8 ((m i n : Nat) : Int))) z b z n n R m m0) := by
            refine ⟨?_, ?_⟩
            · have h := H.out.1.set_ i (.int .u8 ((m i n : Nat) : Int))
              rw [rowArr_set hlt2] at h
              have e : rowArr n (fun j => if j = i then m i n else if j < i then m j n else 0) = rowArr n (fun j => if j < i + 1 then m j n else 0) := rowArr_congr fun c _ => by
                by_cases e1 : c = i
                · subst e1
                  rw [if_pos rfl, if_pos (by omega)]
                · rw [if_neg e1]
                  by_cases e2 : c < i
                  · rw [if_pos e2, if_pos (by omega)]
                  · rw [if_neg e2, if_neg (by omega)]
              rw [← e]
              exact h
            · have h := H.out.2
              exact ⟨⟨h.mat.head.far (p := ⟨g, i, none⟩) HNZ.out.1 _, fun j hj => (h.mat.row j hj).far (p := ⟨g, i, none⟩) (HNE.out j hj) _, h.mat.inj⟩, h.fld.far (p := ⟨g, i, none⟩) HNZ.out.2 _, h.below.setCell (p := ⟨g, i, none⟩) hg.out _, h.hB, h.small, h.units, h.sol⟩
          clear H
          generalize R i = r at *
          generalize m i n = v at *
          go_wp2_with fail
          go_roundw
          case rel => exact ⟨i + 1, by omega, by go_num, HJ⟩
          case measure => simp [intOf]; omega
        · have HK : Hid (Solved w wr w.heap.size n m0 (.returned (.tuple #[.slice (some ⟨g, 0, none⟩) n n, .int .i64 0]))) := by
            refine .one g (fun j => m j n) (by have := hg.out; omega) ?_ (fun j hj => H.out.2.small j hj n (Nat.le_refl _)) (fun v hv => (H.out.2.sol v hv).symm.trans (M.sol_done H.out.2.units hv))
            have e : rowArr n (fun j => m j n) = rowArr n (fun j => if j < i then m j n else 0) := rowArr_congr fun c hc => by rw [if_pos (by omega)]
            rw [e]
            exact H.out.1
          have HF : Hid (Fld wr b) := .inr H.out.2.fld
          have HO : Hid (Only b w wr) := O1.out.trans (Only.of_below (by rw [HZ.out]; exact H.out.2.below) b)
          clear H
          go_wp2_with fail
          go_ret2
          exact ⟨by rw [HM0.out]; exact HK.out, HF.out, HO.out⟩
end Go.Proofs.YtlhjpceaookanaaGreatDoor
namespace Go.Proofs.YtlhjpceaookanaaGreatDoor
open Go.RowKit
set_option maxRecDepth 100000
set_option linter.unusedVariables false

def vec (n : Nat) (v : Nat → Nat) (t j : Nat) : Nat := if j < n then v j else t
theorem vec_small {n t : Nat} {v : Nat → Nat} (hv : ∀ j, j < n → v j < 256) (ht : t < 256) : M.SmallV n (vec n v t) := by
  intro j hj
  unfold vec
  split
  · rename_i h; exact hv j h
  · exact ht
theorem vec_last (n t : Nat) (v : Nat → Nat) : vec n v t n = t := if_neg (by omega)
theorem dot_vec (n i t : Nat) (x : Nat → Nat → Nat) (y v : Nat → Nat) : M.dot (n + 1) (joinM n x y i) (vec n v t) = M.xsum n (fun k => M.gmul (x i k) (v k)) ^^^ M.gmul (y i) t := by
  show M.xsum n _ ^^^ M.gmul (joinM n x y i n) (vec n v t n) = _
  rw [vec_last]
  have e1 : joinM n x y i n = y i := if_neg (by omega)
  rw [e1, M.xsum_congr (fun j hj => ?_)]
  show M.gmul (joinM n x y i j) (vec n v t j) = M.gmul (x i j) (v j)
  unfold joinM vec
  rw [if_pos hj, if_pos hj]
theorem sol_vec (n : Nat) (x : Nat → Nat → Nat) (y v : Nat → Nat) (hy : ∀ i, i < n → y i = M.xsum n (fun k => M.gmul (x i k) (v k))) : M.Sol n (joinM n x y) (vec n v 1) := by
  intro i hi
  rw [dot_vec, M.gmul_one (by rw [hy i hi]; exact M.xsum_lt fun j _ => M.gmul_lt _ _), hy i hi, Nat.xor_self]
/-- a vector whose factor is 0 doesn't ask the right sides -/
theorem sol_right {n : Nat} {x : Nat → Nat → Nat} {y y' : Nat → Nat} {z : Nat → Nat} (hz : z n = 0) (h : M.Sol n (joinM n x y) z) : M.Sol n (joinM n x y') z := by
  intro i hi
  have h1 := h i hi
  show M.xsum n _ ^^^ M.gmul (joinM n x y' i n) (z n) = 0
  have h2 : M.xsum n (fun j => M.gmul (joinM n x y i j) (z j)) ^^^ M.gmul (joinM n x y i n) (z n) = 0 := h1
  rw [hz, M.gmul_zero_right] at h2 ⊢
  rw [M.xsum_congr (g := fun j => M.gmul (joinM n x y i j) (z j)) (fun j hj => ?_)]
  · exact h2
  · unfold joinM
    rw [if_pos hj, if_pos hj]
/-- the solution that is told is the one -/
theorem one_eq {n : Nat} {x : Nat → Nat → Nat} {y v X : Nat → Nat} (hv : ∀ j, j < n → v j < 256) (hX : ∀ i, i < n → X i < 256) (hy : ∀ i, i < n → y i = M.xsum n (fun k => M.gmul (x i k) (v k)))
    (hs : ∀ z, M.SmallV n z → (M.Sol n (joinM n x y) z ↔ ∀ i, i < n → z i = M.gmul (X i) (z n))) : ∀ i, i < n → X i = v i := by
  intro i hi
  have h1 := (hs _ (vec_small hv (by omega))).1 (sol_vec n x y v hy) i hi
  rw [vec_last, M.gmul_one (hX i hi)] at h1
  unfold vec at h1
  rw [if_pos hi] at h1
  exact h1.symm
/-- a system of whose rows a vector that isn't nought makes nought tells no solution, whatever its right sides -/
theorem not_one {n : Nat} {x : Nat → Nat → Nat} {y y' X z : Nat → Nat} (hz : M.SmallV n z) (hn : z n = 0) (hne : ∃ j, j < n ∧ z j ≠ 0) (h : M.Sol n (joinM n x y) z)
    (hs : ∀ z, M.SmallV n z → (M.Sol n (joinM n x y') z ↔ ∀ i, i < n → z i = M.gmul (X i) (z n))) : False := by
  obtain ⟨j, hj, hjne⟩ := hne
  have h1 := (hs z hz).1 (sol_right hn h) j hj
  rw [hn, M.gmul_zero_right] at h1
  exact hjne h1

theorem size_elem (W : World) : (sizeOf (Tryz.prog.elem 36)).run Tryz.prog W = .ok 1 W := by kernel_rfl
/-- the first N of a slice -/
theorem slice_head (A : Option Addr) (n c N : Nat) (h1 : N ≤ c) (l : Int) (hl : l = (N : Int)) (W : World) : (Instr.slice 36 (.slice A n c) none (some (.int .i64 l)) none).run Tryz.prog W = .ok (.slice A N c) W := by
  subst hl
  have h := run_slice_h (P := Tryz.prog) (w := W) (t := 36) (a := A) (len := n) (cap := c) Tryz.underlying36 .i64 (N : Int) (by omega) (by omega)
  rw [h, size_elem]
  cases A <;> simp [Result.andThen, sliced, Addr.add]

/-- 'append' of one value of one cell onto a row of the call's own. -/
theorem wpList_append1 {w : World} {ops : Array Oper} {rest : List Oper} {o : Oper} {a : Act} {Q : Exit → Act → World → Prop} (hgd : o.guard = none) (s x : Operand) (t : TypeId)
    (ho : o.op = .call { callee := .builtin .append, args := #[s, x], argTypes := #[t, t] }) (base : Nat) (e : TypeId) (z : Value) (bytes : Nat) (ht : Tryz.prog.underlying t = some (.slice e))
    (hinfo : (Tryz.prog.info? e).map (fun i => (i.zero, i.size, i.bytes)) = some (some z, 1, bytes)) (hz1 : z.cells.size = 1) (hby : bytes ≤ 100)
    (v : Value) (n : Nat) (xs : List Value) (hs : a.eval s = v) (hown : w.ownsRow base e 1 v n xs) (ad : Addr) (hx : a.eval x = .slice (some ad) 1 1) (u : Value) (hu : u.oneCell' = true) (hc : w.cell? ad = some u) (hn : n + 1 ≤ 1000000) (hbase : base ≤ w.heap.size)
    (h : ∀ v' w', w'.ownsRow base e 1 v' (n + 1) (xs ++ [u]) → w.grownBy w' v.ownBlock → wpList Tryz.prog ops Q rest (a.put o.dst v') w') : wpList Tryz.prog ops Q (o :: rest) a w := by
  obtain ⟨i0, hi0, h0, h1, h2⟩ := info_parts hinfo
  refine wpList_append_own w hgd s x t ho base e i0 z 1 bytes ht hi0 h0 h1 h2 hz1 (by omega) v n xs hs hown ad 1 1 [u] hx rfl ?_ ?_ (by simp only [maxLen]; omega) ?_ hbase (fun v' w' a1 a2 _ => h v' w' a1 a2)
  · intro j y hj
    have hj0 : j = 0 := by
      rcases Nat.eq_zero_or_pos j with e | e
      · exact e
      · rw [List.getElem?_eq_none (by simp; omega)] at hj; cases hj
    subst hj0
    simp at hj
    subst hj
    exact hc
  · intro y hy
    simp at hy
    subst hy
    exact hu
  · have : (n + 1) * bytes ≤ 1000000 * 100 := Nat.mul_le_mul hn hby
    omega
theorem ownBlock_ne {w : World} {base g : Nat} {e t : TypeId} {size n : Nat} {v : Value} {xs : List Value} {cs : Array Value} (h : w.ownsRow base e size v n xs) (hg : Blk w g t cs) (hne : e ≠ t) : v.ownBlock ≠ some g := by
  rcases h.2 with ⟨rfl, _⟩ | ⟨g', cap, cur, rfl, _, hh, _⟩
  · simp [Value.ownBlock]
  · intro he
    have e1 : g' = g := by simpa [Value.ownBlock] using he
    subst e1
    exact Blk.ne_ (t := e) hh hg hne rfl
theorem Fld.own_ne {w : World} {base g : Nat} {e : TypeId} {size n : Nat} {v : Value} {xs : List Value} (hf : Fld w g) (h : w.ownsRow base e size v n xs) (hne : e ≠ 147) : v.ownBlock ≠ some g := by
  rcases hf with hf | hf
  · exact ownBlock_ne h hf hne
  · exact ownBlock_ne h hf hne
theorem Fld.grown {w w' : World} {g : Nat} {row : Option Nat} (h : Fld w g) (hb : w.grownBy w' row) (hg : some g ≠ row) : Fld w' g := by
  rcases h with h | h
  · exact .inl (h.grown hb hg)
  · exact .inr (h.grown hb hg)
theorem own_only {w w' : World} {base g : Nat} {e : TypeId} {size n : Nat} {v : Value} {xs : List Value} (h : w.ownsRow base e size v n xs) (ho : Only g w w') (hne : v.ownBlock ≠ some g) : w'.ownsRow base e size v n xs :=
  h.kept ho (.inr hne)
theorem rdb_of_own {w : World} {base n : Nat} {v : Value} {y : Nat → Nat} (h : w.ownsRow base 5 1 v n ((List.range n).map fun j => Value.int .u8 ((y j : Nat) : Int))) (hy : ∀ j, j < n → y j < 256) :
    ∃ A c, v = .slice A n c ∧ RdB w w.heap.size A n y ∧ (∀ b o, A = some ⟨b, o, none⟩ → v.ownBlock = some b) := by
  rcases h.2 with ⟨rfl, rfl⟩ | ⟨g, cap, cur, rfl, _, hg, _⟩
  · exact ⟨none, 0, rfl, fun j hj => absurd hj (by omega), fun b o e => by cases e⟩
  · refine ⟨_, _, rfl, fun j hj => ⟨g, 0, rfl, (Array.getElem?_eq_some_iff.1 hg).1, ?_, hy j hj⟩, fun b o e => by injection e with e; injection e with e1 _; subst e1; rfl⟩
    rw [Nat.zero_add, h.cellAt j (by omega)]
    simp [hj]
end Go.Proofs.YtlhjpceaookanaaGreatDoor
