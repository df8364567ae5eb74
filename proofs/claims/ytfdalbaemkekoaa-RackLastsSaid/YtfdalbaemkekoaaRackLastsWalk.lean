/-
  The walk of 'RackLasts': what was flushed is read behind a crash with any picks; a new drive holds noughts. Conditions: what the reading of the arguments gives.
-/
import Derived.Test.YtfdalbaemkekoaaLawInts
import Derived.Test.YtfdalbaemkekoaaLawKnown
import Derived.Test.YtfdalbaemkekoaaRackArmsWalk
import Derived.Deep.DeepCutAuto
import Derived.Deep.Light
namespace Go.Proofs.Ytfdalbaemkekoaa
open Go Go.RowKit
set_option linter.unusedVariables false
namespace rackLasts

def intA (n : Nat) (f : Nat → Int) : Array Value := Array.ofFn (n := n) fun c => .int .i64 (f c.val)
theorem intA_get {n : Nat} {f : Nat → Int} {c : Nat} (h : c < n) : (intA n f)[c]? = some (.int .i64 (f c)) := by simp [intA, h]
theorem intA_set {n : Nat} {f : Nat → Int} {c : Nat} {v : Int} (h : c < n) : (intA n f).setIfInBounds c (.int .i64 v) = intA n (fun j => if j = c then v else f j) := by
  apply Array.ext_getElem?
  intro j
  rw [Array.getElem?_setIfInBounds]
  have hs : (intA n f).size = n := by simp [intA]
  rw [hs]
  by_cases hj : j < n
  · rw [intA_get hj, intA_get hj]
    by_cases e : c = j
    · rw [if_pos e, if_pos h, if_pos e.symm]
    · rw [if_neg e, if_neg (fun x => e x.symm)]
  · rw [if_neg (by omega), Array.getElem?_eq_none (by rw [hs]; omega), Array.getElem?_eq_none (by simp [intA]; omega)]
theorem replicate_ints (n : Nat) : Array.replicate n (Value.int .i64 0) = intA n (fun _ => 0) := by
  apply Array.ext_getElem?
  intro i
  by_cases h : i < n
  · rw [intA_get h]; simp [h]
  · rw [Array.getElem?_eq_none (by simp; omega), Array.getElem?_eq_none (by simp [intA]; omega)]
theorem make_ints (n : Nat) (hn : n ≤ 70000) (w : World) (l : Int) (hl : l = (n : Int)) :
    (Instr.makeSlice 37 (.int .i64 l) (.int .i64 l)).run Try.prog w = .ok (.slice (some ⟨w.heap.size, 0, none⟩) n n) (w.alloc (.cells (intA n (fun _ => 0)) 3)) := by
  subst hl
  obtain ⟨i0, hi, hz0, hz1, hz2⟩ := info_parts info_int
  have h := run_make (P := Try.prog) (w := w) 37 3 i0 (.int .i64 0) Try.underlying37 hi hz0 .i64 .i64 (n : Int) (n : Int) (by omega) (by omega) (by rw [hz2]; omega) (by omega)
  rw [h, hz1, Int.toNat_natCast, Nat.mul_one]
  show _ = _
  rw [show (Value.int .i64 0).cells = #[.int .i64 0] from rfl, madeCells_one, replicate_ints]

structure LInv (s : RS) (L : Nat → Int) (i : Nat) : Prop where
  nd : s.nd = 5
  ns : s.ns = 8
  calm : s.calm
  gone : ∀ d, s.gone d = false
  cost : s.cost ≤ i
  rng : ∀ k, 0 ≤ L k ∧ L k ≤ 100000
  says : ∀ d a, d < 5 → a < 8 → s.holds d a = if 0 < L (d * 8 + a) then bv 128 (L (d * 8 + a) - 1) else zeros
theorem LInv.start : LInv (RS.new 5 8) (fun _ => 0) 0 := ⟨rfl, rfl, ⟨rfl, rfl⟩, fun _ => rfl, Nat.le_refl _, fun _ => by omega, fun d a _ _ => by rw [if_neg (by omega)]; rfl⟩
theorem LInv.write {s : RS} {L : Nat → Int} {i : Nat} (h : LInv s L i) (d a : Nat) (f : Int) (hd : d < 5) (ha : a < 8) (hf : 0 ≤ f ∧ f < 100000) : LInv (s.wrote d a (bv 128 f)) (fun k => if k = d * 8 + a then 1 + f else L k) (i + 1) := by
  refine ⟨h.nd, h.ns, h.calm, h.gone, by have := h.cost; show s.cost + 1 ≤ _; omega, fun k => ?_, fun d' a' hd' ha' => ?_⟩
  · show 0 ≤ (if k = d * 8 + a then 1 + f else L k) ∧ (if k = d * 8 + a then 1 + f else L k) ≤ 100000
    split
    · omega
    · exact h.rng k
  · rw [holds_wrote]
    show _ = if 0 < (if d' * 8 + a' = d * 8 + a then 1 + f else L (d' * 8 + a')) then bv 128 ((if d' * 8 + a' = d * 8 + a then 1 + f else L (d' * 8 + a')) - 1) else zeros
    by_cases e : d' = d ∧ a' = a
    · rw [if_pos e, show (if d' * 8 + a' = d * 8 + a then 1 + f else L (d' * 8 + a')) = 1 + f from if_pos (by omega), if_pos (by omega)]
      congr 1
      omega
    · rw [if_neg e, show (if d' * 8 + a' = d * 8 + a then 1 + f else L (d' * 8 + a')) = L (d' * 8 + a') from if_neg (by omega)]
      exact h.says d' a' hd' ha'
theorem wrote_at (s : RS) (d a : Nat) (X : Nat → Nat) : (s.wrote d a X).W s.nw = ⟨d, a, X⟩ := if_pos rfl
/-- what a rack holds at last -/
structure Fin (s : RS) (L : Nat → Int) (lost n : Nat) (p : Nat → Int) : Prop where
  nd : s.nd = 5
  ns : s.ns = 8
  calm : s.calm
  gone : ∀ d, s.gone d = false
  says : ∀ d a, d < 5 → a < 8 → s.holds d a = if d = 2 ∧ a = 0 ∧ d ≠ lost ∧ odd n p 0 = true then bv 128 5 else if 0 < L (d * 8 + a) ∧ d ≠ lost then bv 128 (L (d * 8 + a) - 1) else zeros
structure Mid (s : RS) (L : Nat → Int) (lost n : Nat) (p : Nat → Int) : Prop where
  nd : s.nd = 5
  ns : s.ns = 8
  calm : s.calm
  nw : s.nw = 0
  cost : s.cost ≤ 200
  gone : ∀ d, s.gone d = decide (d = lost)
  says : ∀ d a, d < 5 → a < 8 → s.holds d a = if d = 2 ∧ a = 0 ∧ d ≠ lost ∧ odd n p 0 = true then bv 128 5 else if 0 < L (d * 8 + a) ∧ d ≠ lost then bv 128 (L (d * 8 + a) - 1) else zeros
theorem LInv.mid {s : RS} {L : Nat → Int} {i : Nat} (h : LInv s L i) (hi : i ≤ 80) (lost n : Nat) (p : Nat → Int) : Mid (((s.flushed.wrote 2 0 (bv 128 5)).lost lost).crashed (odd n p)) L lost n p := by
  refine ⟨h.nd, h.ns, RS.crashed_calm _ _, rfl, ?_, fun d => ?_, fun d a hd ha => ?_⟩
  · have := h.cost
    show s.cost + 1 ≤ _
    omega
  · show (if d = lost then true else s.gone d) = _
    rw [h.gone d]
    by_cases e : d = lost <;> simp [e]
  · rw [holds_crashed]
    have hl : ∀ d a, s.flushed.last d a = s.holds d a := fun d a => by rw [← holds_flushed]; rfl
    have hW : (s.flushed.wrote 2 0 (bv 128 5)).W 0 = ⟨2, 0, bv 128 5⟩ := wrote_at s.flushed 2 0 (bv 128 5)
    have hk : keptL (s.flushed.wrote 2 0 (bv 128 5)).W lost 1 = if 2 = lost then [] else [⟨2, 0, bv 128 5⟩] := by
      unfold keptL
      simp [keptL, hW]
    have hnw : ((s.flushed.wrote 2 0 (bv 128 5)).lost lost).nw = (keptL (s.flushed.wrote 2 0 (bv 128 5)).W lost 1).length := rfl
    have hlast : ((s.flushed.wrote 2 0 (bv 128 5)).lost lost).last d a = if d = lost then zeros else s.holds d a := by
      show (if d = lost then zeros else s.flushed.last d a) = _
      rw [hl]
    have hWW : ∀ i, ((s.flushed.wrote 2 0 (bv 128 5)).lost lost).W i = (keptL (s.flushed.wrote 2 0 (bv 128 5)).W lost 1).getD i ⟨0, 0, zeros⟩ := fun i => rfl
    have hh := h.says d a hd ha
    have n2 : d = lost → ¬ (0 < L (d * 8 + a) ∧ d ≠ lost) := fun ed x => x.2 ed
    have n3 : d = lost → ¬ (d = 2 ∧ a = 0 ∧ d ≠ lost ∧ odd n p 0 = true) := fun ed x => x.2.2.1 ed
    have hrest : (if d = lost then zeros else s.holds d a) = if 0 < L (d * 8 + a) ∧ d ≠ lost then bv 128 (L (d * 8 + a) - 1) else zeros := by
      by_cases ed : d = lost
      · rw [if_pos ed, if_neg (n2 ed)]
      · rw [if_neg ed, hh]
        by_cases el : 0 < L (d * 8 + a)
        · rw [if_pos el, if_pos ⟨el, ed⟩]
        · rw [if_neg el, if_neg (fun x : 0 < L (d * 8 + a) ∧ d ≠ lost => el x.1)]
    by_cases e : 2 = lost
    · have c1 : ¬ (d = 2 ∧ a = 0 ∧ d ≠ lost ∧ odd n p 0 = true) := fun x => x.2.2.1 (x.1.trans e)
      rw [hnw, hk, if_pos e, if_neg c1, ← hrest]
      exact hlast
    · rw [hnw, hk, if_neg e]
      show (if (odd n p 0) = true ∧ (((s.flushed.wrote 2 0 (bv 128 5)).lost lost).W 0).d = d ∧ (((s.flushed.wrote 2 0 (bv 128 5)).lost lost).W 0).a = a then (((s.flushed.wrote 2 0 (bv 128 5)).lost lost).W 0).x else ((s.flushed.wrote 2 0 (bv 128 5)).lost lost).last d a) = _
      rw [hWW, hk, if_neg e, hlast]
      show (if (odd n p 0) = true ∧ 2 = d ∧ 0 = a then bv 128 5 else _) = _
      by_cases eo : (odd n p 0) = true ∧ 2 = d ∧ 0 = a
      · have c1 : d = 2 ∧ a = 0 ∧ d ≠ lost ∧ odd n p 0 = true := ⟨eo.2.1.symm, eo.2.2.symm, fun x => e (eo.2.1.trans x), eo.1⟩
        rw [if_pos eo, if_pos c1]
      · have c1 : ¬ (d = 2 ∧ a = 0 ∧ d ≠ lost ∧ odd n p 0 = true) := fun x => eo ⟨x.2.2.2, x.1.symm, x.2.1.symm⟩
        rw [if_neg eo, if_neg c1]
        exact hrest
theorem Mid.anew {s : RS} {L : Nat → Int} {lost n : Nat} {p : Nat → Int} (h : Mid s L lost n p) : Fin (s.anew lost) L lost n p := by
  have hk : keptL s.W lost s.nw = [] := by rw [h.nw]; rfl
  refine ⟨h.nd, h.ns, h.calm, fun d => ?_, fun d a hd ha => ?_⟩
  · show (if d = lost then false else s.gone d) = false
    by_cases e : d = lost
    · rw [if_pos e]
    · rw [if_neg e, h.gone d]
      simp [e]
  · have h0 := h.says d a hd ha
    have h1 : s.holds d a = s.last d a := by
      unfold RS.holds
      rw [h.nw]
      rfl
    have h2 : (s.anew lost).holds d a = if d = lost then zeros else s.last d a := by
      unfold RS.holds
      show (match newIn (s.anew lost).W d a (keptL s.W lost s.nw).length with | some i => ((s.anew lost).W i).x | none => (s.anew lost).last d a) = _
      rw [hk]
      rfl
    rw [h2, ← h1, h0]
    by_cases e : d = lost
    · have n2 : ¬ (0 < L (d * 8 + a) ∧ d ≠ lost) := fun x => x.2 e
      have n3 : ¬ (d = 2 ∧ a = 0 ∧ d ≠ lost ∧ odd n p 0 = true) := fun x => x.2.2.1 e
      rw [if_pos e, if_neg n3, if_neg n2]
    · rw [if_neg e]

set_option maxRecDepth 100000 in
set_option maxHeartbeats 3200000 in
theorem walk (a0 : Option Addr) (len0 cap0 : Nat) (x0 : Nat → Int) (a1 : Option Addr) (len1 cap1 : Nat) (x1 : Nat → Int) (a2 : Int) (w : World) (h0 : RdI w w.heap.size a0 len0 x0) (l0 : len0 ≤ cap0) (m0 : cap0 ≤ maxLen)
    (h1 : RdI w w.heap.size a1 len1 x1) (l1 : len1 ≤ cap1) (m1 : cap1 ≤ maxLen) (n1 : a1 = none → cap1 = 0) (r1 : cap1 * 8 ≤ 140737488351232) (w2 : (Lit.int .i64 a2).wf = true) :
    Calls Try.prog 4 #[.slice a0 len0 cap0, .slice a1 len1 cap1, .int .i64 a2] w fun e w' => e = .returned (.bool true) ∧ Below w.heap.size w w' := by
  unfold maxLen at m0 m1
  have H0 := Lib.hid h0
  have H1 := Lib.hid h1
  have N1 := Lib.hid n1
  obtain ⟨bl, bh⟩ := bounds_i64 w2
  clear h0 h1 n1 w2
  obtain ⟨lost, hlost, hlost5⟩ := rackArms.umod a2 5 (by omega) (by omega)
  have HLO : Hid (lost < 5) := Lib.hid (by omega)
  have mk40 : ∀ w : World, (Instr.makeSlice 37 (.int .i64 40) (.int .i64 40)).run Try.prog w = .ok (.slice (some ⟨w.heap.size, 0, none⟩) 40 40) (w.alloc (.cells (intA 40 (fun _ => 0)) 3)) := fun w => make_ints 40 (by omega) w 40 rfl
  go_enter Try.func4, Try.ntmps4
  go_wp2_with fail
  refine (known_any _).mono ?_
  rintro e w1 ⟨rfl, b1⟩
  have L1 := Lib.hid b1
  clear b1
  go_wp2_with fail
  refine (new_any w1 5 8 (by omega) (by omega) (by omega) (by omega)).mono ?_
  rintro e w2 ⟨⟨r, rfl, h2⟩, k2⟩
  have R2 := Lib.hid (h2.alloc (.cells (intA 40 (fun _ => 0)) 3))
  have N2 := Lib.hid LInv.start
  have hB : Hid (w.heap.size ≤ w1.heap.size) := L1.out.size
  have L20 := L1.out.trans (k2.below.mono L1.out.size)
  have hgB : Hid (w.heap.size ≤ w2.heap.size) := Lib.hid L20.size
  have L2 := Lib.hid (L20.alloc (L20.size) (.cells (intA 40 (fun _ => 0)) 3))
  have X2 := Lib.hid (Blk.new w2 3 (intA 40 (fun _ => 0)))
  clear h2 k2 L1 L20
  generalize RS.new 5 8 = s2 at *
  generalize w1.heap.size = B at *
  go_wp2_with fail
  clear mk40
  generalize w2.heap.size = g at *
  generalize w2.alloc (.cells (intA 40 (fun _ => 0)) 3) = w3 at *
  generalize (fun _ : Nat => (0 : Int)) = T3 at *
  go_loopg [10] 80 (fun gk x wr => ∃ (i : Nat) (s : RS) (T : Nat → Int), gk = 80 - i ∧ i ≤ 80 ∧ i ≤ len0 ∧ x = .int .i64 i ∧ Hid (LInv s T i) ∧ Hid (RackAt B wr r s) ∧ Hid (Below w.heap.size w wr) ∧ Hid (Blk wr g 3 (intA 40 T)))
  case atStart => exact ⟨0, s2, T3, rfl, by omega, by omega, rfl, N2, R2, L2, X2⟩
  case round =>
    obtain ⟨i, s, T, rfl, hi80, hi, rfl, N4, R4, L4, X4⟩ := hrel
    clear N2 R2 L2 X2
    go_upto_region 8 with (fail)
    go_cut [33] (fun c wx => ∃ bb : Bool, c = .bool bb ∧ Hid (bb = decide (i < len0 ∧ i < 80)) ∧ wx = wr)
    case first =>
      by_cases h1 : i < len0
      · have t1 : decide (i < len0) = true := by simp; omega
        by_cases h2 : i < 80
        · have t2 : decide ((i : Int) < 80) = true := by simp; omega
          have hb : decide (i < len0 ∧ i < 80) = true := decide_eq_true ⟨h1, h2⟩
          go_wp2_with fail
          go_meet
          exact ⟨_, rfl, Lib.hid hb.symm, rfl⟩
        · have t2 : decide ((i : Int) < 80) = false := by simp; omega
          have hb : decide (i < len0 ∧ i < 80) = false := decide_eq_false fun q => h2 q.2
          go_wp2_with fail
          go_meet
          exact ⟨_, rfl, Lib.hid hb.symm, rfl⟩
      · have t1 : decide (i < len0) = false := by simp; omega
        have hb : decide (i < len0 ∧ i < 80) = false := decide_eq_false fun q => h1 q.1
        go_wp2_with fail
        go_meet
        exact ⟨_, rfl, Lib.hid hb.symm, rfl⟩
    case rest =>
    obtain ⟨bb, rfl, HBB, rfl⟩ := hcut
    by_cases hgo : i < len0 ∧ i < 80
    · obtain rfl : bb = true := HBB.out.trans (decide_eq_true hgo)
      clear HBB
      obtain ⟨hi0, hi8⟩ := hgo
      obtain ⟨fb, fo, hfa, hfB, hfc, hxi⟩ := H0.out i hi0
      subst hfa
      have fc := (L4.out.cell (p := ⟨fb, fo + i, none⟩) hfB).trans hfc
      have i1 : (0 : Int) ≤ (i : Int) := by omega
      have i2 : (i : Int) < (len0 : Int) := by omega
      obtain ⟨f, hf, hf5⟩ := rackArms.umod (x0 i) 100000 (by omega) (by omega)
      have HX := Lib.hid hxi
      have HF := Lib.hid hf5
      clear hxi hfc
      go_wp2_with fail
      refine (bytes_calm (f : Int) _ (by have := HF.out; omega)).mono ?_
      rintro e w5 ⟨v5, rfl, r5, b5⟩
      have R5 := Lib.hid (R4.out.below b5)
      have V5 := Lib.hid r5
      have L5 := Lib.hid (L4.out.trans (b5.mono L4.out.size))
      have X5 := Lib.hid (X4.out.new_ b5)
      clear r5 b5 R4 L4 X4 fc
      go_wp2_with fail
      refine (write_calm _ r s _ _ (i % 5) (i * 3 % 8) v5 _ R5.out N4.out.calm (by omega) (by omega) (by rw [N4.out.nd]; omega) (by rw [N4.out.ns]; omega) (N4.out.gone _) V5.out (fun j _ => bv_lt 128 _ j) (by have := N4.out.cost; omega)).mono ?_
      rintro e w6 ⟨rfl, h6, k6⟩
      have N6 := Lib.hid (N4.out.write (i % 5) (i * 3 % 8) (f : Int) (by omega) (by omega) (by have := HF.out; omega))
      have L6 := Lib.hid (L5.out.trans (k6.below.mono hB.out))
      have X6 := Lib.hid (k6.block X5.out rfl)
      have R6 := Lib.hid h6
      clear h6 k6 R5 L5 X5 V5 N4
      generalize s.wrote (i % 5) (i * 3 % 8) (bv 128 (f : Int)) = s6 at *
      obtain ⟨k, hk, hk40, hkk⟩ : ∃ k : Nat, (i : Int) % 5 * 8 + (i : Int) * 3 % 8 = (k : Int) ∧ k < 40 ∧ i % 5 * 8 + i * 3 % 8 = k := ⟨i % 5 * 8 + i * 3 % 8, by omega, by omega, rfl⟩
      rw [hkk] at N6
      have c1 : w6.cell? ⟨g, k, none⟩ = some (.int .i64 (T k)) := by rw [X6.out.cell, intA_get hk40]
      have f1 := X6.out.frozen k
      have j1 : (0 : Int) ≤ (k : Int) := by omega
      have j2 : (k : Int) < (40 : Int) := by omega
      have X7 := X6.out.set_ k (.int .i64 (1 + (f : Int)))
      rw [intA_set hk40] at X7
      have X8 := Lib.hid X7
      have R8 : Hid (RackAt B (w6.setCell ⟨g, k, none⟩ (.int .i64 (1 + (f : Int)))) r s6) := Lib.hid (R6.out.far X6.out rfl rfl)
      have L8 : Hid (Below w.heap.size w (w6.setCell ⟨g, k, none⟩ (.int .i64 (1 + (f : Int))))) := Lib.hid (L6.out.setCell (p := ⟨g, k, none⟩) hgB.out _)
      clear X7 hkk
      go_wp2_with fail
      go_roundg (80 - (i + 1))
      case measure => omega
      case rel => exact ⟨i + 1, s6, _, rfl, by omega, by omega, by go_num, N6, R8, L8, X8⟩
    · obtain rfl : bb = false := HBB.out.trans (decide_eq_false hgo)
      clear hgo HBB
      go_wp2_with fail
      refine (flush_calm _ r s R4.out N4.out.calm).mono ?_
      rintro e w5 ⟨rfl, h5, k5⟩
      have R5 := Lib.hid h5
      have L5 := Lib.hid (L4.out.trans (k5.below.mono hB.out))
      have X5 := Lib.hid (k5.block X4.out rfl)
      clear h5 k5 R4 L4 X4
      go_wp2_with fail
      refine (bytes_calm 5 _ (by omega)).mono ?_
      rintro e w6 ⟨v6, rfl, r6, b6⟩
      have R6 := Lib.hid (R5.out.below b6)
      have V6 := Lib.hid r6
      have L6 := Lib.hid (L5.out.trans (b6.mono L5.out.size))
      have X6 := Lib.hid (X5.out.new_ b6)
      clear r6 b6 R5 L5 X5
      go_wp2_with fail
      refine (write_calm _ r s.flushed 2 0 2 0 v6 _ R6.out N4.out.calm rfl rfl (by show 2 < s.nd; rw [N4.out.nd]; omega) (by show 0 < s.ns; rw [N4.out.ns]; omega) (N4.out.gone _) V6.out (fun j _ => bv_lt 128 _ j) (by have := N4.out.cost; show s.cost + 1 ≤ _; omega)).mono ?_
      rintro e w7 ⟨rfl, h7, k7⟩
      have R7 := Lib.hid h7
      have L7 := Lib.hid (L6.out.trans (k7.below.mono hB.out))
      have X7 := Lib.hid (k7.block X6.out rfl)
      clear h7 k7 R6 L6 X6 V6
      go_wp2_with fail
      refine (lose_ok _ r _ lost R7.out (by show lost < s.nd; rw [N4.out.nd]; omega)).mono ?_
      rintro e w8 ⟨rfl, h8, k8⟩
      have R8 := Lib.hid h8
      have L8 := Lib.hid (L7.out.trans (k8.below.mono hB.out))
      have X8 := Lib.hid (k8.block X7.out rfl)
      have M8 := Lib.hid (N4.out.mid hi80 lost len1 x1)
      have TR : Hid (∀ k, 0 ≤ T k ∧ T k ≤ 100000) := Lib.hid N4.out.rng
      have I8 : Hid (RdI w8 w.heap.size a1 len1 x1) := Lib.hid (H1.out.below L8.out)
      have LS := L8.out.size
      clear h8 k8 R7 L7 X7 N4
      generalize (s.flushed.wrote 2 0 (bv 128 5)).lost lost = s8 at *
      go_wp2_with (at_builtin; refine wpList_append_ints rfl (.tmp 84) (.tmp 85) rfl rfl rfl I8.out (by omega) (by omega) N1.out l1 ?_; intro A' c' w9 hI hb9)
      have I9 := Lib.hid hI
      have R9 := Lib.hid (R8.out.below hb9)
      have X9 := Lib.hid (X8.out.new_ hb9)
      have L9 := Lib.hid (L8.out.trans (hb9.mono L8.out.size))
      clear hI hb9 I8 R8 X8 L8 LS
      go_wp2_with fail
      refine (crash_any _ r s8 A' len1 c' x1 R9.out I9.out).mono ?_
      rintro e w10 ⟨rfl, h10, k10⟩
      have R10 := Lib.hid h10
      have X10 := Lib.hid (k10.block X9.out rfl)
      have L10 := Lib.hid (L9.out.trans (k10.below.mono hB.out))
      clear h10 k10 R9 X9 L9 I9
      generalize s8.crashed (odd len1 x1) = s10 at *
      have hdeny : Hid (s10.deny (lost : Int) 1 = 3) := Lib.hid (by
        have e : s10.isP (lost : Int) 1 = true := by
          unfold RS.isP RS.isD
          rw [M8.out.nd, M8.out.ns]
          have := HLO.out
          simp
          omega
        unfold RS.deny RS.why
        rw [if_pos e, Int.toNat_natCast, M8.out.gone, decide_eq_true rfl]
        rfl)
      have hgn : Hid (s10.gone lost = true) := Lib.hid (by rw [M8.out.gone]; exact decide_eq_true rfl)
      go_wp2_with fail
      refine (read_no _ r s10 (lost : Int) 1 R10.out (by rw [hdeny.out]; omega)).mono ?_
      rintro e w11 ⟨rfl, h11, k11⟩
      rw [hdeny.out]
      have R11 := Lib.hid h11
      have X11 := Lib.hid (k11.block X10.out rfl)
      have L11 := Lib.hid (L10.out.trans (k11.below.mono hB.out))
      clear h11 k11 R10 X10 L10
      go_wp2_with fail
      refine (gone_any _ r s10 (lost : Int) R11.out).mono ?_
      rintro e w' ⟨rfl, rfl⟩
      rw [show (s10.isD (lost : Int) && s10.gone (lost : Int).toNat) = true from by
        rw [isD_nat, Int.toNat_natCast, hgn.out, M8.out.nd]
        have := HLO.out
        simp
        omega]
      go_wp2_with fail
      refine (bytes_calm 1 _ (by omega)).mono ?_
      rintro e w12 ⟨v12, rfl, r12, b12⟩
      have R12 := Lib.hid (R11.out.below b12)
      have V12 := Lib.hid r12
      have L12 := Lib.hid (L11.out.trans (b12.mono L11.out.size))
      have X12 := Lib.hid (X11.out.new_ b12)
      clear r12 b12 R11 L11 X11
      go_wp2_with fail
      refine (rackArms.write_gone _ r s10 (lost : Int) 1 lost 1 v12 _ R12.out rfl rfl (by rw [M8.out.nd]; exact HLO.out) (by rw [M8.out.ns]; omega) hgn.out V12.out).mono ?_
      rintro e w13 ⟨rfl, h13, k13⟩
      have R13 := Lib.hid h13
      have X13 := Lib.hid (k13.block X12.out rfl)
      have L13 := Lib.hid (L12.out.trans (k13.below.mono hB.out))
      clear h13 k13 R12 X12 L12 V12
      go_wp2_with fail
      refine (replace_ok _ r s10 lost R13.out (by rw [M8.out.nd]; exact HLO.out)).mono ?_
      rintro e w14 ⟨rfl, h14, k14⟩
      have R14 := Lib.hid h14
      have X14 := Lib.hid (k14.block X13.out rfl)
      have L14 := Lib.hid (L13.out.trans (k14.below.mono hB.out))
      have F14 := Lib.hid M8.out.anew
      clear h14 k14 R13 X13 L13 M8 hdeny hgn
      generalize s10.anew lost = s14 at *
      go_wp2_with fail
      refine (gone_any _ r s14 (lost : Int) R14.out).mono ?_
      rintro e w' ⟨rfl, rfl⟩
      rw [show (s14.isD (lost : Int) && s14.gone (lost : Int).toNat) = false from by
        rw [F14.out.gone, Bool.and_false]]
      go_wp2_with fail
      go_loopw [12] (fun x wr => ∃ d : Nat, d ≤ 5 ∧ x = .int .i64 d ∧ Hid (RackAt B wr r s14) ∧ Hid (Below w.heap.size w wr) ∧ Hid (Blk wr g 3 (intA 40 T))) (fun x _ => 5 - (intOf x).toNat)
      case atStart => exact ⟨0, by omega, rfl, R14, L14, X14⟩
      case round =>
        obtain ⟨d, hd5, rfl, R15, L15, X15⟩ := hrel
        clear R14 L14 X14
        by_cases hd : d < 5
        rotate_left
        · have t1 : decide ((d : Int) < 5) = false := by simp; omega
          go_wp2_with fail
          go_ret
          exact ⟨rfl, L15.out⟩
        have t1 : decide ((d : Int) < 5) = true := by simp; omega
        go_wp2_with fail
        clear t1
        go_loopg [13] 8 (fun gk x wr => ∃ a : Nat, gk = 8 - a ∧ a ≤ 8 ∧ x = .int .i64 a ∧ Hid (RackAt B wr r s14) ∧ Hid (Below w.heap.size w wr) ∧ Hid (Blk wr g 3 (intA 40 T)))
        case atStart => exact ⟨0, rfl, by omega, rfl, R15, L15, X15⟩
        case round =>
          obtain ⟨a, rfl, ha8, rfl, R16, L16, X16⟩ := hrel
          clear R15 L15 X15
          by_cases ha : a < 8
          rotate_left
          · have t2 : decide ((a : Int) < 8) = false := by simp; omega
            go_wp2_with fail
            go_roundw
            case rel => exact ⟨d + 1, by omega, by go_num, R16, L16, X16⟩
            case measure => simp [intOf]; omega
          have t2 : decide ((a : Int) < 8) = true := by simp; omega
          go_wp2_with fail
          clear t2
          refine (read_calm _ r s14 (d : Int) (a : Int) d a R16.out F14.out.calm rfl rfl (by rw [F14.out.nd]; omega) (by rw [F14.out.ns]; omega) (F14.out.gone d)).mono ?_
          rintro e w17 ⟨v17, rfl, r17, h17, k17⟩
          have R18 := Lib.hid (h17.alloc (.cells (rowArr 128 fun _ => 0) 5))
          have L17 := L16.out.trans (k17.below.mono hB.out)
          have L18 := Lib.hid (L17.alloc L17.size (.cells (rowArr 128 fun _ => 0) 5))
          have X18 := Lib.hid ((k17.block X16.out rfl).alloc (.cells (rowArr 128 fun _ => 0) 5))
          have V18 := Lib.hid (r17.new_ ((Below.refl _ _).alloc (Nat.le_refl _) (.cells (rowArr 128 fun _ => 0) 5)))
          have mk := fun W => make_bytes 128 (by omega) W (128 : Int) rfl
          have cz := (Row8.of_blk (Blk.new w17 5 (rowArr 128 zeros)) : Row8 (w17.alloc (.cells (rowArr 128 fun _ => 0) 5)) (.slice (some ⟨w17.heap.size, 0, none⟩) 128 128) 128 zeros).conv
          clear h17 k17 r17 L17 R16 L16 X16
          obtain ⟨k, hk, hk40, hkk⟩ : ∃ k : Nat, (d : Int) * 8 + (a : Int) = (k : Int) ∧ k < 40 ∧ d * 8 + a = k := ⟨d * 8 + a, by omega, by omega, rfl⟩
          have HS0 := F14.out.says d a hd ha
          rw [hkk] at HS0
          have HS := Lib.hid HS0
          have c1 : (w17.alloc (.cells (rowArr 128 fun _ => 0) 5)).cell? ⟨g, k, none⟩ = some (.int .i64 (T k)) := by rw [X18.out.cell, intA_get hk40]
          have j1 : (0 : Int) ≤ (k : Int) := by omega
          have j2 : (k : Int) < (40 : Int) := by omega
          obtain ⟨y, hy⟩ : ∃ y, (x1 0).tmod 2 = y := ⟨_, rfl⟩
          have hodd : odd len1 x1 0 = true ↔ (0 < len1 ∧ y ≠ 0) := by
            unfold odd
            rw [hy]
            simp
          have HY := Lib.hid hy
          have HODD := Lib.hid hodd
          clear HS0 hkk hy hodd
          have hTk := TR.out k
          go_upto_region 29 with (fail)
          clear mk cz
          generalize w17.alloc (.cells (rowArr 128 fun _ => 0) 5) = w18 at *
          go_cut [149] (fun c wx => ∃ bb : Bool, c = .bool bb ∧ Hid (bb = decide (0 < T k ∧ d ≠ lost)) ∧ wx = w18)
          case first =>
            by_cases hT : 0 < T k
            · have t3 : decide (0 < T k) = true := by simp; omega
              by_cases hdl : d = lost
              · have t4 : ((d : Int) != (lost : Int)) = false := by simp; omega
                have hb : decide (0 < T k ∧ d ≠ lost) = false := decide_eq_false fun q => q.2 hdl
                clear hdl
                go_wp2_with fail
                go_meet
                exact ⟨_, rfl, Lib.hid hb.symm, rfl⟩
              · have t4 : ((d : Int) != (lost : Int)) = true := by simp; omega
                have hb : decide (0 < T k ∧ d ≠ lost) = true := decide_eq_true ⟨hT, hdl⟩
                clear hdl
                go_wp2_with fail
                go_meet
                exact ⟨_, rfl, Lib.hid hb.symm, rfl⟩
            · have t3 : decide (0 < T k) = false := by simp; omega
              have hb : decide (0 < T k ∧ d ≠ lost) = false := decide_eq_false fun q => hT q.1
              go_wp2_with fail
              go_meet
              exact ⟨_, rfl, Lib.hid hb.symm, rfl⟩
          case rest =>
          obtain ⟨bb, rfl, HBB, rfl⟩ := hcut
          go_upto_if 149 with (fail)
          go_cut [16] (fun s wx => ∃ S0 : ByteArray, s = .string S0 ∧ Hid (S0 = strB 128 (if 0 < T k ∧ d ≠ lost then bv 128 (T k - 1) else zeros)) ∧ Hid (RackAt B wx r s14) ∧ Hid (Below w.heap.size w wx) ∧ Hid (Blk wx g 3 (intA 40 T)) ∧ Hid (Row8 wx v17 128 (s14.holds d a)))
          case first =>
            by_cases hP : 0 < T k ∧ d ≠ lost
            · obtain rfl : bb = true := HBB.out.trans (decide_eq_true hP)
              have HP := Lib.hid hP
              clear hP
              go_wp2_with fail
              refine (bytes_calm (T k - 1) _ (by have := TR.out k; omega)).mono ?_
              rintro e w19 ⟨v19, rfl, r19, b19⟩
              have R19 := Lib.hid (R18.out.below b19)
              have L19 := Lib.hid (L18.out.trans (b19.mono L18.out.size))
              have X19 := Lib.hid (X18.out.new_ b19)
              have V19 := Lib.hid (V18.out.new_ b19)
              have q1 := r19.conv
              clear b19 r19 c1
              go_wp2_with fail
              go_meet
              exact ⟨_, rfl, Lib.hid (by rw [if_pos HP.out]), R19, L19, X19, V19⟩
            · obtain rfl : bb = false := HBB.out.trans (decide_eq_false hP)
              have HP := Lib.hid hP
              clear hP
              go_wp2_with fail
              go_meet
              exact ⟨_, rfl, Lib.hid (by rw [if_neg HP.out]), R18, L18, X18, V18⟩
          case rest =>
          obtain ⟨S0, rfl, HS0, R20, L20, X20, V20⟩ := hcut
          clear R18 L18 X18 V18 c1
          go_upto_region 31 with (fail)
          go_cut [182] (fun c wx => ∃ bb : Bool, c = .bool bb ∧ Hid (bb = decide (d = 2 ∧ a = 0 ∧ d ≠ lost ∧ 0 < len1 ∧ y ≠ 0)) ∧ wx = wc)
          case first =>
            clear hTk j1 j2
            by_cases hd2 : d = 2
            rotate_left
            · have b1 : ((d : Int) == 2) = false := by simp; omega
              have hb : decide (d = 2 ∧ a = 0 ∧ d ≠ lost ∧ 0 < len1 ∧ y ≠ 0) = false := decide_eq_false fun q => hd2 q.1
              have HD := Lib.hid hd2
              clear hd2
              go_wp2_with fail
              go_meet
              exact ⟨_, rfl, Lib.hid hb.symm, rfl⟩
            have b1 : ((d : Int) == 2) = true := by simp; omega
            have HD := Lib.hid hd2
            clear hd2
            by_cases ha0 : a = 0
            rotate_left
            · have b2 : ((a : Int) == 0) = false := by simp; omega
              have hb : decide (d = 2 ∧ a = 0 ∧ d ≠ lost ∧ 0 < len1 ∧ y ≠ 0) = false := decide_eq_false fun q => ha0 q.2.1
              have HA := Lib.hid ha0
              clear ha0
              go_wp2_with fail
              go_meet
              exact ⟨_, rfl, Lib.hid hb.symm, rfl⟩
            have b2 : ((a : Int) == 0) = true := by simp; omega
            have HA := Lib.hid ha0
            clear ha0
            by_cases hdl : d = lost
            · have b3 : ((d : Int) != (lost : Int)) = false := by simp; omega
              have hb : decide (d = 2 ∧ a = 0 ∧ d ≠ lost ∧ 0 < len1 ∧ y ≠ 0) = false := decide_eq_false fun q => q.2.2.1 hdl
              have HDL := Lib.hid hdl
              clear hdl
              go_wp2_with fail
              go_meet
              exact ⟨_, rfl, Lib.hid hb.symm, rfl⟩
            have b3 : ((d : Int) != (lost : Int)) = true := by simp; omega
            have HDL := Lib.hid hdl
            clear hdl
            by_cases hl0 : 0 < len1
            rotate_left
            · have b4 : decide (0 < len1) = false := by simp; omega
              have hb : decide (d = 2 ∧ a = 0 ∧ d ≠ lost ∧ 0 < len1 ∧ y ≠ 0) = false := decide_eq_false fun q => hl0 q.2.2.2.1
              have HL0 := Lib.hid hl0
              clear hl0
              go_wp2_with fail
              go_meet
              exact ⟨_, rfl, Lib.hid hb.symm, rfl⟩
            have b4 : decide (0 < len1) = true := by simp; omega
            obtain ⟨pb, po, hpa, hpB, hpc, hpx⟩ := H1.out 0 (by omega)
            subst hpa
            have z1 : (0 : Int) < (len1 : Int) := by omega
            have pc := (L20.out.cell (p := ⟨pb, po, none⟩) hpB).trans hpc
            rw [Nat.add_zero] at hpc
            have HL0 := Lib.hid hl0
            have hy := HY.out
            generalize x1 0 = x10 at *
            by_cases hy0 : y = 0
            · have b5 : (x10.tmod 2 != 0) = false := by rw [hy, hy0]; rfl
              have hb : decide (d = 2 ∧ a = 0 ∧ d ≠ lost ∧ 0 < len1 ∧ y ≠ 0) = false := decide_eq_false fun q => q.2.2.2.2 hy0
              clear hy hy0 hpc hpx
              go_wp2_with fail
              go_meet
              exact ⟨_, rfl, Lib.hid hb.symm, rfl⟩
            · have b5 : (x10.tmod 2 != 0) = true := by rw [hy]; simpa using hy0
              have hb : decide (d = 2 ∧ a = 0 ∧ d ≠ lost ∧ 0 < len1 ∧ y ≠ 0) = true := decide_eq_true ⟨HD.out, HA.out, HDL.out, HL0.out, hy0⟩
              clear hy hy0 hpc hpx
              go_wp2_with fail
              go_meet
              exact ⟨_, rfl, Lib.hid hb.symm, rfl⟩
          case rest =>
          obtain ⟨bb, rfl, HBB, rfl⟩ := hcut
          go_upto_if 182 with (fail)
          go_cut [16] (fun s wx => s = .string (strB 128 (s14.holds d a)) ∧ Hid (RackAt B wx r s14) ∧ Hid (Below w.heap.size w wx) ∧ Hid (Blk wx g 3 (intA 40 T)) ∧ Hid (Row8 wx v17 128 (s14.holds d a)))
          case first =>
            by_cases hP : d = 2 ∧ a = 0 ∧ d ≠ lost ∧ 0 < len1 ∧ y ≠ 0
            · obtain rfl : bb = true := HBB.out.trans (decide_eq_true hP)
              have hs : s14.holds d a = bv 128 5 := by
                rw [HS.out]
                exact if_pos ⟨hP.1, hP.2.1, hP.2.2.1, HODD.out.mpr hP.2.2.2⟩
              have HHS := Lib.hid hs
              clear hP hs HBB
              go_wp2_with fail
              refine (bytes_calm 5 _ (by omega)).mono ?_
              rintro e w19 ⟨v19, rfl, r19, b19⟩
              have R19 := Lib.hid (R20.out.below b19)
              have L19 := Lib.hid (L20.out.trans (b19.mono L20.out.size))
              have X19 := Lib.hid (X20.out.new_ b19)
              have V19 := Lib.hid (V20.out.new_ b19)
              have q1 := r19.conv
              clear b19 r19
              go_wp2_with fail
              go_meet
              exact ⟨by rw [HHS.out], R19, L19, X19, V19⟩
            · obtain rfl : bb = false := HBB.out.trans (decide_eq_false hP)
              have hs : s14.holds d a = if 0 < T k ∧ d ≠ lost then bv 128 (T k - 1) else zeros := by
                rw [HS.out]
                exact if_neg fun ⟨e1, e2, e3, e4⟩ => hP ⟨e1, e2, e3, HODD.out.mp e4⟩
              have HHS := Lib.hid hs
              clear hP hs HBB
              go_wp2_with fail
              go_meet
              exact ⟨by rw [HHS.out, HS0.out], R20, L20, X20, V20⟩
          case rest =>
          obtain ⟨rfl, R21, L21, X21, V21⟩ := hcut
          clear R20 L20 X20 V20 HBB HS HODD HY
          have q2 := V21.out.conv
          generalize strB 128 (s14.holds d a) = S at *
          go_wp2_with fail
          go_roundg (8 - (a + 1))
          case measure => omega
          case rel => exact ⟨a + 1, rfl, by omega, by go_num, R21, L21, X21⟩
end rackLasts
end Go.Proofs.Ytfdalbaemkekoaa
