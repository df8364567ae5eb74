/-
  'hoardref03.Same' where it says yes, 'hoardlaw03.small', 'hoardlaw03.known', each by a contract. Conditions: what is handed in reads as rows of bytes.
-/
import Derived.Test.YtoabhbmhjelplaaParMake
import Derived.Deep.QuietTactic
import Derived.BigQuiet
namespace Go.Proofs.Ytoabhbmhjelplaa
open Go.RowKit
set_option maxRecDepth 100000
set_option linter.unusedVariables false

theorem RdR.drewN {w : World} {B n : Nat} {A : Option Addr} {ra : Nat → Option Addr} {rl rc : Nat → Nat} {x : Nat → Nat → Nat} (h : RdR w B A n ra rl rc x) (m : Nat) : RdR (w.drewN m) B A n ra rl rc x := h

set_option maxHeartbeats 1600000 in
theorem same_yes (k c c2 B B2 : Nat) (A A2 : Option Addr) (ra rb : Nat → Option Addr) (rl rc sl sc : Nat → Nat) (x y : Nat → Nat → Nat) (w : World) (hr : RdR w B A k ra rl rc x) (hs : RdR w B2 A2 k rb sl sc y) (he : ∀ i, i < k → rl i = sl i ∧ ∀ v, v < rl i → x i v = y i v) (hkm : k ≤ maxLen) :
    Calls Try.prog 9 #[.slice A k c, .slice A2 k c2] w fun e w' => e = .returned (.bool true) ∧ ∃ nq, w' = w.drewN nq := by
  have HR := Lib.hid hr
  have HS := Lib.hid hs
  have HE := Lib.hid he
  unfold maxLen at hkm
  clear hr hs he
  go_enter Try.func9, Try.ntmps9
  go_wp2_with fail
  go_loopw [5] (fun x wr => ∃ (i d : Nat), x = .int .i64 i ∧ i ≤ k ∧ Hid (wr = w.drewN d)) (fun x _ => k - (intOf x).toNat)
  case atStart => exact ⟨0, 0, rfl, by omega, Lib.hid rfl⟩
  case round =>
    obtain ⟨i, d, rfl, hk, hw⟩ := hrel
    by_cases hlt : i < k
    · obtain ⟨b1, o1, rfl, hb1, hc1, hr1⟩ := (show RdR wr B A k ra rl rc x by rw [hw.out]; exact HR.out) i hlt
      obtain ⟨b2, o2, rfl, hb2, hc2, hr2⟩ := (show RdR wr B2 A2 k rb sl sc y by rw [hw.out]; exact HS.out) i hlt
      obtain ⟨e1, e2⟩ := HE.out i hlt
      rw [← e1] at hc2 hr2
      have SC1 := fun n => conv_rd (w := wr.drewN n) (cap := rc i) hr1
      have SC2 := fun n => conv_rd (w := wr.drewN n) (cap := sc i) hr2
      rw [← strB_congr e2] at SC2
      have g1 : ∀ n, (wr.drewN n).cell? ⟨b1, o1 + i, none⟩ = some (.slice (ra i) (rl i) (rc i)) := fun _ => hc1
      have g2 : ∀ n, (wr.drewN n).cell? ⟨b2, o2 + i, none⟩ = some (.slice (rb i) (rl i) (sc i)) := fun _ => hc2
      have f1 : wr.cell? ⟨b1, o1 + i, none⟩ = some (.slice (ra i) (rl i) (rc i)) := hc1
      have f2 : wr.cell? ⟨b2, o2 + i, none⟩ = some (.slice (rb i) (rl i) (sc i)) := hc2
      clear hc1 hc2 hr1 hr2 hb1 hb2 e1 e2
      have i2 : (i : Int) < (k : Int) := by omega
      generalize ra i = r1 at *
      generalize rb i = r2 at *
      generalize rl i = n1 at *
      generalize rc i = m1 at *
      generalize sc i = m2 at *
      generalize strB n1 (x i) = s at *
      go_wp2_with fail
      go_quiet (fail)
      go_wp2_with fail
      go_roundw
      case rel => exact ⟨i + 1, d + nq, by go_num, by omega, Lib.hid (by rw [hw.out]; exact World.drewN_drewN ..)⟩
      case measure => simp [intOf]; omega
    · obtain rfl : i = k := by omega
      go_wp2_with fail
      go_ret
      exact ⟨rfl, d, hw.out⟩

set_option maxHeartbeats 800000 in
theorem small_any (k c B : Nat) (A : Option Addr) (ra : Nat → Option Addr) (rl rc : Nat → Nat) (x : Nat → Nat → Nat) (w : World) (hr : RdR w B A k ra rl rc x) (hk : k ≤ maxLen) :
    Calls Try.prog 6 #[.slice A k c] w fun e w' => (e = .returned (.bool false) ∨ e = .returned (.bool true)) ∧ w = w' := by
  have HR := Lib.hid hr
  clear hr
  unfold maxLen at hk
  go_enter Try.func6, Try.ntmps6
  go_wp2_with fail
  go_loop [3, 4] (fun n u => ∃ (v : Int) (i : Nat), i ≤ k ∧ n = .int .i64 v ∧ u = .int .i64 i) (fun n u => k - (intOf u).toNat)
  case atStart => exact ⟨0, 0, by omega, rfl, rfl⟩
  case round =>
    obtain ⟨v, i, hi, rfl, rfl⟩ := hrel
    by_cases hlt : i < k
    · by_cases hv : v ≤ 2000
      · obtain ⟨b1, o1, rfl, hb1, hc1, hr1⟩ := HR.out i hlt
        generalize ra i = r1 at *
        generalize rl i = n1 at *
        generalize rc i = m1 at *
        go_wp2_with fail
        go_round
        case rel => exact ⟨_, i + 1, by omega, rfl, by go_num⟩
        case measure => simp [intOf]; omega
      · go_wp2_with fail
        go_ret
        exact ⟨.inl rfl, rfl⟩
    · by_cases hv : v ≤ 2000
      · go_wp2_with fail
        go_ret
        exact ⟨.inr rfl, rfl⟩
      · go_wp2_with fail
        go_ret
        exact ⟨.inl rfl, rfl⟩

/-- rows of one byte each, in blocks that follow one another -/
theorem rdr_ones (w : World) (g k : Nat) (X : Nat → Nat) (hX : ∀ i, i < k → X i < 256) (hh : ∀ i, i < k → w.cell? ⟨g + k, i, none⟩ = some (.slice (some ⟨g + i, 0, none⟩) 1 1)) (hb : ∀ i, i < k → Blk w (g + i) 5 #[.int .u8 ((X i : Nat) : Int)]) :
    RdR w (g + k + 1) (some ⟨g + k, 0, none⟩) k (fun i => some ⟨g + i, 0, none⟩) (fun _ => 1) (fun _ => 1) (fun i _ => X i) := by
  intro i hi
  refine ⟨_, _, rfl, by omega, ?_, fun j hj => ⟨_, _, rfl, by omega, ?_, hX i hi⟩⟩
  · rw [Nat.zero_add, hh i hi]
  · obtain rfl : j = 0 := by
      have : j < 1 := hj
      omega
    rw [(hb i hi).cell]
    rfl
theorem below_drewN {B : Nat} {a w : World} (h : Below B a w) (n : Nat) : Below B a (w.drewN n) := ⟨h.os, h.tape, h.output, h.size, h.block⟩
theorem size_alloc (w : World) (o : Obj) : (w.alloc o).heap.size = w.heap.size + 1 := by simp
theorem blk_at {w : World} {g : Nat} {t : TypeId} {cs : Array Value} (h : g = w.heap.size) : Blk (w.alloc (.cells cs t)) g t cs := h ▸ Blk.new w t cs
/-- a literal of two rows of one byte each -/
theorem lit_two (w : World) (a b : Nat) (ha : a < 256) (hb : b < 256) :
    RdR (((w.alloc (.cells #[.int .u8 (a : Int)] 5)).alloc (.cells #[.int .u8 (b : Int)] 5)).alloc (.cells #[.slice (some ⟨w.heap.size, 0, none⟩) 1 1, .slice (some ⟨w.heap.size + 1, 0, none⟩) 1 1] 31)) (w.heap.size + 2 + 1) (some ⟨w.heap.size + 2, 0, none⟩) 2 (fun i => some ⟨w.heap.size + i, 0, none⟩) (fun _ => 1) (fun _ => 1) (fun i _ => if i = 0 then a else b) := by
  refine rdr_ones _ _ 2 (fun i => if i = 0 then a else b) (fun i hi => by show (if i = 0 then a else b) < 256; split <;> assumption) (fun i hi => ?_) fun i hi => ?_
  · have h := blk_at (w := (w.alloc (.cells #[.int .u8 (a : Int)] 5)).alloc (.cells #[.int .u8 (b : Int)] 5)) (g := w.heap.size + 2) (t := 31) (cs := #[.slice (some ⟨w.heap.size, 0, none⟩) 1 1, .slice (some ⟨w.heap.size + 1, 0, none⟩) 1 1]) (by rw [size_alloc, size_alloc])
    rw [h.cell]
    match i, hi with
    | 0, _ => rfl
    | 1, _ => rfl
  · match i, hi with
    | 0, _ => exact ((Blk.new w _ _).alloc _).alloc _
    | 1, _ => exact (blk_at (by rw [size_alloc])).alloc _
/-- a literal of three rows of one byte each -/
theorem lit_three (w : World) (a b c : Nat) (ha : a < 256) (hb : b < 256) (hc : c < 256) :
    RdR ((((w.alloc (.cells #[.int .u8 (a : Int)] 5)).alloc (.cells #[.int .u8 (b : Int)] 5)).alloc (.cells #[.int .u8 (c : Int)] 5)).alloc (.cells #[.slice (some ⟨w.heap.size, 0, none⟩) 1 1, .slice (some ⟨w.heap.size + 1, 0, none⟩) 1 1, .slice (some ⟨w.heap.size + 2, 0, none⟩) 1 1] 31)) (w.heap.size + 3 + 1) (some ⟨w.heap.size + 3, 0, none⟩) 3 (fun i => some ⟨w.heap.size + i, 0, none⟩) (fun _ => 1) (fun _ => 1) (fun i _ => if i = 0 then a else if i = 1 then b else c) := by
  refine rdr_ones _ _ 3 (fun i => if i = 0 then a else if i = 1 then b else c) (fun i hi => by show (if i = 0 then a else if i = 1 then b else c) < 256; split <;> (try split) <;> assumption) (fun i hi => ?_) fun i hi => ?_
  · have h := blk_at (w := ((w.alloc (.cells #[.int .u8 (a : Int)] 5)).alloc (.cells #[.int .u8 (b : Int)] 5)).alloc (.cells #[.int .u8 (c : Int)] 5)) (g := w.heap.size + 3) (t := 31) (cs := #[.slice (some ⟨w.heap.size, 0, none⟩) 1 1, .slice (some ⟨w.heap.size + 1, 0, none⟩) 1 1, .slice (some ⟨w.heap.size + 2, 0, none⟩) 1 1]) (by rw [size_alloc, size_alloc, size_alloc])
    rw [h.cell]
    match i, hi with
    | 0, _ => rfl
    | 1, _ => rfl
    | 2, _ => rfl
  · match i, hi with
    | 0, _ => exact (((Blk.new w _ _).alloc _).alloc _).alloc _
    | 1, _ => exact ((blk_at (by rw [size_alloc])).alloc _).alloc _
    | 2, _ => exact (blk_at (by rw [size_alloc, size_alloc])).alloc _
theorem known_par : ∀ i, i < 3 → M.par 2 i (fun i _ => if i = 0 then 1 else 1) 0 = if i = 0 then 0 else if i = 1 then 3 else 5 := by decide +kernel

set_option maxHeartbeats 800000 in
theorem known_any (w : World) : Calls Try.prog 5 #[] w fun e w' => e = .returned (.bool true) ∧ Below w.heap.size w w' := by
  have R0 := Lib.hid (lit_two w 1 1 (by omega) (by omega))
  have L0 := Lib.hid ((((Below.refl w.heap.size w).alloc (Nat.le_refl _) (.cells #[.int .u8 ((1 : Nat) : Int)] 5)).alloc (by simp) (.cells #[.int .u8 ((1 : Nat) : Int)] 5)).alloc (by simp; omega) (.cells #[.slice (some ⟨w.heap.size, 0, none⟩) 1 1, .slice (some ⟨w.heap.size + 1, 0, none⟩) 1 1] 31))
  go_enter Try.func5, Try.ntmps5
  go_wp2_with fail
  refine (make_yes 2 2 (w.heap.size + 2 + 1) _ _ _ _ _ _ R0.out (by simp) (by omega) (by omega) ⟨by decide, by decide, fun _ _ => rfl⟩).mono ?_
  rintro e w1 ⟨v, rfl, ⟨h, R, rfl, hp⟩, hl1⟩
  have L1 : Hid (Below w.heap.size w w1) := Lib.hid (L0.out.trans (hl1.mono L0.out.size))
  have R1 := Lib.hid (lit_three w1 0 3 5 (by omega) (by omega) (by omega))
  have L2 := Lib.hid (((((Below.refl w1.heap.size w1).alloc (Nat.le_refl _) (.cells #[.int .u8 ((0 : Nat) : Int)] 5)).alloc (by simp) (.cells #[.int .u8 ((3 : Nat) : Int)] 5)).alloc (by simp; omega) (.cells #[.int .u8 ((5 : Nat) : Int)] 5)).alloc (by simp; omega) (.cells #[.slice (some ⟨w1.heap.size, 0, none⟩) 1 1, .slice (some ⟨w1.heap.size + 1, 0, none⟩) 1 1, .slice (some ⟨w1.heap.size + 2, 0, none⟩) 1 1] 31))
  have P1 := Lib.hid (hp.below L2.out (Nat.le_refl _))
  clear hp hl1 R0 L0
  go_wp2_with fail
  refine (same_yes 3 3 3 _ _ _ _ _ _ _ _ _ _ _ _ _ P1.out R1.out (fun i hi => ⟨rfl, fun v hv => ?_⟩) (by decide)).mono ?_
  · obtain rfl : v = 0 := by
      have : v < 1 := hv
      omega
    exact known_par i hi
  rintro e w3 ⟨rfl, nq, rfl⟩
  have L4 := Lib.hid (below_drewN (L1.out.trans (L2.out.mono L1.out.size)) nq)
  clear L2 L1 R1 P1
  go_wp2_with fail
  go_ret
  exact ⟨rfl, L4.out⟩
end Go.Proofs.Ytoabhbmhjelplaa
