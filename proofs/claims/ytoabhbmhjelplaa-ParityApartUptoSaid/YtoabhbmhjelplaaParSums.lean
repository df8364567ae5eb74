/-
  'parity.sums' by a contract. Conditions: there is a column, and all are as long as the first.
-/
import Derived.Test.YtoabhbmhjelplaaParDataM
import Derived.Test.YtoabhbmhjelplaaFieldJoin
namespace Go.Proofs.Ytoabhbmhjelplaa
open Go.RowKit
set_option maxRecDepth 100000
set_option linter.unusedVariables false

theorem Fld.far2 {w : World} {b : Nat} (h : Fld w b) {p : Addr} (hp : b ≠ p.block) (u : Value) : Fld (w.setCell p u) b := h.far hp u
theorem hdP_congr {n m i : Nat} {R S : Nat → Nat} (h : ∀ j, j < i → R j = S j) : hdP n m i R = hdP n m i S := by
  unfold hdP
  congr 1
  funext j
  by_cases e : j.val < i
  · rw [if_pos e, if_pos e, h _ e]
  · rw [if_neg e, if_neg e]
/-- behind j rows of 'sums' -/
structure SumsAt (w0 w : World) (b n k j : Nat) (x : Nat → Nat → Nat) (R : Nat → Nat) : Prop where
  head : Blk w w0.heap.size 31 (hdP 3 n j R)
  row : ∀ i, i < j → w0.heap.size < R i ∧ RowG w (R i) n (M.par k i x)
  fld : Fld w b
  only : Only b w0 w
  apart : ∀ i i', i < i' → i' < j → R i ≠ R i'
theorem SumsAt.next {w0 w w3 : World} {b n k j : Nat} {x : Nat → Nat → Nat} {R : Nat → Nat} (h : SumsAt w0 w b n k j x R) (hj : j < 3) (hb : b < w0.heap.size)
    (hf : Fld w3 b) (hg : RowG w3 w.heap.size n (fun v => 0 ^^^ M.par k j x v))
    (ho : Only2 b w.heap.size ((w.alloc (.cells (rowArr n fun _ => 0) 5)).setCell ⟨w0.heap.size, j, none⟩ (.slice (some ⟨w.heap.size, 0, none⟩) n n)) w3) :
    SumsAt w0 w3 b n k (j + 1) x (fun i => if i = j then w.heap.size else R i) := by
  have hs := h.only.size
  have hlt := h.head.lt
  have sz : ((w.alloc (.cells (rowArr n fun _ => 0) 5)).setCell ⟨w0.heap.size, j, none⟩ (.slice (some ⟨w.heap.size, 0, none⟩) n n)).heap.size = w.heap.size + 1 := by simp [World.setCell]
  have hh := (h.head.alloc (.cells (rowArr n fun _ => 0) 5)).set_ j (.slice (some ⟨w.heap.size, 0, none⟩) n n)
  rw [hdP_congr (S := fun i => if i = j then w.heap.size else R i) (fun i hi => (if_neg (by omega)).symm)] at hh
  have e : (hdP 3 n j fun i => if i = j then w.heap.size else R i).setIfInBounds j (.slice (some ⟨w.heap.size, 0, none⟩) n n) = hdP 3 n (j + 1) (fun i => if i = j then w.heap.size else R i) := by
    have h1 := hdP_set (n := 3) (m := n) (R := fun i => if i = j then w.heap.size else R i) hj
    simp only [if_true] at h1
    exact h1
  rw [e] at hh
  refine ⟨(ho.block _ (by omega) (by omega) (by omega)).trans hh, fun i hi => ?_, hf, ?_, fun i i' h1 h2 => ?_⟩
  · by_cases e2 : i = j
    · subst e2
      simp only [if_true]
      exact ⟨hlt, hg.congr fun v _ => Nat.zero_xor _⟩
    · simp only [if_neg e2]
      obtain ⟨h1, h2⟩ := h.row i (by omega)
      have hl := h2.lt
      refine ⟨h1, ?_⟩
      have h3 := (h2.alloc (.cells (rowArr n fun _ => 0) 5)).far (p := ⟨w0.heap.size, j, none⟩) (show R i ≠ w0.heap.size by omega) (.slice (some ⟨w.heap.size, 0, none⟩) n n)
      exact h3.heap (ho.block _ (by omega) (by omega) (by omega))
  · have o1 : Only b w0 ((w.alloc (.cells (rowArr n fun _ => 0) 5)).setCell ⟨w0.heap.size, j, none⟩ (.slice (some ⟨w.heap.size, 0, none⟩) n n)) :=
      (h.only.alloc _).setNew (p := ⟨w0.heap.size, j, none⟩) (Nat.le_refl _) _
    exact ⟨ho.os.trans o1.os, ho.tape.trans o1.tape, ho.output.trans o1.output, Nat.le_trans o1.size ho.size, fun i hi hne =>
      (ho.block i (by omega) (fun e => hne (by rw [e])) (by omega)).trans (o1.block i hi hne)⟩
  · have hl := (h.row i (by omega)).2.lt
    show (if i = j then w.heap.size else R i) ≠ (if i' = j then w.heap.size else R i')
    rw [if_neg (by omega)]
    by_cases e2 : i' = j
    · rw [if_pos e2]; omega
    · rw [if_neg e2]; exact h.apart i i' h1 (by omega)

set_option maxHeartbeats 1600000 in
theorem sums_any (b n k cd B : Nat) (A : Option Addr) (ra : Nat → Option Addr) (rl rc : Nat → Nat) (x : Nat → Nat → Nat) (w : World) (hb : Fld w b) (hr : RdR w B A k ra rl rc x) (hl : ∀ i, i < k → rl i = n)
    (hk0 : 0 < k) (hk : k ≤ 60) (hbb : B ≤ b) (hn : n ≤ 4096) (hB : B ≤ w.heap.size) :
    Calls Try.prog 23 #[.pointer (some ⟨b, 0, none⟩), .slice A k cd] w fun e w' => e = .returned (.slice (some ⟨w.heap.size, 0, none⟩) 3 3) ∧ ∃ R, SumsAt w w' b n k 3 x R := by
  have hmk : ∀ W : World, (Instr.makeSlice 22 (.int .i64 3) (.int .i64 3)).run Try.prog W = .ok (.slice (some ⟨W.heap.size, 0, none⟩) 3 3) (W.alloc (.cells (hdP 3 n 0 (fun j => w.heap.size + 1 + j)) 31)) := fun W => make_rows 3 n (fun j => w.heap.size + 1 + j) (by omega) W
  have hmb := fun W => make_bytes n (by omega) W (n : Int) rfl
  have hbl := hb.lt
  have J0 : Hid (SumsAt w (w.alloc (.cells (hdP 3 n 0 (fun j => w.heap.size + 1 + j)) 31)) b n k 0 x (fun j => w.heap.size + 1 + j)) :=
    ⟨Blk.new _ _ _, fun j hj => absurd hj (by omega), hb.alloc _, (Only.refl _ _).alloc _, fun i i' _ h => absurd h (by omega)⟩
  have HR := Lib.hid hr
  have HL := Lib.hid hl
  have HBD : Hid (B ≤ b ∧ B ≤ w.heap.size ∧ b < w.heap.size) := ⟨hbb, hB, hbl⟩
  clear hr hl hb hbb hB hbl
  go_enter Try.func23, Try.ntmps23
  go_wp2_with fail
  generalize hwz : w.heap.size = z at *
  go_loopw [10] (fun v wr => ∃ i : Nat, i ≤ 3 ∧ v = .int .i64 i ∧ ∃ R, Hid (SumsAt w wr b n k i x R)) (fun v _ => 3 - (intOf v).toNat)
  case atStart => exact ⟨0, by omega, rfl, _, J0⟩
  case round =>
    obtain ⟨i, hi, rfl, R, H⟩ := hrel
    clear J0
    by_cases hlt : i < 3
    · have sz := H.out.only.size
      rw [hwz] at sz
      have hh := H.out.head
      rw [hwz] at hh
      have BL : Hid (Below B w wr) := H.out.only.below HBD.out.1 (by rw [hwz]; exact HBD.out.2.1)
      have XR := Lib.hid (HR.out.below BL.out (Nat.le_refl _))
      obtain ⟨bx, ox, rfl, hbx, hcx, _⟩ := XR.out 0 hk0
      rw [HL.out 0 hk0, Nat.add_zero] at hcx
      have h1 : ∀ o, (wr.alloc o).cell? ⟨z, i, none⟩ = some (.slice none 0 0) := fun o => by
        rw [(hh.alloc o).cell, hdP_get hlt, if_neg (by omega)]
      have f1 : ∀ o, (wr.alloc o).frozen? ⟨z, i, none⟩ = false := fun o => (hh.alloc o).frozen i
      have hzl := hh.lt
      have d1 : ((wr.alloc (.cells (rowArr n fun _ => 0) 5)).setCell ⟨z, i, none⟩ (.slice (some ⟨wr.heap.size, 0, none⟩) n n)).cell? ⟨z, i, none⟩ = some (.slice (some ⟨wr.heap.size, 0, none⟩) n n) := World.cell?_setCell_same _ _ _ (h1 _)
      have G1 : Hid (RowG ((wr.alloc (.cells (rowArr n fun _ => 0) 5)).setCell ⟨z, i, none⟩ (.slice (some ⟨wr.heap.size, 0, none⟩) n n)) wr.heap.size n (fun _ => 0)) :=
        RowG.far (RowG.of_blk (Blk.new wr 5 (rowArr n fun _ => 0)) (Nat.le_refl _)) (p := ⟨z, i, none⟩) (show wr.heap.size ≠ z by omega) _
      have F1 : Hid (Fld ((wr.alloc (.cells (rowArr n fun _ => 0) 5)).setCell ⟨z, i, none⟩ (.slice (some ⟨wr.heap.size, 0, none⟩) n n)) b) :=
        (H.out.fld.alloc _).far (p := ⟨z, i, none⟩) (show b ≠ z by have := HBD.out.2.2; omega) _
      have B1 : Hid (Below B wr ((wr.alloc (.cells (rowArr n fun _ => 0) 5)).setCell ⟨z, i, none⟩ (.slice (some ⟨wr.heap.size, 0, none⟩) n n))) :=
        ((Below.refl B wr).alloc (by have := HBD.out.2.1; omega) _).setCell (p := ⟨z, i, none⟩) HBD.out.2.1 _
      have X1 := Lib.hid (XR.out.below B1.out (Nat.le_refl _))
      have S1 : Hid (B ≤ ((wr.alloc (.cells (rowArr n fun _ => 0) 5)).setCell ⟨z, i, none⟩ (.slice (some ⟨wr.heap.size, 0, none⟩) n n)).heap.size) := by
        have h := HBD.out.2.1
        have e : ((wr.alloc (.cells (rowArr n fun _ => 0) 5)).setCell ⟨z, i, none⟩ (.slice (some ⟨wr.heap.size, 0, none⟩) n n)).heap.size = wr.heap.size + 1 := by simp [World.setCell]
        show B ≤ _
        rw [e]
        omega
      have HWZ := Lib.hid hwz
      have HZL := Lib.hid hzl
      clear hh BL XR hbx B1 hmk hwz hzl
      go_wp2_with fail
      refine (addData_any b wr.heap.size i n k n cd B _ ra rl rc x (fun _ => 0) _ F1.out G1.out X1.out HL.out (fun _ => (by omega)) hlt hk (by have := HBD.out.2.1; omega) HBD.out.1 (by have := HBD.out.2.2; have := HZL.out; omega) hn S1.out).mono ?_
      rintro e w3 ⟨rfl, hf3, hg3, ho3⟩
      have H3 := Lib.hid (H.out.next hlt (by rw [HWZ.out]; exact HBD.out.2.2) hf3 hg3 (by rw [HWZ.out]; exact ho3))
      clear hf3 hg3 ho3 F1 G1 X1 S1 H h1 f1 d1 hcx
      go_wp2_with fail
      go_roundw
      case rel => exact ⟨i + 1, by omega, by go_num, _, H3⟩
      case measure => simp [intOf]; omega
    · obtain rfl : i = 3 := by omega
      have HWZ := Lib.hid hwz
      clear hmk hwz
      go_wp2_with fail
      go_ret
      exact ⟨by rw [HWZ.out]; rfl, R, H.out⟩
end Go.Proofs.Ytoabhbmhjelplaa
