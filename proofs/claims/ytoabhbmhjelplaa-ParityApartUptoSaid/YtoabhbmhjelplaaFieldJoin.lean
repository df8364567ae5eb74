/-
  'field.join' by a contract: a matrix of the call's own out of rows and right sides. Conditions: what is handed in is a system of one to eight equations.
-/
import Derived.Test.YtoabhbmhjelplaaFieldElim
import Derived.Laws.CopyOwn
import Derived.Laws.MakeOwn
namespace Go.Proofs.Ytoabhbmhjelplaa
open Go.RowKit
set_option maxRecDepth 100000
set_option linter.unusedVariables false

/-- rows' heads, of which the first i are there -/
def hdP (n m i : Nat) (R : Nat → Nat) : Array Value := Array.ofFn (n := n) fun j => if j.val < i then .slice (some ⟨R j.val, 0, none⟩) m m else .slice none 0 0
theorem hdP_get {n m i : Nat} {R : Nat → Nat} {j : Nat} (h : j < n) : (hdP n m i R)[j]? = some (if j < i then .slice (some ⟨R j, 0, none⟩) m m else .slice none 0 0) := by simp [hdP, h]
theorem replicate_hd (n m : Nat) (R : Nat → Nat) : Array.replicate n (Value.slice none 0 0) = hdP n m 0 R := by
  apply Array.ext_getElem?
  intro i
  by_cases h : i < n
  · rw [hdP_get h]; simp [h]
  · rw [Array.getElem?_eq_none (by simp; omega), Array.getElem?_eq_none (by simp [hdP]; omega)]
theorem hdP_set {n m i : Nat} {R : Nat → Nat} (h : i < n) : (hdP n m i R).setIfInBounds i (.slice (some ⟨R i, 0, none⟩) m m) = hdP n m (i + 1) R := by
  apply Array.ext_getElem?
  intro j
  rw [Array.getElem?_setIfInBounds]
  have hs : (hdP n m i R).size = n := by simp [hdP]
  rw [hs]
  by_cases hj : j < n
  · rw [hdP_get hj, hdP_get hj]
    by_cases e : i = j
    · subst e
      rw [if_pos rfl, if_pos h, if_pos (by omega)]
    · rw [if_neg e]
      by_cases e2 : j < i
      · rw [if_pos e2, if_pos (by omega)]
      · rw [if_neg e2, if_neg (by omega)]
  · rw [if_neg (by omega), Array.getElem?_eq_none (by rw [hs]; omega), Array.getElem?_eq_none (by simp [hdP]; omega)]
theorem hdP_full (n m : Nat) (R : Nat → Nat) : hdP n m n R = hdArr n m R := by
  apply Array.ext_getElem?
  intro j
  by_cases hj : j < n
  · rw [hdP_get hj, hdArr_get hj, if_pos hj]
  · rw [Array.getElem?_eq_none (by simp [hdP]; omega), Array.getElem?_eq_none (by simp [hdArr]; omega)]

theorem info_bytes : (Try.prog.info? 31).map (fun i => (i.zero, i.size, i.bytes)) = some (some (.slice none 0 0), 1, 24) := by kernel_rfl
theorem make_rows (n m : Nat) (R : Nat → Nat) (hn : n ≤ 70000) (w : World) :
    (Instr.makeSlice 22 (.int .i64 (n : Int)) (.int .i64 (n : Int))).run Try.prog w = .ok (.slice (some ⟨w.heap.size, 0, none⟩) n n) (w.alloc (.cells (hdP n m 0 R) 31)) := by
  obtain ⟨i0, hi, hz0, hz1, hz2⟩ := info_parts info_bytes
  have h := run_make (P := Try.prog) (w := w) 22 31 i0 (.slice none 0 0) Try.underlying22 hi hz0 .i64 .i64 (n : Int) (n : Int) (by omega) (by omega) (by rw [hz2]; omega) (by omega)
  rw [h, hz1, Int.toNat_natCast, Nat.mul_one]
  show _ = _
  rw [show (Value.slice none 0 0).cells = #[.slice none 0 0] from rfl, madeCells_one, replicate_hd n m R]

/-- the matrix of a system -/
def joinM (n : Nat) (x : Nat → Nat → Nat) (y : Nat → Nat) (i j : Nat) : Nat := if j < n then x i j else y i

/-- behind i rows of 'join' -/
structure JoinAt (w0 w : World) (n i : Nat) (x : Nat → Nat → Nat) (y : Nat → Nat) : Prop where
  head : Blk w w0.heap.size 31 (hdP n (n + 1) i (fun j => w0.heap.size + 1 + j))
  row : ∀ j, j < i → Blk w (w0.heap.size + 1 + j) 5 (rowArr (n + 1) (joinM n x y j))
  size : w.heap.size = w0.heap.size + 1 + i
  below : Below w0.heap.size w0 w

set_option maxRecDepth 100000 in
set_option maxHeartbeats 1600000 in
theorem join_any (A A2 : Option Addr) (n c c2 : Nat) (B B2 : Nat) (ra : Nat → Option Addr) (rl rc : Nat → Nat) (x : Nat → Nat → Nat) (y : Nat → Nat) (w : World) (hB : B ≤ w.heap.size) (hB2 : B2 ≤ w.heap.size)
    (hr : RdR w B A n ra rl rc x) (hy : RdB w B2 A2 n y) (hq : IsSq n n rl) :
    Calls Try.prog 42 #[.slice A n c, .slice A2 n c2] w fun e w' => e = .returned (.slice (some ⟨w.heap.size, 0, none⟩) n n) ∧ JoinAt w w' n n x y := by
  obtain ⟨hn1, hn8, _, hall⟩ := hq
  obtain ⟨b, o, rfl, hbB, _⟩ := hr 0 (by omega)
  obtain ⟨b2, o2, rfl, hbB2, _⟩ := hy 0 (by omega)
  have HX : Hid (∀ i, i < n → b < B ∧ w.cell? ⟨b, o + i, none⟩ = some (.slice (ra i) n (rc i)) ∧ RdB w B (ra i) n (x i)) := by
    intro i hi
    obtain ⟨b', o', h1, h2, h3, h4⟩ := hr i hi
    injection h1 with h1
    injection h1 with h1 h2'
    subst h1; subst h2'
    rw [hall i hi] at h3 h4
    exact ⟨h2, h3, h4⟩
  have HY : Hid (∀ i, i < n → b2 < B2 ∧ w.cell? ⟨b2, o2 + i, none⟩ = some (.int .u8 (y i : Nat)) ∧ y i < 256) := by
    intro i hi
    obtain ⟨b', o', h1, h2, h3, h4⟩ := hy i hi
    injection h1 with h1
    injection h1 with h1 h2'
    subst h1; subst h2'
    exact ⟨h2, h3, h4⟩
  clear hr hy hall
  have hmk := make_rows n (n + 1) (fun j => w.heap.size + 1 + j) (by omega)
  have hmb := fun W => make_bytes (n + 1) (by omega) W ((n : Int) + 1) (by omega)
  have J0 : Hid (JoinAt w (w.alloc (.cells (hdP n (n + 1) 0 (fun j => w.heap.size + 1 + j)) 31)) n 0 x y) :=
    ⟨Blk.new _ _ _, fun j hj => absurd hj (by omega), by simp, (Below.refl _ _).alloc (Nat.le_refl _) _⟩
  go_enter Try.func42, Try.ntmps42
  go_wp2_with fail
  generalize hwz : w.heap.size = z at *
  go_loopw [13] (fun v wr => ∃ i : Nat, i ≤ n ∧ v = .int .i64 i ∧ Hid (JoinAt w wr n i x y)) (fun v _ => n - (intOf v).toNat)
  case atStart => exact ⟨0, by omega, rfl, J0⟩
  case round =>
    obtain ⟨i, hi, rfl, H⟩ := hrel
    by_cases hlt : i < n
    · have hz := H.out.size
      rw [hwz] at hz
      obtain ⟨q1, q2, q3⟩ := HX.out i hlt
      obtain ⟨s1, s2, s3⟩ := HY.out i hlt
      have cb : wr.cell? ⟨b, o + i, none⟩ = some (.slice (ra i) n (rc i)) := (H.out.below.cell (p := ⟨b, o + i, none⟩) (by show b < w.heap.size; omega)).trans q2
      have hh := H.out.head
      rw [hwz] at hh
      have zlt := hh.lt
      have h1 : ∀ o, (wr.alloc o).cell? ⟨z, i, none⟩ = some (.slice none 0 0) := fun o => by
        rw [(hh.alloc o).cell, hdP_get hlt, if_neg (by omega)]
      have f1 : ∀ o, (wr.alloc o).frozen? ⟨z, i, none⟩ = false := fun o => (hh.alloc o).frozen i
      obtain ⟨b3, o3, hai, hb3, _⟩ := q3 0 (by omega)
      have HSRC : Hid (∀ W : World, Below z w W → ∀ j, j < n → W.cell? ⟨b3, o3 + j, none⟩ = some (.int .u8 (x i j : Nat))) := by
        intro W hW j hj
        obtain ⟨b', o', e1, e2, e3, _⟩ := q3 j hj
        rw [hai] at e1
        injection e1 with e1
        injection e1 with e1 e1'
        subst e1; subst e1'
        exact (hW.cell (p := ⟨b3, o3 + j, none⟩) (by show b3 < z; omega)).trans e3
      have HB0 := Lib.hid (hwz ▸ H.out.below)
      have HROW := Lib.hid H.out.row
      have HS2 := Lib.hid s2
      have HH := Lib.hid hh
      rw [hai] at cb
      clear q2 q3 s2 hh hmk hai
      have HWZ := Lib.hid hwz
      clear hwz
      generalize rc i = ci at *
      have B1 : Hid (Below z w ((wr.alloc (.cells (rowArr (n + 1) fun _ => 0) 5)).setCell ⟨z, i, none⟩ (.slice (some ⟨z + 1 + i, 0, none⟩) (n + 1) (n + 1)))) :=
        (HB0.out.alloc (by omega) _).setCell (p := ⟨z, i, none⟩) (Nat.le_refl _) _
      have G1 : Hid (Blk ((wr.alloc (.cells (rowArr (n + 1) fun _ => 0) 5)).setCell ⟨z, i, none⟩ (.slice (some ⟨z + 1 + i, 0, none⟩) (n + 1) (n + 1))) (z + 1 + i) 5 (rowArr (n + 1) fun _ => 0)) := by
        have h := (Blk.new wr 5 (rowArr (n + 1) fun _ => 0)).far (p := ⟨z, i, none⟩) (show wr.heap.size ≠ z by omega) (.slice (some ⟨z + 1 + i, 0, none⟩) (n + 1) (n + 1))
        rw [hz] at h
        exact h
      have D1 : Hid (Blk ((wr.alloc (.cells (rowArr (n + 1) fun _ => 0) 5)).setCell ⟨z, i, none⟩ (.slice (some ⟨z + 1 + i, 0, none⟩) (n + 1) (n + 1))) z 31 (hdP n (n + 1) (i + 1) (fun j => z + 1 + j))) := by
        have h := (HH.out.alloc (.cells (rowArr (n + 1) fun _ => 0) 5)).set_ i (.slice (some ⟨z + 1 + i, 0, none⟩) (n + 1) (n + 1))
        rw [hdP_set (R := fun j => z + 1 + j) hlt] at h
        exact h
      have E1 : Hid (∀ j, j < i → Blk ((wr.alloc (.cells (rowArr (n + 1) fun _ => 0) 5)).setCell ⟨z, i, none⟩ (.slice (some ⟨z + 1 + i, 0, none⟩) (n + 1) (n + 1))) (z + 1 + j) 5 (rowArr (n + 1) (joinM n x y j))) := by
        intro j hj
        have h := HROW.out j hj
        rw [HWZ.out] at h
        exact (h.alloc _).far (p := ⟨z, i, none⟩) (show z + 1 + j ≠ z by omega) _
      have S1 : Hid (((wr.alloc (.cells (rowArr (n + 1) fun _ => 0) 5)).setCell ⟨z, i, none⟩ (.slice (some ⟨z + 1 + i, 0, none⟩) (n + 1) (n + 1))).heap.size = z + 1 + i + 1) := by
        show _ = _
        simp [hz]
      go_wp2_with ((with_reducible refine wpList_copyB rfl (.tmp 28) (.tmp 29) _ _ rfl Try.underlying31 (z + 1 + i) (n + 1) b3 o3 n ci rfl rfl (fun _ => 0) (x i) G1.out (HSRC.out _ B1.out) (by omega) ?_); intro w2 hb2 ho2 hs2)
      have hD2 := ho2.blk D1.out (show z ≠ z + 1 + i by omega)
      have d1 : w2.cell? ⟨z, i, none⟩ = some (.slice (some ⟨z + 1 + i, 0, none⟩) (n + 1) (n + 1)) := by
        rw [hD2.cell, hdP_get hlt, if_pos (by omega)]
      have hbel2 : Below z w w2 := B1.out.trans (ho2.below (B := z) (by omega) (by rw [S1.out]; omega))
      have d2 : w2.cell? ⟨b2, o2 + i, none⟩ = some (.int .u8 (y i : Nat)) := (hbel2.cell (p := ⟨b2, o2 + i, none⟩) (by show b2 < z; omega)).trans HS2.out
      have d3 : w2.cell? ⟨z + 1 + i, n, none⟩ = some (.int .u8 0) := by
        rw [hb2.cell, rowArr_get (by omega), if_neg (by omega)]; rfl
      have d4 : w2.frozen? ⟨z + 1 + i, n, none⟩ = false := hb2.frozen n
      have HB2 := Lib.hid hb2
      have HD2 := Lib.hid hD2
      have HBEL := Lib.hid hbel2
      have HO2 := Lib.hid ho2
      have HSZ : Hid (w2.heap.size = z + 1 + i + 1) := by show _ = _; rw [hs2, S1.out]
      clear hb2 hD2 hbel2 ho2 hs2 cb h1 f1 hz
      refine region_quiet_tail 10 (by kernel_rfl) (by kernel_rfl) ?_
      simp only [List.take_succ_cons, List.take_zero, List.drop_succ_cons, List.drop_zero]
      repeat (quiet_step (fail))
      refine wpQuiet_nil ?_
      rintro _ ⟨nq, rfl⟩
      go_wp2_with fail
      have HJ : Hid (JoinAt w ((w2.drewN nq).setCell ⟨z + 1 + i, n, none⟩ (.int .u8 ((y i : Nat) : Int))) n (i + 1) x y) := by
        refine ⟨?_, ?_, ?_, ?_⟩
        · rw [HWZ.out]
          exact (HD2.out.drewN nq).far (p := ⟨z + 1 + i, n, none⟩) (show z ≠ z + 1 + i by omega) _
        · intro j hj
          rw [HWZ.out]
          by_cases e : j = i
          · subst e
            have h := (HB2.out.drewN nq).set_ n (.int .u8 ((y j : Nat) : Int))
            rw [rowArr_set (by omega)] at h
            have h2 : rowArr (n + 1) (fun c => if c = n then y j else if c < n then x j c else 0) = rowArr (n + 1) (joinM n x y j) := rowArr_congr fun c hc => by
              unfold joinM
              by_cases e : c = n
              · rw [if_pos e, if_neg (by omega)]
              · rw [if_neg e, if_pos (by omega), if_pos (by omega)]
            rw [← h2]
            exact h
          · have h := HO2.out.blk (E1.out j (by omega)) (show z + 1 + j ≠ z + 1 + i by omega)
            exact (h.drewN nq).far (p := ⟨z + 1 + i, n, none⟩) (show z + 1 + j ≠ z + 1 + i by omega) _
        · rw [HWZ.out]
          have h := HSZ.out
          show ((w2.drewN nq).setCell ⟨z + 1 + i, n, none⟩ (.int .u8 ((y i : Nat) : Int))).heap.size = _
          simp [World.setCell, World.drewN]
          omega
        · rw [HWZ.out]
          have h := HBEL.out
          have h' : Below z w (w2.drewN nq) := ⟨h.os, h.tape, h.output, h.size, h.block⟩
          exact h'.setCell (p := ⟨z + 1 + i, n, none⟩) (show z ≤ z + 1 + i by omega) _
      go_roundw
      case rel => exact ⟨i + 1, by omega, by go_num, HJ⟩
      case measure => simp [intOf]; omega
    · have HJ : Hid (JoinAt w wr n n x y) := by
        have e : i = n := by omega
        rw [e] at H
        exact H
      clear H hmb hmk
      have HWZ := Lib.hid hwz
      clear hwz
      go_wp2_with fail
      go_ret
      exact ⟨by rw [HWZ.out]; rfl, HJ.out⟩
end Go.Proofs.Ytoabhbmhjelplaa
