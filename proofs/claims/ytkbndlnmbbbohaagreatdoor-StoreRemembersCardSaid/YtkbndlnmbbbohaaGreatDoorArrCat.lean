/-
 'slices.Concat' of rows of bytes' heads, of bytes and of numbers, by contracts. Conditions: no more than 100000 elements in all. (Made by gen/mkarrcat.py.)
-/
import Derived.Test.YtkbndlnmbbbohaaGreatDoorArrWriteM
import Derived.Lib.AppendZeros
namespace Go.Proofs.YtkbndlnmbbbohaaGreatDoor
open Go Go.RowKit
set_option maxRecDepth 100000
set_option linter.unusedVariables false
namespace Cc
def csH (h : Hd) : List Value := [hdV h]
def csB (x : Nat) : List Value := [.int .u8 (x : Int)]
theorem rd_flatC {α : Type} {k : Nat} {cs : α → List Value} (hk : ∀ x, (cs x).length = k) (hk0 : 0 < k) {w : World} {b o : Nat} {l : List α} (h : Gr.RdG k cs w (some ⟨b, o, none⟩) l) :
  ∀ j u, (l.flatMap cs)[j]? = some u → w.cell? ((⟨b, o, none⟩ : Addr).add j) = some u := by
 intro j u hj
 have hlt : j < l.length * k := by have := (List.getElem?_eq_some_iff.1 hj).1; rw [Gr.flat_length hk] at this; exact this
 have hi : j / k < l.length := Nat.div_lt_of_lt_mul (by rw [Nat.mul_comm]; exact hlt)
 have hx := List.getElem?_eq_getElem hi
 obtain ⟨b', o', e, _, hc⟩ := h _ _ hx
 injection e with e
 injection e with e1 e2
 subst e1 e2
 have hdm : j / k * k + j % k = j := Nat.div_add_mod' j k
 have hf := Gr.flat_get hk hx (j % k) (Nat.mod_lt _ hk0)
 rw [hdm, hj] at hf
 have := hc (j % k) u hf.symm
 rw [add_plain, ← hdm, ← Nat.add_assoc]
 exact this
section
variable {α : Type} {E T : TypeId} {cs : α → List Value} {z : Value} {bytes : Nat} {w : World} {base : Nat} {v : Value} {l : List α}
theorem app_g (hk : ∀ x, (cs x).length = 1) (hone : ∀ x, ∀ u ∈ cs x, u.oneCell' = true) (hu : Tryz.prog.underlying T = some (.slice E)) (hi : (Tryz.prog.info? E).map (fun i => (i.zero, i.size, i.bytes)) = some (some z, 1, bytes)) (hzs : z.cells.size = 1) (hby : bytes ≤ 64)
  (h : Gr.OwnG E 1 cs w base v l) (m : List α) {A : Option Addr} {n c : Nat} (hn : n = m.length) (hm : Gr.RdG 1 cs w A m) (hA : A = none → c = 0) (hl : l.length + m.length ≤ 1000000) (hb : base ≤ w.heap.size) (ty : TypeId) :
  ∃ v' w', (Builtin.append_ #[T, T] ty #[v, .slice A n c]).run Tryz.prog w = .ok v' w' ∧ Gr.OwnG E 1 cs w' base v' (l ++ m) ∧ Below base w w' := by
 subst hn
 cases A with
 | none =>
  have e1 : m = [] := by
   cases m with
   | nil => rfl
   | cons x m => obtain ⟨b, o, e, _⟩ := hm 0 x rfl; cases e
  subst e1
  rw [hA rfl]
  obtain ⟨i0, hi'⟩ : ∃ i0, Tryz.prog.info? E = some i0 := by
   cases hE : Tryz.prog.info? E with
   | none => rw [hE] at hi; simp at hi
   | some i => exact ⟨i, rfl⟩
  refine ⟨v, w, run_append_owned_none w base T ty E i0 1 hu hi' v _ _ h, ?_, Below.refl _ _⟩
  rw [List.append_nil]
  exact h
 | some ad =>
  have hr : ∀ j u, (m.flatMap cs)[j]? = some u → w.cell? (ad.add j) = some u := by
   cases m with
   | nil => intro j u hj; simp at hj
   | cons x m' =>
    obtain ⟨b, o, e, _⟩ := hm 0 x rfl
    injection e with e
    subst e
    exact rd_flatC (k := 1) (cs := cs) hk (by decide) hm
  obtain ⟨v', w', e1, e2, e3, e4⟩ := Gr.run_append_b (E := E) (k := 1) (cs := cs) (z := z) (bytes := bytes) (m := m) (c := c) hk hone hu hi hzs (by omega) ty h hr (by
   have := Nat.mul_le_mul_left (l.length + m.length) hby
   omega) (by
   have := Nat.mul_le_mul_left (l.length + m.length) hby
   omega) hb
  exact ⟨v', w', e1, e2, ⟨e3.os, e3.tape, e3.output, e3.size, fun g hg => e3.block g (by omega) (fun e => by have := (h.lt e.symm).2; omega)⟩⟩
def joinL (L : Nat → List α) (k : Nat) : List α := (List.range k).flatMap L
theorem joinL_succ (L : Nat → List α) (k : Nat) : joinL L (k + 1) = joinL L k ++ L k := by simp [joinL, List.range_succ]
theorem joinL_le (L : Nat → List α) {k m : Nat} (h : k ≤ m) : (joinL L k).length ≤ (joinL L m).length := by
 obtain ⟨d, rfl⟩ : ∃ d, m = k + d := ⟨m - k, by omega⟩
 clear h
 induction d with
 | zero => exact Nat.le_refl _
 | succ d ih => rw [← Nat.add_assoc, joinL_succ, List.length_append]; omega
theorem slice_nil {e : TypeId} (hu : Tryz.prog.underlying T = some (.slice e)) (hz : ∀ w, (sizeOf e).run Tryz.prog w = .ok 1 w) (he : Tryz.prog.elem T = e) (w : World) :
  (Instr.sliceAt T (.slice none 0 0) none (some (.int .i64 0)) none).run Tryz.prog w = .ok (.slice none 0 0) w := by
 subst he
 rw [run_sliceAt_slice (P := Tryz.prog) (w := w) (h := hu), run_slice_h (P := Tryz.prog) (w := w) T _ 0 0 hu .i64 0 (by omega) (by omega), hz]
 simp [sliced]
theorem slice_zero {e : TypeId} (hu : Tryz.prog.underlying T = some (.slice e)) (hz : ∀ w, (sizeOf e).run Tryz.prog w = .ok 1 w) (he : Tryz.prog.elem T = e) (b n c : Nat) (w : World) :
  (Instr.sliceAt T (.slice (some ⟨b, 0, none⟩) n c) none (some (.int .i64 0)) none).run Tryz.prog w = .ok (.slice (some ⟨b, 0, none⟩) 0 c) w := by
 subst he
 rw [run_sliceAt_slice (P := Tryz.prog) (w := w) (h := hu), run_slice_h (P := Tryz.prog) (w := w) T _ n c hu .i64 0 (by omega) (by omega), hz]
 by_cases e : c = 0
 ·simp [sliced, e, Addr.add]
 ·simp [sliced, e, Addr.add]
theorem zeros_g (hu : Tryz.prog.underlying T = some (.slice E)) (hi : (Tryz.prog.info? E).map (fun i => (i.zero, i.size, i.bytes)) = some (some z, 1, bytes)) (hzs : z.cells.size = 1) (hby : bytes ≤ 64) (n : Nat) (h0 : 0 < n) (hn : n ≤ 100000) (ty : TypeId) (w : World) :
  ∃ C W, (Builtin.append_ #[T, 3] ty #[.slice none 0 0, .int .i64 (n : Int)]).run Tryz.prog w = .ok (.slice (some ⟨w.heap.size, 0, none⟩) n C) W ∧ Gr.OwnG E 1 cs W w.heap.size (.slice (some ⟨w.heap.size, 0, none⟩) 0 C) ([] : List α) ∧ Below w.heap.size w W := by
 obtain ⟨i0, hi0, hz0, hz1, hz2⟩ := info_parts hi
 have hr := Lib.run_append_nil_zeros w T 3 ty E i0 z .i64 .i64 hu Tryz.underlying3 hi0 hz0 n h0 (by rw [hz1]; omega) (by omega) (by
  rw [hz2]
  have := Nat.mul_le_mul hn hby
  omega)
 have hge := grownCap_ge w n 0 E
 have hcm : grownCap w n 0 E ≤ maxLen := grownCap_le_maxLen w n 0 E (by simp only [maxLen]; omega)
 refine ⟨_, _, hr, ⟨rfl, .inr ⟨w.heap.size, _, _, rfl, Nat.le_refl _, heap_alloc_new w.drew _, Nat.zero_le _, hcm, ?_, by simp⟩⟩, (Below.refl w.heap.size w).drew.alloc (Nat.le_refl _) _⟩
 simp only [Array.size_append, size_zeroCells, hzs]
 omega
end
theorem grow_H (n : Nat) (hn : n ≤ 100000) (w : World) :
  Calls Tryz.prog 167 #[.slice none 0 0, .int .i64 (n : Int)] w fun e w' => ∃ v, e = .returned v ∧ Gr.OwnG 41 1 csH w' w.heap.size v ([] : List Hd) ∧ Below w.heap.size w w' := by
 by_cases h0 : n = 0
 ·subst h0
  go_enter Tryz.func167, Tryz.ntmps167
  go_wp2_with fail
  go_ret
  exact ⟨_, rfl, Gr.OwnG.nil _ _, Below.refl _ _⟩
 ·have t1 : (0 : Int) < (n : Int) := by omega
  have t2 : ((n : Int) < 0) = False := by simp
  have hs1 := fun W => slice_nil (T := 139) Tryz.underlying139 sizeOf_bytes (by kernel_rfl) W
  have hs2 := fun b n c W => slice_zero (T := 139) Tryz.underlying139 sizeOf_bytes (by kernel_rfl) b n c W
  have hz := fun ty => zeros_g (α := Hd) (cs := csH) (T := 139) Tryz.underlying139 infoS rfl (by omega) n (by omega) hn ty w
  go_enter Tryz.func167, Tryz.ntmps167
  go_wp2_with (at_builtin; (obtain ⟨C, W, h1, h2, h3⟩ := hz _); refine Lib.wpList_append_run _ rfl (.tmp 20) (.tmp 21) _ _ rfl _ _ rfl rfl _ _ h1 ?_; have H2 := Lib.hid h2; have H3 := Lib.hid h3; clear h1 h2 h3 hz)
  go_ret
  exact ⟨_, rfl, H2.out, H3.out⟩
set_option maxHeartbeats 1600000 in
theorem concat_H (b o K cc : Nat) (A : Nat → Option Addr) (L : Nat → List Hd) (c : Nat → Nat) (w : World) (hb : b < w.heap.size) (hK : K ≤ 100000) (hd : ∀ j, j < K → w.cell? ⟨b, o + j, none⟩ = some (.slice (A j) (L j).length (c j)) ∧ Gr.RdG 1 csH w (A j) (L j) ∧ (A j = none → c j = 0)) (hl : (joinL L K).length ≤ 100000) :
  Calls Tryz.prog 142 #[.slice (some ⟨b, o, none⟩) K cc] w fun e w' => ∃ v, e = .returned v ∧ Gr.OwnG 41 1 csH w' w.heap.size v (joinL L K) ∧ Below w.heap.size w w' := by
 have HD := Lib.hid hd
 have HL := Lib.hid hl
 clear hd hl
 go_enter Tryz.func142, Tryz.ntmps142
 go_wp2_with fail
 go_loopw [3, 11] (fun s y wr => ∃ k : Nat, k ≤ K ∧ y = .int .i64 (k : Int) ∧ s = .int .i64 (((joinL L k).length : Nat) : Int) ∧ wr = w) (fun _ y _ => K - (intOf y).toNat)
 case atStart => exact ⟨0, Nat.zero_le _, rfl, rfl, rfl⟩
 case round =>
  obtain ⟨k, hk, rfl, rfl, hwr⟩ := hrel
  have hwr := hwr.symm
  subst hwr
  by_cases hlt : k < K
  ·obtain ⟨d1, _, _⟩ := HD.out k hlt
   have hle := joinL_le L (show k + 1 ≤ K by omega)
   have hle2 := HL.out
   have hsu : (joinL L (k + 1)).length = (joinL L k).length + (L k).length := by rw [joinL_succ, List.length_append]
   generalize hjk : (joinL L k).length = jk at *
   generalize hlk : (L k).length = lk at *
   have hb1 : jk + lk ≤ 100000 := by omega
   have HJ := Lib.hid hjk
   have HK2 := Lib.hid hlk
   clear hle hle2 hsu hjk hlk
   go_wp2_with fail
   go_roundw
   case rel => exact ⟨k + 1, by omega, by go_num, by rw [joinL_succ, List.length_append, HJ.out, HK2.out]; go_num, by first | rfl | trivial⟩
   case measure => simp [intOf]; omega
  ·obtain rfl : k = K := by omega
   have HG := Lib.hid (grow_H _ HL.out w)
   generalize hJ : (joinL L k).length = jk at *
   have HJ := Lib.hid hJ
   clear hJ
   go_wp2_with fail
   refine HG.out.mono ?_
   rintro e w2 ⟨v2, rfl, h2, b2⟩
   have H2 := Lib.hid h2
   have B2 := Lib.hid b2
   clear h2 b2
   go_wp2_with fail
   obtain ⟨w0, hw0⟩ : ∃ w0, w0 = w := ⟨_, rfl⟩
   have HW0 := Lib.hid hw0
   clear hw0
   go_loopw [6, 27] (fun s y wr => ∃ i : Nat, i ≤ k ∧ y = .int .i64 (i : Int) ∧ Hid (Gr.OwnG 41 1 csH wr w.heap.size s (joinL L i)) ∧ Hid (Below w.heap.size w wr)) (fun _ y _ => k - (intOf y).toNat)
   case atStart => exact ⟨0, Nat.zero_le _, rfl, H2, B2⟩
   case round =>
    clear H2 B2
    obtain ⟨i, hi, rfl, HO, HB⟩ := hrel
    by_cases hli : i < k
    ·obtain ⟨d1, d2, d3⟩ := HD.out i hli
     have d1 : wr.cell? ⟨b, o + i, none⟩ = some (.slice (A i) (L i).length (c i)) := (HB.out.cell (p := ⟨b, o + i, none⟩) hb).trans d1
     have D2 := Lib.hid (d2.below HB.out)
     have D3 := Lib.hid d3
     have HLL : Hid ((joinL L i).length + (L i).length ≤ 1000000) := Lib.hid (by
      have h1 := joinL_le L (show i + 1 ≤ k by omega)
      have h2 := HL.out
      rw [joinL_succ, List.length_append, HJ.out] at h1
      omega)
     generalize hln : (L i).length = ln at *
     have HLN := Lib.hid hln
     clear d2 d3 hln
     go_wp2_with (at_builtin; refine Arr.wpList_app_g rfl 139 (.tmp 31) (.tmp 32) rfl rfl rfl (fun ty => app_g (fun _ => rfl) (fun x u hu => by simp [csH] at hu; subst hu; rfl) Tryz.underlying139 infoS rfl (by omega) HO.out (L i) HLN.out.symm D2.out D3.out (by rw [HLN.out]; exact HLL.out) HB.out.size ty) ?_; intro v7 W7 h7; refine of_hid ?_)
     refine Lib.hid ?_
     have H7 := Lib.hid h7
     clear h7
     go_wp2_with fail
     go_roundw
     case rel => exact ⟨i + 1, by omega, by go_num, Lib.hid (by rw [joinL_succ]; exact H7.out.1), Lib.hid (HB.out.trans H7.out.2)⟩
     case measure => simp [intOf]; omega
    ·obtain rfl : i = k := by omega
     go_wp2_with fail
     go_ret
     exact ⟨_, rfl, HO.out, HB.out⟩
theorem grow_B (n : Nat) (hn : n ≤ 100000) (w : World) :
  Calls Tryz.prog 171 #[.slice none 0 0, .int .i64 (n : Int)] w fun e w' => ∃ v, e = .returned v ∧ Gr.OwnG 5 1 csB w' w.heap.size v ([] : List Nat) ∧ Below w.heap.size w w' := by
 by_cases h0 : n = 0
 ·subst h0
  go_enter Tryz.func171, Tryz.ntmps171
  go_wp2_with fail
  go_ret
  exact ⟨_, rfl, Gr.OwnG.nil _ _, Below.refl _ _⟩
 ·have t1 : (0 : Int) < (n : Int) := by omega
  have t2 : ((n : Int) < 0) = False := by simp
  have hs1 := fun W => slice_nil (T := 41) Tryz.underlying41 sizeOf_u8 (by kernel_rfl) W
  have hs2 := fun b n c W => slice_zero (T := 41) Tryz.underlying41 sizeOf_u8 (by kernel_rfl) b n c W
  have hz := fun ty => zeros_g (α := Nat) (cs := csB) (T := 41) Tryz.underlying41 info_u8 rfl (by omega) n (by omega) hn ty w
  go_enter Tryz.func171, Tryz.ntmps171
  go_wp2_with (at_builtin; (obtain ⟨C, W, h1, h2, h3⟩ := hz _); refine Lib.wpList_append_run _ rfl (.tmp 20) (.tmp 21) _ _ rfl _ _ rfl rfl _ _ h1 ?_; have H2 := Lib.hid h2; have H3 := Lib.hid h3; clear h1 h2 h3 hz)
  go_ret
  exact ⟨_, rfl, H2.out, H3.out⟩
set_option maxHeartbeats 1600000 in
theorem concat_B (b o K cc : Nat) (A : Nat → Option Addr) (L : Nat → List Nat) (c : Nat → Nat) (w : World) (hb : b < w.heap.size) (hK : K ≤ 100000) (hd : ∀ j, j < K → w.cell? ⟨b, o + j, none⟩ = some (.slice (A j) (L j).length (c j)) ∧ Gr.RdG 1 csB w (A j) (L j) ∧ (A j = none → c j = 0)) (hl : (joinL L K).length ≤ 100000) :
  Calls Tryz.prog 144 #[.slice (some ⟨b, o, none⟩) K cc] w fun e w' => ∃ v, e = .returned v ∧ Gr.OwnG 5 1 csB w' w.heap.size v (joinL L K) ∧ Below w.heap.size w w' := by
 have HD := Lib.hid hd
 have HL := Lib.hid hl
 clear hd hl
 go_enter Tryz.func144, Tryz.ntmps144
 go_wp2_with fail
 go_loopw [3, 11] (fun s y wr => ∃ k : Nat, k ≤ K ∧ y = .int .i64 (k : Int) ∧ s = .int .i64 (((joinL L k).length : Nat) : Int) ∧ wr = w) (fun _ y _ => K - (intOf y).toNat)
 case atStart => exact ⟨0, Nat.zero_le _, rfl, rfl, rfl⟩
 case round =>
  obtain ⟨k, hk, rfl, rfl, hwr⟩ := hrel
  have hwr := hwr.symm
  subst hwr
  by_cases hlt : k < K
  ·obtain ⟨d1, _, _⟩ := HD.out k hlt
   have hle := joinL_le L (show k + 1 ≤ K by omega)
   have hle2 := HL.out
   have hsu : (joinL L (k + 1)).length = (joinL L k).length + (L k).length := by rw [joinL_succ, List.length_append]
   generalize hjk : (joinL L k).length = jk at *
   generalize hlk : (L k).length = lk at *
   have hb1 : jk + lk ≤ 100000 := by omega
   have HJ := Lib.hid hjk
   have HK2 := Lib.hid hlk
   clear hle hle2 hsu hjk hlk
   go_wp2_with fail
   go_roundw
   case rel => exact ⟨k + 1, by omega, by go_num, by rw [joinL_succ, List.length_append, HJ.out, HK2.out]; go_num, by first | rfl | trivial⟩
   case measure => simp [intOf]; omega
  ·obtain rfl : k = K := by omega
   have HG := Lib.hid (grow_B _ HL.out w)
   generalize hJ : (joinL L k).length = jk at *
   have HJ := Lib.hid hJ
   clear hJ
   go_wp2_with fail
   refine HG.out.mono ?_
   rintro e w2 ⟨v2, rfl, h2, b2⟩
   have H2 := Lib.hid h2
   have B2 := Lib.hid b2
   clear h2 b2
   go_wp2_with fail
   obtain ⟨w0, hw0⟩ : ∃ w0, w0 = w := ⟨_, rfl⟩
   have HW0 := Lib.hid hw0
   clear hw0
   go_loopw [6, 27] (fun s y wr => ∃ i : Nat, i ≤ k ∧ y = .int .i64 (i : Int) ∧ Hid (Gr.OwnG 5 1 csB wr w.heap.size s (joinL L i)) ∧ Hid (Below w.heap.size w wr)) (fun _ y _ => k - (intOf y).toNat)
   case atStart => exact ⟨0, Nat.zero_le _, rfl, H2, B2⟩
   case round =>
    clear H2 B2
    obtain ⟨i, hi, rfl, HO, HB⟩ := hrel
    by_cases hli : i < k
    ·obtain ⟨d1, d2, d3⟩ := HD.out i hli
     have d1 : wr.cell? ⟨b, o + i, none⟩ = some (.slice (A i) (L i).length (c i)) := (HB.out.cell (p := ⟨b, o + i, none⟩) hb).trans d1
     have D2 := Lib.hid (d2.below HB.out)
     have D3 := Lib.hid d3
     have HLL : Hid ((joinL L i).length + (L i).length ≤ 1000000) := Lib.hid (by
      have h1 := joinL_le L (show i + 1 ≤ k by omega)
      have h2 := HL.out
      rw [joinL_succ, List.length_append, HJ.out] at h1
      omega)
     generalize hln : (L i).length = ln at *
     have HLN := Lib.hid hln
     clear d2 d3 hln
     go_wp2_with (at_builtin; refine Arr.wpList_app_g rfl 41 (.tmp 31) (.tmp 32) rfl rfl rfl (fun ty => app_g (fun _ => rfl) (fun x u hu => by simp [csB] at hu; subst hu; rfl) Tryz.underlying41 info_u8 rfl (by omega) HO.out (L i) HLN.out.symm D2.out D3.out (by rw [HLN.out]; exact HLL.out) HB.out.size ty) ?_; intro v7 W7 h7; refine of_hid ?_)
     refine Lib.hid ?_
     have H7 := Lib.hid h7
     clear h7
     go_wp2_with fail
     go_roundw
     case rel => exact ⟨i + 1, by omega, by go_num, Lib.hid (by rw [joinL_succ]; exact H7.out.1), Lib.hid (HB.out.trans H7.out.2)⟩
     case measure => simp [intOf]; omega
    ·obtain rfl : i = k := by omega
     go_wp2_with fail
     go_ret
     exact ⟨_, rfl, HO.out, HB.out⟩
theorem grow_N (n : Nat) (hn : n ≤ 100000) (w : World) :
  Calls Tryz.prog 116 #[.slice none 0 0, .int .i64 (n : Int)] w fun e w' => ∃ v, e = .returned v ∧ Gr.OwnG 3 1 Nr.csN w' w.heap.size v ([] : List Nat) ∧ Below w.heap.size w w' := by
 by_cases h0 : n = 0
 ·subst h0
  go_enter Tryz.func116, Tryz.ntmps116
  go_wp2_with fail
  go_ret
  exact ⟨_, rfl, Gr.OwnG.nil _ _, Below.refl _ _⟩
 ·have t1 : (0 : Int) < (n : Int) := by omega
  have t2 : ((n : Int) < 0) = False := by simp
  have hs1 := fun W => slice_nil (T := 22) Tryz.underlying22 Nr.sizeOf_int (by kernel_rfl) W
  have hs2 := fun b n c W => slice_zero (T := 22) Tryz.underlying22 Nr.sizeOf_int (by kernel_rfl) b n c W
  have hz := fun ty => zeros_g (α := Nat) (cs := Nr.csN) (T := 22) Tryz.underlying22 Ir.info_int rfl (by omega) n (by omega) hn ty w
  go_enter Tryz.func116, Tryz.ntmps116
  go_wp2_with (at_builtin; (obtain ⟨C, W, h1, h2, h3⟩ := hz _); refine Lib.wpList_append_run _ rfl (.tmp 20) (.tmp 21) _ _ rfl _ _ rfl rfl _ _ h1 ?_; have H2 := Lib.hid h2; have H3 := Lib.hid h3; clear h1 h2 h3 hz)
  go_ret
  exact ⟨_, rfl, H2.out, H3.out⟩
set_option maxHeartbeats 1600000 in
theorem concat_N (b o K cc : Nat) (A : Nat → Option Addr) (L : Nat → List Nat) (c : Nat → Nat) (w : World) (hb : b < w.heap.size) (hK : K ≤ 100000) (hd : ∀ j, j < K → w.cell? ⟨b, o + j, none⟩ = some (.slice (A j) (L j).length (c j)) ∧ Gr.RdG 1 Nr.csN w (A j) (L j) ∧ (A j = none → c j = 0)) (hl : (joinL L K).length ≤ 100000) :
  Calls Tryz.prog 79 #[.slice (some ⟨b, o, none⟩) K cc] w fun e w' => ∃ v, e = .returned v ∧ Gr.OwnG 3 1 Nr.csN w' w.heap.size v (joinL L K) ∧ Below w.heap.size w w' := by
 have HD := Lib.hid hd
 have HL := Lib.hid hl
 clear hd hl
 go_enter Tryz.func79, Tryz.ntmps79
 go_wp2_with fail
 go_loopw [3, 11] (fun s y wr => ∃ k : Nat, k ≤ K ∧ y = .int .i64 (k : Int) ∧ s = .int .i64 (((joinL L k).length : Nat) : Int) ∧ wr = w) (fun _ y _ => K - (intOf y).toNat)
 case atStart => exact ⟨0, Nat.zero_le _, rfl, rfl, rfl⟩
 case round =>
  obtain ⟨k, hk, rfl, rfl, hwr⟩ := hrel
  have hwr := hwr.symm
  subst hwr
  by_cases hlt : k < K
  ·obtain ⟨d1, _, _⟩ := HD.out k hlt
   have hle := joinL_le L (show k + 1 ≤ K by omega)
   have hle2 := HL.out
   have hsu : (joinL L (k + 1)).length = (joinL L k).length + (L k).length := by rw [joinL_succ, List.length_append]
   generalize hjk : (joinL L k).length = jk at *
   generalize hlk : (L k).length = lk at *
   have hb1 : jk + lk ≤ 100000 := by omega
   have HJ := Lib.hid hjk
   have HK2 := Lib.hid hlk
   clear hle hle2 hsu hjk hlk
   go_wp2_with fail
   go_roundw
   case rel => exact ⟨k + 1, by omega, by go_num, by rw [joinL_succ, List.length_append, HJ.out, HK2.out]; go_num, by first | rfl | trivial⟩
   case measure => simp [intOf]; omega
  ·obtain rfl : k = K := by omega
   have HG := Lib.hid (grow_N _ HL.out w)
   generalize hJ : (joinL L k).length = jk at *
   have HJ := Lib.hid hJ
   clear hJ
   go_wp2_with fail
   refine HG.out.mono ?_
   rintro e w2 ⟨v2, rfl, h2, b2⟩
   have H2 := Lib.hid h2
   have B2 := Lib.hid b2
   clear h2 b2
   go_wp2_with fail
   obtain ⟨w0, hw0⟩ : ∃ w0, w0 = w := ⟨_, rfl⟩
   have HW0 := Lib.hid hw0
   clear hw0
   go_loopw [6, 27] (fun s y wr => ∃ i : Nat, i ≤ k ∧ y = .int .i64 (i : Int) ∧ Hid (Gr.OwnG 3 1 Nr.csN wr w.heap.size s (joinL L i)) ∧ Hid (Below w.heap.size w wr)) (fun _ y _ => k - (intOf y).toNat)
   case atStart => exact ⟨0, Nat.zero_le _, rfl, H2, B2⟩
   case round =>
    clear H2 B2
    obtain ⟨i, hi, rfl, HO, HB⟩ := hrel
    by_cases hli : i < k
    ·obtain ⟨d1, d2, d3⟩ := HD.out i hli
     have d1 : wr.cell? ⟨b, o + i, none⟩ = some (.slice (A i) (L i).length (c i)) := (HB.out.cell (p := ⟨b, o + i, none⟩) hb).trans d1
     have D2 := Lib.hid (d2.below HB.out)
     have D3 := Lib.hid d3
     have HLL : Hid ((joinL L i).length + (L i).length ≤ 1000000) := Lib.hid (by
      have h1 := joinL_le L (show i + 1 ≤ k by omega)
      have h2 := HL.out
      rw [joinL_succ, List.length_append, HJ.out] at h1
      omega)
     generalize hln : (L i).length = ln at *
     have HLN := Lib.hid hln
     clear d2 d3 hln
     go_wp2_with (at_builtin; refine Arr.wpList_app_g rfl 22 (.tmp 31) (.tmp 32) rfl rfl rfl (fun ty => app_g (fun _ => rfl) (fun x u hu => by simp [Nr.csN] at hu; subst hu; rfl) Tryz.underlying22 Ir.info_int rfl (by omega) HO.out (L i) HLN.out.symm D2.out D3.out (by rw [HLN.out]; exact HLL.out) HB.out.size ty) ?_; intro v7 W7 h7; refine of_hid ?_)
     refine Lib.hid ?_
     have H7 := Lib.hid h7
     clear h7
     go_wp2_with fail
     go_roundw
     case rel => exact ⟨i + 1, by omega, by go_num, Lib.hid (by rw [joinL_succ]; exact H7.out.1), Lib.hid (HB.out.trans H7.out.2)⟩
     case measure => simp [intOf]; omega
    ·obtain rfl : i = k := by omega
     go_wp2_with fail
     go_ret
     exact ⟨_, rfl, HO.out, HB.out⟩
end Cc
end Go.Proofs.YtkbndlnmbbbohaaGreatDoor
