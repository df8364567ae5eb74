/-
 The document's rack by contracts: New. No conditions beyond those that each theorem types.
-/
import Derived.Test.YtkbndlnmbbbohaaGreatDoorRefAnewM
import Derived.Test.YtkbndlnmbbbohaaGreatDoorRackWriteM
import Derived.Test.YtkbndlnmbbbohaaGreatDoorStoRecallM
import Derived.Test.YtkbndlnmbbbohaaGreatDoorArrCallsM
namespace Go.Proofs.YtkbndlnmbbbohaaGreatDoor
open Go Go.RowKit
set_option maxRecDepth 100000
set_option linter.unusedVariables false
namespace refRack
theorem info_headR : (Tryz.prog.info? 178).map (fun i => (i.zero, i.size, i.bytes)) = some (some (.slice none 0 0), 1, 24) := by kernel_rfl
theorem info_boolR : (Tryz.prog.info? 4).map (fun i => (i.zero, i.size, i.bytes)) = some (some (.bool false), 1, 1) := by kernel_rfl
theorem bs_heads (A : Option Addr) (n c : Nat) (w : World) : (Instr.buildSlice 174 1 #[(0, .slice A n c)]).run Tryz.prog w = .ok (.slice (some ⟨w.heap.size, 0, none⟩) 1 1) (w.alloc (.cells #[.slice A n c] 178)) := by kernel_rfl
theorem wp_append_headR {w : World} {o : Oper} {a : Act} {K : Act → World → Prop} {Q : Exit → Act → World → Prop} (s x : Operand)
  (ho : o.op = .call { callee := .builtin .append, args := #[s, x], argTypes := #[174, 174] }) {base n c m c2 : Nat} {A : Option Addr} {v : Value} {xs : List Value} {ad : Addr} (hs : a.eval s = v) (hx : a.eval x = .slice (some ad) 1 c)
  (hown : w.ownsRow base 178 1 v n xs) (hnews : ∀ j u, [Value.slice A m c2][j]? = some u → w.cell? (ad.add j) = some u) (hn : n + 1 ≤ 2000000) (hb : base ≤ w.heap.size)
  (h : ∀ v' w', w'.ownsRow base 178 1 v' (n + 1) (xs ++ [Value.slice A m c2]) → w.grownBy w' v.ownBlock → K (a.put o.dst v') w') : o.wp Tryz.prog a w K Q := by
 obtain ⟨i0, hi, hz0, hz1, hz2⟩ := info_parts info_headR
 exact wp_append_own (P := Tryz.prog) w s x 174 ho base 178 i0 _ 1 24 Tryz.underlying174 hi hz0 hz1 hz2 rfl (by omega) v n xs hs hown ad 1 c [Value.slice A m c2] hx rfl hnews (fun u hu => by simp at hu; subst hu; rfl) (by unfold maxLen; omega) (by omega) hb fun v' w' h1 h2 _ => h v' w' h1 h2
theorem headL_push (i ns : Nat) (H C : Nat → Nat) (h2 c2 : Nat) : headL i H C ns ++ [.slice (some ⟨h2, 0, none⟩) ns c2] = headL (i + 1) (fun d => if d = i then h2 else H d) (fun d => if d = i then c2 else C d) ns := by
 apply List.ext_getElem?
 intro j
 have hl : (headL i H C ns).length = i := by simp [headL]
 by_cases h : j < i
 ·rw [List.getElem?_append_left (by omega), headL_get _ _ h, headL_get _ _ (by omega), if_neg (by omega), if_neg (by omega)]
 ·rw [List.getElem?_append_right (by omega), hl]
  by_cases e : j = i
  ·subst e
   rw [Nat.sub_self, headL_get _ _ (by omega), if_pos rfl, if_pos rfl]
   rfl
  ·rw [List.getElem?_eq_none (by simp; omega), List.getElem?_eq_none (by simp [headL]; omega)]
structure NK (B : Nat) (w : World) (g nd ns i : Nat) (vL : Value) (l1 : Nat) (H C : Nat → Nat) : Prop where
 blk : Blk w g 177 #[vL, .slice (some ⟨l1, 0, none⟩) nd nd, .slice none 0 0, .bool false, .int .i64 (-1)]
 hg : B ≤ g
 heads : w.ownsRow B 178 1 vL i (headL i H C ns)
 rows : ∀ d, d < i → w.ownsRow B 9 1 (.slice (some ⟨H d, 0, none⟩) ns (C d)) ns (textL ns fun _ => zeros)
 apart : ∀ d d', d < i → d' < i → d ≠ d' → H d ≠ H d'
 lost : w.ownsRow B 4 1 (.slice (some ⟨l1, 0, none⟩) nd nd) nd (boolL nd fun _ => false)
section
variable {B : Nat} {w w' : World} {g nd ns i l1 : Nat} {vL : Value} {H C : Nat → Nat}
theorem NK.le (h : NK B w g nd ns i vL l1 H C) : B ≤ w.heap.size := Nat.le_trans h.hg (Nat.le_of_lt h.blk.lt)
theorem NK.below (h : NK B w g nd ns i vL l1 H C) (hb : Below w.heap.size w w') : NK B w' g nd ns i vL l1 H C := by
 have ok : ∀ {n c : Nat} {e : TypeId} {v : Value} {xs : List Value}, w.ownsRow B e c v n xs → w'.ownsRow B e c v n xs := fun h1 => own_keep h1 fun k hk1 => hb.block k (own_lt h1 hk1).1
 exact ⟨(hb.block g h.blk.lt).trans h.blk, h.hg, ok h.heads, fun d hd => ok (h.rows d hd), h.apart, ok h.lost⟩
theorem NK.done (h : NK B w g nd ns nd vL l1 H C) : TK B w g (RS.new nd ns) vL (.slice (some ⟨l1, 0, none⟩) nd nd) (.slice none 0 0) H C :=
 ⟨h.blk, h.hg, h.heads, h.rows, h.apart, h.lost, ⟨rfl, .inl ⟨rfl, rfl⟩⟩⟩
theorem NK.push {h2 c2 B' : Nat} {v6 : Value} (h : NK B w g nd ns i vL l1 H C) (hrow : w.ownsRow B' 9 1 (.slice (some ⟨h2, 0, none⟩) ns c2) ns (textL ns fun _ => zeros)) (hB : B ≤ B') (hne : ∀ d', d' < i → H d' ≠ h2) (hg : w.grownBy w' vL.ownBlock)
  (hw : w'.ownsRow B 178 1 v6 (i + 1) (headL i H C ns ++ [.slice (some ⟨h2, 0, none⟩) ns c2])) :
  NK B (w'.setCell ⟨g, 0, none⟩ v6) g nd ns (i + 1) v6 l1 (fun d => if d = i then h2 else H d) (fun d => if d = i then c2 else C d) ∧ Below B w (w'.setCell ⟨g, 0, none⟩ v6) ∧ w'.cell? ⟨g, 0, none⟩ = some vL ∧ w'.frozen? ⟨g, 0, none⟩ = false := by
 have hbg : Blk w' g 177 #[vL, .slice (some ⟨l1, 0, none⟩) nd nd, .slice none 0 0, .bool false, .int .i64 (-1)] := (hg.block g h.blk.lt (fun e => own_not_blk h.heads h.blk rfl e.symm)).trans h.blk
 have ok : ∀ {B0 n c : Nat} {t : TypeId} {v : Value} {xs : List Value}, (t == 177) = false → (t == 178) = false → w.ownsRow B0 t c v n xs → (w'.setCell ⟨g, 0, none⟩ v6).ownsRow B0 t c v n xs := fun he he2 h1 => own_keep (own_keep (w' := w') h1 fun g1 hg1 => hg.block g1 (own_lt h1 hg1).1 (fun e => own_type h1 h.heads he2 hg1 e.symm)) fun g1 hg1 => Below.heap_setCell w' ⟨g, 0, none⟩ v6 g1 (fun e => own_not_blk h1 h.blk he (by rw [hg1]; exact congrArg some e))
 have hw2 : (w'.setCell ⟨g, 0, none⟩ v6).ownsRow B 178 1 v6 (i + 1) (headL i H C ns ++ [.slice (some ⟨h2, 0, none⟩) ns c2]) := own_keep hw fun g1 hg1 => Below.heap_setCell w' ⟨g, 0, none⟩ v6 g1 (fun e => own_not_blk hw hbg rfl (by rw [hg1]; exact congrArg some e))
 rw [headL_push] at hw2
 have b1 : Below B w w' := ⟨hg.os, hg.tape, hg.output, hg.size, fun k hk => hg.block k (by have := h.le; omega) (fun e => by have := (own_lt h.heads e.symm).2; omega)⟩
 refine ⟨⟨hbg.set_ 0 v6, h.hg, hw2, fun d hd => ?_, fun d1 d2 e1 e2 hne2 => ?_, ok rfl rfl h.lost⟩, b1.setCell (p := ⟨g, 0, none⟩) h.hg v6, hbg.cell 0, hbg.frozen 0⟩
 ·show (w'.setCell ⟨g, 0, none⟩ v6).ownsRow B 9 1 (.slice (some ⟨if d = i then h2 else H d, 0, none⟩) ns (if d = i then c2 else C d)) ns (textL ns fun _ => zeros)
  by_cases e : d = i
  ·simp only [if_pos e]
   exact ok rfl rfl (own_base hrow hB)
  ·simp only [if_neg e]
   exact ok rfl rfl (h.rows d (by omega))
 ·show (if d1 = i then h2 else H d1) ≠ (if d2 = i then h2 else H d2)
  by_cases q1 : d1 = i
  ·by_cases q2 : d2 = i
   ·omega
   ·rw [if_pos q1, if_neg q2]
    exact (hne d2 (by omega)).symm
  ·by_cases q2 : d2 = i
   ·rw [if_neg q1, if_pos q2]
    exact hne d1 (by omega)
   ·rw [if_neg q1, if_neg q2]
    exact h.apart d1 d2 (by omega) (by omega) hne2
end
theorem make_boolsR (n : Nat) (hn : n ≤ 70000) (w : World) (l : Int) (hl : l = (n : Int)) :
  (Instr.makeSlice 23 (.int .i64 l) (.int .i64 l)).run Tryz.prog w = .ok (.slice (some ⟨w.heap.size, 0, none⟩) n n) (w.alloc (.cells (Array.replicate n (.bool false)) 4)) := by
 subst hl
 obtain ⟨i0, hi, hz0, hz1, hz2⟩ := info_parts info_boolR
 have h := run_make (P := Tryz.prog) (w := w) 23 4 i0 (.bool false) Tryz.underlying23 hi hz0 .i64 .i64 (n : Int) (n : Int) (by omega) (by omega) (by rw [hz2]; omega) (by omega)
 rw [h, hz1, Int.toNat_natCast, Nat.mul_one]
 show _ = _
 rw [show (Value.bool false).cells = #[.bool false] from rfl, madeCells_one]
set_option maxHeartbeats 1600000 in
theorem new_k (w : World) (nd ns : Nat) (h1 : 1 ≤ nd) (h2 : nd ≤ 16) (hns0 : 0 < ns) (hns : ns ≤ 2000) :
  Calls Tryz.prog 47 #[.int .i64 (nd : Int), .int .i64 (ns : Int)] w fun e w' => ∃ g, e = .returned (.tuple #[.pointer (some ⟨g, 0, none⟩), .int .i64 0]) ∧ TAt w.heap.size w' g (RS.new nd ns) ∧ Below w.heap.size w w' := by
 have t1 : decide ((nd : Int) < 1) = false := by simp; omega
 have t2 : decide ((16 : Int) < (nd : Int)) = false := by simp; omega
 have t3 : decide ((ns : Int) < 1) = false := by simp; omega
 have t4 : decide ((2000 : Int) < (ns : Int)) = false := by simp; omega
 have mk := make_boolsR nd (by omega) w (nd : Int) rfl
 have bd : ∀ W, (Instr.build 177 #[(1, .slice (some ⟨w.heap.size, 0, none⟩) nd nd), (4, .int .i64 (-1))]).run Tryz.prog W = .ok (.agg #[.slice none 0 0, .slice (some ⟨w.heap.size, 0, none⟩) nd nd, .slice none 0 0, .bool false, .int .i64 (-1)]) W := fun W => by kernel_rfl
 have bA : Below w.heap.size w (w.alloc (.cells (Array.replicate nd (.bool false)) 4)) := (Below.refl _ _).alloc (Nat.le_refl _) _
 have bB := bA.alloc bA.size (.cells #[.slice none 0 0, .slice (some ⟨w.heap.size, 0, none⟩) nd nd, .slice none 0 0, .bool false, .int .i64 (-1)] 177)
 have hl0 : (w.alloc (.cells (Array.replicate nd (.bool false)) 4)).ownsRow w.heap.size 4 1 (.slice (some ⟨w.heap.size, 0, none⟩) nd nd) nd (boolL nd fun _ => false) := by
  have q := World.ownsRow_lit (base := w.heap.size) (e := 4) (size := 1) w (Array.replicate nd (.bool false)) nd (Nat.le_refl _) (by unfold maxLen; omega) (by simp)
  have e : (Array.replicate nd (Value.bool false)).toList = boolL nd fun _ => false := by
   apply List.ext_getElem?
   intro j
   by_cases hj : j < nd
   ·rw [boolL_get _ hj]; simp [hj]
   ·rw [List.getElem?_eq_none (by simp; omega), List.getElem?_eq_none (by simp [boolL]; omega)]
  rw [e] at q
  exact q
 have N0 : Hid (NK w.heap.size ((w.alloc (.cells (Array.replicate nd (.bool false)) 4)).alloc (.cells #[.slice none 0 0, .slice (some ⟨w.heap.size, 0, none⟩) nd nd, .slice none 0 0, .bool false, .int .i64 (-1)] 177)) (w.alloc (.cells (Array.replicate nd (.bool false)) 4)).heap.size nd ns 0 (.slice none 0 0) w.heap.size (fun _ => 0) (fun _ => 0)) := Lib.hid
  ⟨Blk.new _ _ _, bA.size, ⟨rfl, .inl ⟨rfl, rfl⟩⟩, fun d hd => absurd hd (Nat.not_lt_zero _), fun d d' hd => absurd hd (Nat.not_lt_zero _), own_keep hl0 fun g1 hg1 => Below.heap_alloc _ _ g1 (own_lt hl0 hg1).1⟩
 have L0 := Lib.hid bB
 clear bA bB hl0
 go_enter Tryz.func47, Tryz.ntmps47
 go_wp2_with fail
 have hsz : (w.alloc (.cells (Array.replicate nd (.bool false)) 4)).heap.size = w.heap.size + 1 := by simp
 rw [hsz] at N0
 clear mk bd t1 t2 t3 t4 hsz
 generalize (w.alloc (.cells (Array.replicate nd (.bool false)) 4)).alloc (.cells #[.slice none 0 0, .slice (some ⟨w.heap.size, 0, none⟩) nd nd, .slice none 0 0, .bool false, .int .i64 (-1)] 177) = w0 at *
 obtain ⟨g, hg⟩ : ∃ g, g = w.heap.size + 1 := ⟨_, rfl⟩
 rw [← hg] at N0 ⊢
 clear hg
 go_loopw [7] (fun x wr => ∃ (i : Nat) (vL : Value) (H C : Nat → Nat), i ≤ nd ∧ x = .int .i64 i ∧ Hid (NK w.heap.size wr g nd ns i vL w.heap.size H C) ∧ Hid (Below w.heap.size w wr)) (fun x _ => nd - (intOf x).toNat)
 case atStart => exact ⟨0, _, _, _, by omega, rfl, N0, L0⟩
 case round =>
  obtain ⟨i, vL, H, C, hi, rfl, N1, L1⟩ := hrel
  clear N0 L0
  by_cases hlt : i < nd
  ·have i1 : (i : Int) < (nd : Int) := by omega
   have HT := Lib.hid (N1.out.below (w' := wr.drew) (Below.refl _ _).drew)
   have L3 := Lib.hid L1.out.drew
   have HS : Hid (wr.drew.cell? ⟨g, 0, none⟩ = some vL) := Lib.hid (N1.out.blk.cell 0)
   clear N1 L1
   go_wp2_with fail
   refine region_anyZ (fun w' => w'.cell? ⟨g, 0, none⟩ = some vL) 11 (by kernel_rfl) ?_
   refine takeG 0 (.move (.tmp 6)) (some 31) none (.pointer (some ⟨g, 0, none⟩)) (by kernel_rfl) (by kernel_rfl) (by kernel_rfl) (fun _ _ _ h => h) (fun o wq e hS => exec_move wq e (by kernel_rfl)) HS.out ?_
   refine takeG 1 (.move (.tmp 6)) (some 32) none (.pointer (some ⟨g, 0, none⟩)) (by kernel_rfl) (by kernel_rfl) (by kernel_rfl) (fun _ _ _ h => h) (fun o wq e hS => exec_move wq e (by kernel_rfl)) HS.out ?_
   refine takeG 2 (.nilCheck (.tmp 32)) (some 33) none (.pointer (some ⟨g, 0, none⟩)) (by kernel_rfl) (by kernel_rfl) (by kernel_rfl) (fun _ _ _ h => h) (fun o wq e hS => exec_nil wq e (by kernel_rfl)) HS.out ?_
   refine takeG 3 (.fieldAddr 177 (.tmp 33) 0) (some 34) none (.pointer (some ⟨g, 0, none⟩)) (by kernel_rfl) (by kernel_rfl) (by kernel_rfl) (fun _ _ _ h => h) (fun o wq e hS => exec_field (u := .pointer (some ⟨g, 0, none⟩)) wq e (by kernel_rfl) (by kernel_rfl)) HS.out ?_
   refine takeG 4 (.load 174 (.tmp 34)) (some 35) none (vL) (by kernel_rfl) (by kernel_rfl) (by kernel_rfl) (fun _ _ _ h => h) (fun o wq e hS => exec_load (x := (.tmp 34)) e (by kernel_rfl) (load_one Tryz.underlying174 (by kernel_rfl) hS)) HS.out ?_
   refine takeG 5 (.move (.tmp 1)) (some 36) none (.int .i64 (ns : Int)) (by kernel_rfl) (by kernel_rfl) (by kernel_rfl) (fun _ _ _ h => h) (fun o wq e hS => exec_move wq e (by kernel_rfl)) HS.out ?_
   refine loneG 6 (.call ⟨.value (.func 86), #[(.tmp 36)], #[3]⟩) (some 37) none (by kernel_rfl) (by kernel_rfl) (by kernel_rfl) ?_
   intro o ho hod
   refine wp_callC (f := 86) (args := #[.int .i64 (ns : Int)]) (by cases o; cases ho; kernel_rfl) (blank_k _ ns hns) ?_
   rintro e w4 ⟨v4, rfl, n4, b4⟩
   obtain ⟨h2, c2, rfl⟩ := own_some n4 hns0
   refine ⟨.slice (some ⟨h2, 0, none⟩) ns c2, rfl, ?_⟩
   rw [hod]
   clear hod ho
   have T4 := Lib.hid (HT.out.below b4)
   have N4 := Lib.hid n4
   have L4 := Lib.hid (L3.out.trans (b4.mono HT.out.le))
   have HB4 := Lib.hid HT.out.le
   have HNE : Hid (∀ d', d' < i → H d' ≠ h2) := Lib.hid fun d' hd' e => by
    have q1 := (own_lt (HT.out.rows d' hd') (g := H d') rfl).1
    have q2 := (own_lt n4 (g := h2) rfl).2
    omega
   have HS2 : Hid (w4.cell? ⟨g, 0, none⟩ = some vL) := Lib.hid (T4.out.blk.cell 0)
   clear n4 b4
   refine ⟨fun _ => HS2.out, ?_⟩
   refine loneG 7 (.buildSlice 174 1 #[(0, (.tmp 37))]) (some 38) none (by kernel_rfl) (by kernel_rfl) (by kernel_rfl) ?_
   intro o ho hod
   refine wp_val (exec_buildSlice1 ho (u := .slice (some ⟨h2, 0, none⟩) ns c2) (by kernel_rfl) (bs_heads _ _ _ _)) ?_
   rw [hod]
   clear hod ho
   have b5 : Below w4.heap.size w4 (w4.alloc (.cells #[.slice (some ⟨h2, 0, none⟩) ns c2] 178)) := (Below.refl _ _).alloc (Nat.le_refl _) _
   have T5 := Lib.hid (T4.out.below b5)
   have N5 := Lib.hid (own_keep N4.out (w' := w4.alloc (.cells #[.slice (some ⟨h2, 0, none⟩) ns c2] 178)) fun g1 hg1 => b5.block g1 (own_lt N4.out hg1).1)
   have L5 := Lib.hid (L4.out.trans (b5.mono L4.out.size))
   have HW5 : Hid (∀ j u, [Value.slice (some ⟨h2, 0, none⟩) ns c2][j]? = some u → (w4.alloc (.cells #[.slice (some ⟨h2, 0, none⟩) ns c2] 178)).cell? ((⟨w4.heap.size, 0, none⟩ : Addr).add j) = some u) := Lib.hid (cell_one_new w4 (.slice (some ⟨h2, 0, none⟩) ns c2) 178)
   have HS3 : Hid ((w4.alloc (.cells #[.slice (some ⟨h2, 0, none⟩) ns c2] 178)).cell? ⟨g, 0, none⟩ = some vL) := Lib.hid (T5.out.blk.cell 0)
   clear b5 T4 N4
   refine ⟨fun _ => HS3.out, ?_⟩
   refine loneG 8 (.call ⟨.builtin .append, #[(.tmp 35), (.tmp 38)], #[174, 174]⟩) (some 39) none (by kernel_rfl) (by kernel_rfl) (by kernel_rfl) ?_
   intro o ho hod
   refine wp_append_headR (c := 1) (.tmp 35) (.tmp 38) ho (by kernel_rfl) (by kernel_rfl) T5.out.heads HW5.out (by omega) T5.out.le ?_
   intro v6 w6 hw6 hg6
   rw [hod]
   clear hod ho
   obtain ⟨A6, c6, rfl⟩ := own_shape hw6
   obtain ⟨hp1, hp2, hp3, hp4⟩ := T5.out.push N5.out HB4.out HNE.out hg6 hw6
   have T6 := Lib.hid hp1
   have L6 := Lib.hid (L5.out.trans hp2)
   have HS4 := Lib.hid hp3
   have FZ := Lib.hid hp4
   clear hp1 hp2 hp3 hp4 hw6 hg6 T5 N5 L5 HW5 HS3 HS2 HNE HB4
   refine ⟨fun _ => HS4.out, ?_⟩
   refine loneG 9 (.nilCheck (.tmp 31)) (some 40) none (by kernel_rfl) (by kernel_rfl) (by kernel_rfl) ?_
   intro o ho hod
   refine wp_val (v := .pointer (some ⟨g, 0, none⟩)) (exec_nil _ ho (by kernel_rfl)) ?_
   rw [hod]
   clear hod ho
   refine ⟨fun _ => HS4.out, ?_⟩
   refine loneG 10 (.fieldAddr 177 (.tmp 40) 0) (some 41) none (by kernel_rfl) (by kernel_rfl) (by kernel_rfl) ?_
   intro o ho hod
   refine wp_val (v := .pointer (some ⟨g, 0, none⟩)) (exec_field (u := .pointer (some ⟨g, 0, none⟩)) _ ho (by kernel_rfl) (by kernel_rfl)) ?_
   rw [hod]
   clear hod ho
   refine ⟨fun _ => HS4.out, ?_⟩
   refine lastStore 11 174 (.tmp 41) (.tmp 39) (.pointer (some ⟨g, 0, none⟩)) (.slice A6 (i + 1) c6) _ (by kernel_rfl) (by kernel_rfl) (by kernel_rfl) rfl (by kernel_rfl) (by kernel_rfl) (store_one (by kernel_rfl) rfl rfl (by rw [HS4.out]; rfl) FZ.out (by rw [add_plain])) ?_
   simp only [put_some, put_none, List.setIfInBounds_toArray, List.set_cons_succ, List.set_cons_zero]
   clear HS HT L3 L4
   go_wp2_with fail
   go_roundw
   case rel => exact ⟨i + 1, _, _, _, by omega, by go_num, T6, L6⟩
   case measure => simp [intOf]; omega
  ·obtain rfl : nd = i := by omega
   have i1 : ¬ (nd : Int) < (nd : Int) := by omega
   clear hlt hi
   go_wp2_with fail
   go_ret2
   exact ⟨g, rfl, ⟨_, _, _, _, _, N1.out.done⟩, L1.out⟩
end refRack
end Go.Proofs.YtkbndlnmbbbohaaGreatDoor
namespace Go.Proofs.YtkbndlnmbbbohaaGreatDoor
open Go Go.RowKit refRack
set_option maxRecDepth 100000
set_option linter.unusedVariables false
namespace Sto
open Sp Arr
section
variable {B : Nat} {w w' : World}
set_option maxHeartbeats 1600000 in
theorem r6new (w : World) (q f : Nat) (s : RS) (h : TAt B w q s) (h5 : 5 ≤ s.nd) (hn : s.nd ≤ 16) (hf : f < s.ns) (hs : s.ns ≤ 2000) :
  Calls Tryz.prog 48 #[.pointer (some ⟨q, 0, none⟩), .int .i64 (f : Int)] w fun e w' => ∃ b, e = .returned (.tuple #[.pointer (some ⟨b, 0, none⟩), .int .i64 0]) ∧ Below w.heap.size w w' ∧ TAt B w' q s ∧ Blk w' b 181 #[.pointer (some ⟨q, 0, none⟩), .int .i64 (s.nd : Int), .int .i64 (f : Int)] := by
 have HT := Lib.hid h
 obtain ⟨vL, vG, vW, H, C, hk⟩ := h
 obtain ⟨l, c, rfl, q1, _⟩ := hk.head (d := 0) (by omega)
 have q0 := hk.c0
 obtain ⟨nd, hnd⟩ : ∃ nd, nd = s.nd := ⟨_, rfl⟩
 obtain ⟨ns, hns⟩ : ∃ ns, ns = s.ns := ⟨_, rfl⟩
 have HND := Lib.hid hnd
 rw [← hnd] at q0 h5 hn
 rw [← hns] at q1 hf hs
 rw [← hnd]
 have t1 : ¬ ((nd : Int) < 5) := by omega
 have t2 : ¬ ((f : Int) < 0) := by omega
 have t3 : ¬ ((ns : Int) ≤ (f : Int)) := by omega
 have t4 : (0 : Int) < (nd : Int) := by omega
 have t5 : 0 < nd := by omega
 clear hk hnd hns h5 hf
 go_enter Tryz.func48, Tryz.ntmps48
 go_wp2_with fail
 go_ret2
 refine ⟨w.heap.size, rfl, (Below.refl _ _).alloc (Nat.le_refl _) _, HT.out.below ((Below.refl _ _).alloc (Nat.le_refl _) _), Blk.new _ _ _⟩
set_option maxHeartbeats 1600000 in
theorem r7new (w : World) (C : Nat) (h1 : 1 ≤ C) (h2 : C ≤ 40000) :
  Calls Tryz.prog 87 #[.int .i64 (C : Int), .slice none 0 0] w fun e w' => ∃ b, e = .returned (.tuple #[.pointer (some ⟨b, 0, none⟩), .int .i64 0]) ∧ Below w.heap.size w w' := by
 have t1 : ¬ ((C : Int) < 1) := by omega
 have t2 : ¬ ((40000 : Int) < (C : Int)) := by omega
 have mk := Ir.make_ints C (by omega) w (C : Int) rfl
 go_enter Tryz.func87, Tryz.ntmps87
 go_wp2_with fail
 go_loopw [6] (fun y wr => y = .int .i64 0 ∧ wr = w) (fun _ _ => 0)
 case atStart => exact ⟨rfl, rfl⟩
 case round =>
  obtain ⟨rfl, hw⟩ := hrel
  rw [hw]
  clear hw
  go_wp2_with fail
  go_loopw [8] (fun y wr => y = .int .i64 0 ∧ Hid (Below w.heap.size w wr)) (fun _ _ => 0)
  case atStart => exact ⟨rfl, Lib.hid (((Below.refl _ _).alloc (Nat.le_refl _) _).alloc (by simp) _)⟩
  case round =>
   obtain ⟨rfl, HB⟩ := hrel
   go_wp2_with fail
   go_ret2
   exact ⟨_, rfl, HB.out⟩
set_option maxHeartbeats 1600000 in
theorem r6cells (w : World) (b q f : Nat) (s : RS) (h : TAt B w q s) (hb : Blk w b 181 #[.pointer (some ⟨q, 0, none⟩), .int .i64 (s.nd : Int), .int .i64 (f : Int)]) (h5 : 5 ≤ s.nd) (hn : s.nd ≤ 16) (hf : f < s.ns) (hs : s.ns ≤ 2000) :
  Calls Tryz.prog 88 #[.pointer (some ⟨b, 0, none⟩)] w fun e w' => e = .returned (.int .i64 ((Arr.cells s f : Nat) : Int)) ∧ ∃ n, w' = w.drewN n := by
 obtain ⟨vL, vG, vW, H, C, hk⟩ := h
 obtain ⟨l, c, rfl, q1, _⟩ := hk.head (d := 0) (by omega)
 have q0 := hk.c0
 have b0 : w.cell? ⟨b, 0, none⟩ = some (.pointer (some ⟨q, 0, none⟩)) := hb.cell 0
 have b1 : w.cell? ⟨b, 1, none⟩ = some (.int .i64 (s.nd : Int)) := hb.cell 1
 have b2 : w.cell? ⟨b, 2, none⟩ = some (.int .i64 (f : Int)) := hb.cell 2
 have HC : Hid (((Arr.cells s f : Nat) : Int) = (s.nd : Int) * ((s.ns : Int) - (f : Int))) := Lib.hid (by
  unfold Arr.cells
  rw [Int.natCast_mul, Int.natCast_sub (Nat.le_of_lt hf)])
 obtain ⟨nd, hnd⟩ : ∃ nd, nd = s.nd := ⟨_, rfl⟩
 obtain ⟨ns, hns⟩ : ∃ ns, ns = s.ns := ⟨_, rfl⟩
 rw [← hnd] at q0 h5 hn b1
 rw [← hns] at q1 hf hs
 rw [← hnd, ← hns] at HC
 rw [HC.out]
 have hmu : (0 : Int) ≤ (nd : Int) * ((ns : Int) - (f : Int)) ∧ (nd : Int) * ((ns : Int) - (f : Int)) ≤ 32000 := by
  have e : (nd : Int) * ((ns : Int) - (f : Int)) = ((nd * (ns - f) : Nat) : Int) := by rw [Int.natCast_mul, Int.natCast_sub (Nat.le_of_lt hf)]
  have h1 : nd * (ns - f) ≤ 16 * 2000 := Nat.mul_le_mul hn (by omega)
  omega
 have t4 : (0 : Int) < (nd : Int) := by omega
 have t5 : 0 < nd := by omega
 have i1 : I64 ((ns : Int) - (f : Int)) := by unfold I64; omega
 have i2 : I64 ((nd : Int) * ((ns : Int) - (f : Int))) := by unfold I64; omega
 clear hk hnd hns h5 hb HC
 obtain ⟨wr, hwr⟩ : ∃ wr, wr = w := ⟨_, rfl⟩
 rw [← hwr] at q0 q1 b0 b1 b2 ⊢
 clear hwr
 go_enter Tryz.func88, Tryz.ntmps88
 go_wp2_with fail
 go_quiet (fail)
 go_wp2_with fail
 go_ret
 exact ⟨rfl, _, rfl⟩
set_option maxHeartbeats 1600000 in
theorem r9new (w : World) (b q f tx : Nat) (s : RS) (h : TAt B w q s) (hb : Blk w b 181 #[.pointer (some ⟨q, 0, none⟩), .int .i64 (s.nd : Int), .int .i64 (f : Int)]) (h5 : 5 ≤ s.nd) (hn : s.nd ≤ 16) (hf : f < s.ns) (hs : s.ns ≤ 2000) (ht : 1 ≤ tx) (ht2 : tx ≤ 1000000000) :
  Calls Tryz.prog 49 #[.pointer (some ⟨b, 0, none⟩), .slice none 0 0, .int .i64 (tx : Int)] w fun e w' => ∃ g, e = .returned (.tuple #[.pointer (some ⟨g, 0, none⟩), .int .i64 0]) ∧ Below w.heap.size w w' := by
 have hc1 : 1 ≤ Arr.cells s f := by
  unfold Arr.cells
  exact Nat.le_trans (by omega) (Nat.mul_le_mul (show 1 ≤ s.nd by omega) (show 1 ≤ s.ns - f by omega))
 have hc2 : Arr.cells s f ≤ 40000 := by
  have h1 : s.nd * (s.ns - f) ≤ 16 * 2000 := Nat.mul_le_mul hn (by omega)
  unfold Arr.cells
  omega
 have HC := Lib.hid (r6cells w b q f s h hb h5 hn hf hs)
 have HN := Lib.hid (fun d => r7new (w.drewN d) (Arr.cells s f) hc1 hc2)
 have t1 : ¬ ((tx : Int) < 1) := by omega
 clear h hb h5 hn hf hs hc1 hc2
 go_enter Tryz.func49, Tryz.ntmps49
 go_wp2_with fail
 refine HC.out.mono ?_
 rintro e w1 ⟨rfl, d, rfl⟩
 go_wp2_with fail
 refine (HN.out d).mono ?_
 rintro e w2 ⟨g, rfl, b2⟩
 have B2 := Lib.hid ((below_drewN (Below.refl w.heap.size w) d).trans b2)
 clear b2
 go_wp2_with fail
 go_ret2
 exact ⟨_, rfl, B2.out.trans ((Below.refl w2.heap.size w2).alloc (Nat.le_refl _) _ |>.mono B2.out.size)⟩
set_option maxHeartbeats 800000 in
theorem fresh_any (w : World) (D N tx : Nat) (h5 : 5 ≤ D) (h16 : D ≤ 16) (h2 : 2 ≤ N) (h20 : N ≤ 2000) (ht : 1 ≤ tx) (ht2 : tx ≤ 1000000000) :
  Calls Tryz.prog 19 #[.int .i64 (D : Int), .int .i64 (N : Int), .slice none 0 0, .int .i64 (tx : Int)] w fun e w' => ∃ g r a p sp m wd, e = .returned (.tuple #[.pointer (some ⟨g, 0, none⟩), .bool true, .bool true]) ∧
   Blk w' g 60 #[.pointer (some ⟨r, 0, none⟩), .pointer (some ⟨p, 0, none⟩), .pointer (some ⟨wd, 0, none⟩), .slice none 0 0] ∧ StoV w.heap.size w' p a r sp m 0 (.slice none 0 0) (new0 (RS.new D N) 1 tx) ∧ Keep w.heap.size w w' := by
 have HN := Lib.hid (new_any w D N (by omega) h16 (by omega) h20)
 have HB := Lib.hid (⟨h5, h16, h2, h20, ht, ht2⟩ : _ ∧ _ ∧ _ ∧ _ ∧ _ ∧ _)
 clear h5 h16 h2 h20 ht ht2
 go_enter Tryz.func19, Tryz.ntmps19
 go_wp2_with fail
 refine HN.out.mono ?_
 rintro e w1 ⟨⟨r, rfl, h1⟩, k1⟩
 have R1 := Lib.hid h1
 have K1 := Lib.hid k1
 have HQ := Lib.hid (new_k w1 D N (by have := HB.out.1; omega) HB.out.2.1 (by have := HB.out.2.2.1; omega) HB.out.2.2.2.1)
 clear h1 k1 HN
 go_wp2_with fail
 refine HQ.out.mono ?_
 rintro e w2 ⟨q, rfl, t2, b2⟩
 have T2 := Lib.hid t2
 have R2 := Lib.hid (R1.out.below b2)
 have K2 := Lib.hid (K1.out.new b2 R1.out.le)
 have HA := Lib.hid (new_ok w2 R2.out (f := 1) (by have := HB.out.1; exact this) (by have := HB.out.2.2.1; show 1 < N; omega))
 clear t2 b2 HQ R1 K1
 go_wp2_with fail
 refine HA.out.mono ?_
 rintro e w3 ⟨rfl, hw3, a3, k3⟩
 have B3 : Hid (Below w2.heap.size w2 w3) := Lib.hid (by rw [hw3]; exact (Below.refl _ _).alloc (Nat.le_refl _) _)
 clear hw3 HA
 obtain ⟨a, ha⟩ : ∃ a, a = w2.heap.size := ⟨_, rfl⟩
 rw [← ha] at a3 ⊢
 have A3 := Lib.hid a3
 have K3 := Lib.hid (K2.out.trans k3)
 have T3 := Lib.hid (T2.out.below B3.out)
 have HR6 := Lib.hid (r6new w3 q 1 (RS.new D N) T3.out (by have := HB.out.1; exact this) HB.out.2.1 (by have := HB.out.2.2.1; show 1 < N; omega) HB.out.2.2.2.1)
 clear a3 k3 ha T2 R2 K2 B3
 go_wp2_with fail
 refine HR6.out.mono ?_
 rintro e w4 ⟨b, rfl, b4, t4, x4⟩
 have A4 := Lib.hid (A3.out.grown_ b4)
 have K4 := Lib.hid (K3.out.new b4 A3.out.rack.le)
 have T4 := Lib.hid t4
 have X4 := Lib.hid x4
 have HC1 : Hid (1 ≤ Arr.cells (RS.new D N) 1) := Lib.hid (by
  show 1 ≤ D * (N - 1)
  exact Nat.le_trans (by omega) (Nat.mul_le_mul (show 1 ≤ D by have := HB.out.1; omega) (show 1 ≤ N - 1 by have := HB.out.2.2.1; omega)))
 have HST := Lib.hid (stonew_any w4 A4.out tx HB.out.2.2.2.2.1 HB.out.2.2.2.2.2 HC1.out)
 clear b4 t4 x4 HR6 A3 K3 T3
 go_wp2_with fail
 go_loopw [19, 20] (fun z y wr => z = .slice none 0 0 ∧ y = .int .i64 0 ∧ wr = w4) (fun _ _ _ => 0)
 case atStart => exact ⟨rfl, rfl, rfl⟩
 case round =>
  obtain ⟨rfl, rfl, hw⟩ := hrel
  rw [hw]
  clear hw
  go_wp2_with fail
  refine HST.out.mono ?_
  rintro e w5 ⟨p, sp, m, rfl, s5, b5⟩
  have S5 := Lib.hid s5
  have K5 := Lib.hid (K4.out.new b5 A4.out.rack.le)
  have T5 := Lib.hid (T4.out.below b5)
  have X5 := Lib.hid (X4.out.below b5 X4.out.lt)
  have H9 := Lib.hid (r9new w5 b q 1 tx (RS.new D N) T5.out X5.out (by have := HB.out.1; exact this) HB.out.2.1 (by have := HB.out.2.2.1; show 1 < N; omega) HB.out.2.2.2.1 HB.out.2.2.2.2.1 HB.out.2.2.2.2.2)
  clear s5 b5 HST A4 K4 T4 X4
  go_wp2_with fail
  refine H9.out.mono ?_
  rintro e w6 ⟨wd, rfl, b6⟩
  have S6 := Lib.hid (S5.out.below b6)
  have K6 := Lib.hid (K5.out.new b6 S5.out.le)
  clear b6 H9 S5 K5 T5 X5
  go_wp2_with fail
  refine bodyPost_ret (results_tmp3 rfl _ _ _) rfl ?_
  have hb := (Below.refl w6.heap.size w6).alloc (Nat.le_refl _) (.cells #[.pointer (some ⟨r, 0, none⟩), .pointer (some ⟨p, 0, none⟩), .pointer (some ⟨wd, 0, none⟩), .slice none 0 0] 60)
  exact ⟨w6.heap.size, r, a, p, sp, m, wd, rfl, Blk.new _ _ _, S6.out.below hb, K6.out.new hb S6.out.le⟩
end
end Sto
end Go.Proofs.YtkbndlnmbbbohaaGreatDoor
namespace Go.Proofs.YtkbndlnmbbbohaaGreatDoor
open Go Go.RowKit refRack
set_option maxRecDepth 100000
set_option linter.unusedVariables false
namespace Sto
open Sp Arr
def frontL (k C : Nat) : List Rg := if k < C then [(k, C)] else []
theorem mem_front (k C x : Nat) : Sp.mem (frontL k C) x ↔ k ≤ x ∧ x < C := by
 unfold frontL
 split
 ·exact mem_one k C x
 ·exact ⟨fun h => absurd h (mem_nil x), fun h => by omega⟩
theorem ris_front (k C : Nat) : Ris 0 (frontL k C) := by
 unfold frontL
 split
 ·next h => exact ⟨Nat.zero_le _, h, trivial⟩
 ·trivial
structure Front (s : SS) (k : Nat) : Prop where
 good : Sp.Good s
 kept : s.kept = 0
 s0 : s.S 0 = frontL k s.cells
 le : k ≤ s.cells
theorem Front.new {C : Nat} (h : Sp.Good (allFree C)) (hc : 1 ≤ C) : Front (allFree C) 0 := ⟨h, rfl, by
 show [(0, C)] = frontL 0 C
 unfold frontL
 rw [if_pos (by omega)], Nat.zero_le _⟩
theorem Front.step {s : SS} {k c : Nat} (h : Front s k) (hc : 1 ≤ c) (hk : k + c ≤ s.cells) : Sp.rowL c (s.S 0) = some k ∧ c + s.kept ≤ Sp.cnt (s.S 0) ∧ Front (s.mv 0 1 k (k + c)) (k + c) := by
 have e0 : s.S 0 = [(k, s.cells)] := by rw [h.s0, frontL, if_pos (by omega)]
 have hh : Sp.hasL k (k + c) (s.S 0) = true := (Ris.has (by omega) (h.good.ris 0 (by omega))).2 (fun x h1 h2 => by rw [h.s0, mem_front]; omega)
 have hg := h.good.mv (f := 0) (t := 1) (by omega) (by omega) (by omega) (by omega) hh
 refine ⟨?_, ?_, hg, h.kept, ?_, hk⟩
 ·rw [e0]; unfold Sp.rowL; rw [if_pos (by show c ≤ s.cells - k; omega)]
 ·rw [e0, h.kept]
  show c + 0 ≤ (s.cells - k) + 0
  omega
 ·refine Ris.uniq (hg.ris 0 (by omega)) (ris_front _ _) fun x => ?_
  rw [h.good.mv_mem (f := 0) (t := 1) (by omega) (by omega) (by omega) (by omega) hh 0 (by omega) x, mem_front]
  show (if k ≤ x ∧ x < k + c then 0 = 1 else Sp.mem (s.S 0) x) ↔ k + c ≤ x ∧ x < s.cells
  split
  ·next hx => exact ⟨fun h => absurd h (by omega), fun h => by omega⟩
  ·next hx =>
   rw [h.s0, mem_front]
   omega
structure Run (S : St) (N M k K : Nat) : Prop where
 like : Like (RS.new N M) S.s
 f : S.f = 1
 front : Front S.ss k
 all : S.ss.cells = Arr.cells S.s S.f
 few : S.mem.length ≤ 64
 cost : S.s.cost ≤ K
theorem Run.nd {S : St} {N M k K : Nat} (h : Run S N M k K) : S.s.nd = N := h.like.nd
theorem Run.cells {S : St} {N M k K : Nat} (h : Run S N M k K) : S.ss.cells = N * (M - 1) := by
 rw [h.all]
 unfold Arr.cells
 rw [h.like.nd, h.like.ns, h.f]
 rfl
theorem Run.new (N M tx : Nat) (h1 : 1 ≤ N) (h16 : N ≤ 16) (h2 : 2 ≤ M) (h3 : M ≤ 2000) (hg : Sp.Good (allFree (Arr.cells (RS.new N M) 1))) : Run (new0 (RS.new N M) 1 tx) N M 0 0 :=
 ⟨Like.refl _, rfl, Front.new hg (by
  show 1 ≤ N * (M - 1)
  exact Nat.le_trans (by omega) (Nat.mul_le_mul h1 (show 1 ≤ M - 1 by omega))), rfl, by show 0 ≤ 64; omega, Nat.le_refl _⟩
section
variable {B : Nat} {w w' : World} {p a r sp m : Nat} {v : Value} {S : St}
theorem put_run (w : World) (h : StoV B w p a r sp m 0 v S) (hl : Laid w) (hB : 0 < B) {N M k K : Nat} (hr : Run S N M k K) (htx : S.tx ≤ 1000000000) (hc3 : S.c3 ≤ 1000000)
  (g o n c : Nat) (dat : List Nat) (hd : Byt w (some ⟨g, o, none⟩) dat) (hn : n = dat.length) (h1 : 1 ≤ n) (hn2 : n ≤ 1024) (hnc : n ≤ c) (hcm : c ≤ maxLen) (hcost : K + Arr.cost N n ≤ 1000000) (hk : k + Arr.cost N n ≤ N * (M - 1)) (hp : 1 ≤ Arr.cost N n) :
  Calls Tryz.prog 11 #[.pointer (some ⟨p, 0, none⟩), .slice (some ⟨g, o, none⟩) n c] w fun e w' => e = .returned (.tuple #[.agg #[.int .i64 (k : Int), .int .i64 (n : Int), .int .i64 (S.tx : Int), .string (sumS n fun j => dat.getD j 0)], .int .i64 0]) ∧
   (∃ v' S' x, StoV B w' p a r sp m 0 v' S' ∧ Run S' N M (k + Arr.cost N n) (K + Arr.cost N n) ∧ S'.tx = S.tx ∧ S'.c0 = S.c0 ∧ S'.c1 = S.c1 ∧ S'.c2 = S.c2 ∧ S'.c3 = S.c3 + 1 ∧ (x.addr = (k : Int) ∧ x.sum = sumS n (fun j => dat.getD j 0) ∧ x.dat = dat) ∧ S'.mem = old (Sto.cut (k : Int) S.mem) ++ [x] ∧ S'.s = wrAll S.s 1 k (cellX N n fun j => dat.getD j 0) (Arr.cost N n)) ∧ KeepT B w w' := by
 have hst := hr.front.step hp (by rw [hr.cells]; exact hk)
 have hnd := hr.nd
 have hlk := wrAll_like S.s S.f k (cellX S.s.nd n fun j => dat.getD j 0) (Arr.cost S.s.nd n)
 rw [← hnd] at hst hcost
 refine (put_yes w h hl hB (hr.like.calm ⟨rfl, rfl⟩) (fun d => by rw [hr.like.gone]; rfl) hr.all hr.few htx hc3 g o n c dat hd hn h1 hn2 hnc hcm (by have := hr.cost; omega) k hst.1 hst.2.1).mono ?_
 rintro e w' ⟨rfl, ⟨x, v', hx1, hx2, hx3, hs⟩, hk'⟩
 refine ⟨rfl, ⟨v', _, x, hs, ⟨hr.like.trans hlk.1, hr.f, ?_, ?_, ?_, ?_⟩, rfl, rfl, rfl, rfl, rfl, ⟨hx1, hx2, hx3⟩, rfl, ?_⟩, hk'⟩
 ·have h3 := hst.2.2
  rw [hnd] at h3 ⊢
  exact h3
 ·show S.ss.cells = Arr.cells _ S.f
  rw [hlk.1.cells, hr.all]
 ·show (old (Sto.cut (k : Int) S.mem) ++ [x]).length ≤ 64
  have h4 := old_len (l := Sto.cut (k : Int) S.mem) (Nat.le_trans (cut_len _ _) hr.few)
  rw [List.length_append]
  show _ + 1 ≤ 64
  omega
 ·have h5 := hlk.2
  have h6 := hr.cost
  rw [← hnd]
  show (wrAll S.s S.f k (cellX S.s.nd n fun j => dat.getD j 0) (Arr.cost S.s.nd n)).cost ≤ _
  omega
 ·show wrAll S.s S.f k (cellX S.s.nd n fun j => dat.getD j 0) (Arr.cost S.s.nd n) = _
  rw [hr.f, hnd]
end
end Sto
end Go.Proofs.YtkbndlnmbbbohaaGreatDoor
