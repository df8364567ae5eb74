/-
 The document's rack by contracts: New. No conditions beyond those that each theorem types.
-/
import Derived.Test.YtgbehfkimchglaaGreatDoorRefAnewM
import Derived.Test.YtgbehfkimchglaaGreatDoorSpcPartM
namespace Go.Proofs.YtgbehfkimchglaaGreatDoor
open Go Go.RowKit
set_option maxRecDepth 100000
set_option linter.unusedVariables false
namespace refRack
theorem info_headR : (Tryz.prog.info? 154).map (fun i => (i.zero, i.size, i.bytes)) = some (some (.slice none 0 0), 1, 24) := by kernel_rfl
theorem info_boolR : (Tryz.prog.info? 4).map (fun i => (i.zero, i.size, i.bytes)) = some (some (.bool false), 1, 1) := by kernel_rfl
theorem bs_heads (A : Option Addr) (n c : Nat) (w : World) : (Instr.buildSlice 52 1 #[(0, .slice A n c)]).run Tryz.prog w = .ok (.slice (some ⟨w.heap.size, 0, none⟩) 1 1) (w.alloc (.cells #[.slice A n c] 154)) := by kernel_rfl
theorem wp_append_headR {w : World} {o : Oper} {a : Act} {K : Act → World → Prop} {Q : Exit → Act → World → Prop} (s x : Operand)
  (ho : o.op = .call { callee := .builtin .append, args := #[s, x], argTypes := #[52, 52] }) {base n c m c2 : Nat} {A : Option Addr} {v : Value} {xs : List Value} {ad : Addr} (hs : a.eval s = v) (hx : a.eval x = .slice (some ad) 1 c)
  (hown : w.ownsRow base 154 1 v n xs) (hnews : ∀ j u, [Value.slice A m c2][j]? = some u → w.cell? (ad.add j) = some u) (hn : n + 1 ≤ 2000000) (hb : base ≤ w.heap.size)
  (h : ∀ v' w', w'.ownsRow base 154 1 v' (n + 1) (xs ++ [Value.slice A m c2]) → w.grownBy w' v.ownBlock → K (a.put o.dst v') w') : o.wp Tryz.prog a w K Q := by
 obtain ⟨i0, hi, hz0, hz1, hz2⟩ := info_parts info_headR
 exact wp_append_own (P := Tryz.prog) w s x 52 ho base 154 i0 _ 1 24 Tryz.underlying52 hi hz0 hz1 hz2 rfl (by omega) v n xs hs hown ad 1 c [Value.slice A m c2] hx rfl hnews (fun u hu => by simp at hu; subst hu; rfl) (by unfold maxLen; omega) (by omega) hb fun v' w' h1 h2 _ => h v' w' h1 h2
theorem headL_push (i ns : Nat) (H C : Nat → Nat) (h2 c2 : Nat) : headL i H C ns ++ [.slice (some ⟨h2, 0, none⟩) ns c2] = headL (i + 1) (fun d => if d = i then h2 else H d) (fun d => if d = i then c2 else C d) ns := by
 apply List.ext_getElem?
 intro j
 have hl : (headL i H C ns).length = i := by simp [headL]
 by_cases h : j < i
 ·rw [List.getElem?_append_left (by omega), headL_get _ _ h, headL_get _ _ (by omega), if_neg (by omega), if_neg (by omega)]
 ·rw [List.getElem?_append_right (by omega), hl]
  by_cases e : j = i
  ·subst e
   rw [Nat.sub_self, headL_get _ _ (by omega), if_pos rfl, if_pos rfl]
   rfl
  ·rw [List.getElem?_eq_none (by simp; omega), List.getElem?_eq_none (by simp [headL]; omega)]
structure NK (B : Nat) (w : World) (g nd ns i : Nat) (vL : Value) (l1 : Nat) (H C : Nat → Nat) : Prop where
 blk : Blk w g 56 #[vL, .slice (some ⟨l1, 0, none⟩) nd nd, .slice none 0 0, .bool false, .int .i64 (-1)]
 hg : B ≤ g
 heads : w.ownsRow B 154 1 vL i (headL i H C ns)
 rows : ∀ d, d < i → w.ownsRow B 9 1 (.slice (some ⟨H d, 0, none⟩) ns (C d)) ns (textL ns fun _ => zeros)
 apart : ∀ d d', d < i → d' < i → d ≠ d' → H d ≠ H d'
 lost : w.ownsRow B 4 1 (.slice (some ⟨l1, 0, none⟩) nd nd) nd (boolL nd fun _ => false)
section
variable {B : Nat} {w w' : World} {g nd ns i l1 : Nat} {vL : Value} {H C : Nat → Nat}
theorem NK.le (h : NK B w g nd ns i vL l1 H C) : B ≤ w.heap.size := Nat.le_trans h.hg (Nat.le_of_lt h.blk.lt)
theorem NK.below (h : NK B w g nd ns i vL l1 H C) (hb : Below w.heap.size w w') : NK B w' g nd ns i vL l1 H C := by
 have ok : ∀ {n c : Nat} {e : TypeId} {v : Value} {xs : List Value}, w.ownsRow B e c v n xs → w'.ownsRow B e c v n xs := fun h1 => own_keep h1 fun k hk1 => hb.block k (own_lt h1 hk1).1
 exact ⟨(hb.block g h.blk.lt).trans h.blk, h.hg, ok h.heads, fun d hd => ok (h.rows d hd), h.apart, ok h.lost⟩
theorem NK.done (h : NK B w g nd ns nd vL l1 H C) : TK B w g (RS.new nd ns) vL (.slice (some ⟨l1, 0, none⟩) nd nd) (.slice none 0 0) H C :=
 ⟨h.blk, h.hg, h.heads, h.rows, h.apart, h.lost, ⟨rfl, .inl ⟨rfl, rfl⟩⟩⟩
theorem NK.push {h2 c2 B' : Nat} {v6 : Value} (h : NK B w g nd ns i vL l1 H C) (hrow : w.ownsRow B' 9 1 (.slice (some ⟨h2, 0, none⟩) ns c2) ns (textL ns fun _ => zeros)) (hB : B ≤ B') (hne : ∀ d', d' < i → H d' ≠ h2) (hg : w.grownBy w' vL.ownBlock)
  (hw : w'.ownsRow B 154 1 v6 (i + 1) (headL i H C ns ++ [.slice (some ⟨h2, 0, none⟩) ns c2])) :
  NK B (w'.setCell ⟨g, 0, none⟩ v6) g nd ns (i + 1) v6 l1 (fun d => if d = i then h2 else H d) (fun d => if d = i then c2 else C d) ∧ Below B w (w'.setCell ⟨g, 0, none⟩ v6) ∧ w'.cell? ⟨g, 0, none⟩ = some vL ∧ w'.frozen? ⟨g, 0, none⟩ = false := by
 have hbg : Blk w' g 56 #[vL, .slice (some ⟨l1, 0, none⟩) nd nd, .slice none 0 0, .bool false, .int .i64 (-1)] := (hg.block g h.blk.lt (fun e => own_not_blk h.heads h.blk rfl e.symm)).trans h.blk
 have ok : ∀ {B0 n c : Nat} {t : TypeId} {v : Value} {xs : List Value}, (t == 56) = false → (t == 154) = false → w.ownsRow B0 t c v n xs → (w'.setCell ⟨g, 0, none⟩ v6).ownsRow B0 t c v n xs := fun he he2 h1 => own_keep (own_keep (w' := w') h1 fun g1 hg1 => hg.block g1 (own_lt h1 hg1).1 (fun e => own_type h1 h.heads he2 hg1 e.symm)) fun g1 hg1 => Below.heap_setCell w' ⟨g, 0, none⟩ v6 g1 (fun e => own_not_blk h1 h.blk he (by rw [hg1]; exact congrArg some e))
 have hw2 : (w'.setCell ⟨g, 0, none⟩ v6).ownsRow B 154 1 v6 (i + 1) (headL i H C ns ++ [.slice (some ⟨h2, 0, none⟩) ns c2]) := own_keep hw fun g1 hg1 => Below.heap_setCell w' ⟨g, 0, none⟩ v6 g1 (fun e => own_not_blk hw hbg rfl (by rw [hg1]; exact congrArg some e))
 rw [headL_push] at hw2
 have b1 : Below B w w' := ⟨hg.os, hg.tape, hg.output, hg.size, fun k hk => hg.block k (by have := h.le; omega) (fun e => by have := (own_lt h.heads e.symm).2; omega)⟩
 refine ⟨⟨hbg.set_ 0 v6, h.hg, hw2, fun d hd => ?_, fun d1 d2 e1 e2 hne2 => ?_, ok rfl rfl h.lost⟩, b1.setCell (p := ⟨g, 0, none⟩) h.hg v6, hbg.cell 0, hbg.frozen 0⟩
 ·show (w'.setCell ⟨g, 0, none⟩ v6).ownsRow B 9 1 (.slice (some ⟨if d = i then h2 else H d, 0, none⟩) ns (if d = i then c2 else C d)) ns (textL ns fun _ => zeros)
  by_cases e : d = i
  ·simp only [if_pos e]
   exact ok rfl rfl (own_base hrow hB)
  ·simp only [if_neg e]
   exact ok rfl rfl (h.rows d (by omega))
 ·show (if d1 = i then h2 else H d1) ≠ (if d2 = i then h2 else H d2)
  by_cases q1 : d1 = i
  ·by_cases q2 : d2 = i
   ·omega
   ·rw [if_pos q1, if_neg q2]
    exact (hne d2 (by omega)).symm
  ·by_cases q2 : d2 = i
   ·rw [if_neg q1, if_pos q2]
    exact hne d1 (by omega)
   ·rw [if_neg q1, if_neg q2]
    exact h.apart d1 d2 (by omega) (by omega) hne2
end
theorem make_boolsR (n : Nat) (hn : n ≤ 70000) (w : World) (l : Int) (hl : l = (n : Int)) :
  (Instr.makeSlice 53 (.int .i64 l) (.int .i64 l)).run Tryz.prog w = .ok (.slice (some ⟨w.heap.size, 0, none⟩) n n) (w.alloc (.cells (Array.replicate n (.bool false)) 4)) := by
 subst hl
 obtain ⟨i0, hi, hz0, hz1, hz2⟩ := info_parts info_boolR
 have h := run_make (P := Tryz.prog) (w := w) 53 4 i0 (.bool false) Tryz.underlying53 hi hz0 .i64 .i64 (n : Int) (n : Int) (by omega) (by omega) (by rw [hz2]; omega) (by omega)
 rw [h, hz1, Int.toNat_natCast, Nat.mul_one]
 show _ = _
 rw [show (Value.bool false).cells = #[.bool false] from rfl, madeCells_one]
set_option maxHeartbeats 1600000 in
theorem new_k (w : World) (nd ns : Nat) (h1 : 1 ≤ nd) (h2 : nd ≤ 16) (hns0 : 0 < ns) (hns : ns ≤ 2000) :
  Calls Tryz.prog 30 #[.int .i64 (nd : Int), .int .i64 (ns : Int)] w fun e w' => ∃ g, e = .returned (.tuple #[.pointer (some ⟨g, 0, none⟩), .int .i64 0]) ∧ TAt w.heap.size w' g (RS.new nd ns) ∧ Below w.heap.size w w' := by
 have t1 : decide ((nd : Int) < 1) = false := by simp; omega
 have t2 : decide ((16 : Int) < (nd : Int)) = false := by simp; omega
 have t3 : decide ((ns : Int) < 1) = false := by simp; omega
 have t4 : decide ((2000 : Int) < (ns : Int)) = false := by simp; omega
 have mk := make_boolsR nd (by omega) w (nd : Int) rfl
 have bd : ∀ W, (Instr.build 56 #[(1, .slice (some ⟨w.heap.size, 0, none⟩) nd nd), (4, .int .i64 (-1))]).run Tryz.prog W = .ok (.agg #[.slice none 0 0, .slice (some ⟨w.heap.size, 0, none⟩) nd nd, .slice none 0 0, .bool false, .int .i64 (-1)]) W := fun W => by kernel_rfl
 have bA : Below w.heap.size w (w.alloc (.cells (Array.replicate nd (.bool false)) 4)) := (Below.refl _ _).alloc (Nat.le_refl _) _
 have bB := bA.alloc bA.size (.cells #[.slice none 0 0, .slice (some ⟨w.heap.size, 0, none⟩) nd nd, .slice none 0 0, .bool false, .int .i64 (-1)] 56)
 have hl0 : (w.alloc (.cells (Array.replicate nd (.bool false)) 4)).ownsRow w.heap.size 4 1 (.slice (some ⟨w.heap.size, 0, none⟩) nd nd) nd (boolL nd fun _ => false) := by
  have q := World.ownsRow_lit (base := w.heap.size) (e := 4) (size := 1) w (Array.replicate nd (.bool false)) nd (Nat.le_refl _) (by unfold maxLen; omega) (by simp)
  have e : (Array.replicate nd (Value.bool false)).toList = boolL nd fun _ => false := by
   apply List.ext_getElem?
   intro j
   by_cases hj : j < nd
   ·rw [boolL_get _ hj]; simp [hj]
   ·rw [List.getElem?_eq_none (by simp; omega), List.getElem?_eq_none (by simp [boolL]; omega)]
  rw [e] at q
  exact q
 have N0 : Hid (NK w.heap.size ((w.alloc (.cells (Array.replicate nd (.bool false)) 4)).alloc (.cells #[.slice none 0 0, .slice (some ⟨w.heap.size, 0, none⟩) nd nd, .slice none 0 0, .bool false, .int .i64 (-1)] 56)) (w.alloc (.cells (Array.replicate nd (.bool false)) 4)).heap.size nd ns 0 (.slice none 0 0) w.heap.size (fun _ => 0) (fun _ => 0)) := Lib.hid
  ⟨Blk.new _ _ _, bA.size, ⟨rfl, .inl ⟨rfl, rfl⟩⟩, fun d hd => absurd hd (Nat.not_lt_zero _), fun d d' hd => absurd hd (Nat.not_lt_zero _), own_keep hl0 fun g1 hg1 => Below.heap_alloc _ _ g1 (own_lt hl0 hg1).1⟩
 have L0 := Lib.hid bB
 clear bA bB hl0
 go_enter Tryz.func30, Tryz.ntmps30
 go_wp2_with fail
 have hsz : (w.alloc (.cells (Array.replicate nd (.bool false)) 4)).heap.size = w.heap.size + 1 := by simp
 rw [hsz] at N0
 clear mk bd t1 t2 t3 t4 hsz
 generalize (w.alloc (.cells (Array.replicate nd (.bool false)) 4)).alloc (.cells #[.slice none 0 0, .slice (some ⟨w.heap.size, 0, none⟩) nd nd, .slice none 0 0, .bool false, .int .i64 (-1)] 56) = w0 at *
 obtain ⟨g, hg⟩ : ∃ g, g = w.heap.size + 1 := ⟨_, rfl⟩
 rw [← hg] at N0 ⊢
 clear hg
 go_loopw [7] (fun x wr => ∃ (i : Nat) (vL : Value) (H C : Nat → Nat), i ≤ nd ∧ x = .int .i64 i ∧ Hid (NK w.heap.size wr g nd ns i vL w.heap.size H C) ∧ Hid (Below w.heap.size w wr)) (fun x _ => nd - (intOf x).toNat)
 case atStart => exact ⟨0, _, _, _, by omega, rfl, N0, L0⟩
 case round =>
  obtain ⟨i, vL, H, C, hi, rfl, N1, L1⟩ := hrel
  clear N0 L0
  by_cases hlt : i < nd
  ·have i1 : (i : Int) < (nd : Int) := by omega
   have HT := Lib.hid (N1.out.below (w' := wr.drew) (Below.refl _ _).drew)
   have L3 := Lib.hid L1.out.drew
   have HS : Hid (wr.drew.cell? ⟨g, 0, none⟩ = some vL) := Lib.hid (N1.out.blk.cell 0)
   clear N1 L1
   go_wp2_with fail
   refine region_anyZ (fun w' => w'.cell? ⟨g, 0, none⟩ = some vL) 11 (by kernel_rfl) ?_
   refine takeG 0 (.move (.tmp 6)) (some 31) none (.pointer (some ⟨g, 0, none⟩)) (by kernel_rfl) (by kernel_rfl) (by kernel_rfl) (fun _ _ _ h => h) (fun o wq e hS => exec_move wq e (by kernel_rfl)) HS.out ?_
   refine takeG 1 (.move (.tmp 6)) (some 32) none (.pointer (some ⟨g, 0, none⟩)) (by kernel_rfl) (by kernel_rfl) (by kernel_rfl) (fun _ _ _ h => h) (fun o wq e hS => exec_move wq e (by kernel_rfl)) HS.out ?_
   refine takeG 2 (.nilCheck (.tmp 32)) (some 33) none (.pointer (some ⟨g, 0, none⟩)) (by kernel_rfl) (by kernel_rfl) (by kernel_rfl) (fun _ _ _ h => h) (fun o wq e hS => exec_nil wq e (by kernel_rfl)) HS.out ?_
   refine takeG 3 (.fieldAddr 56 (.tmp 33) 0) (some 34) none (.pointer (some ⟨g, 0, none⟩)) (by kernel_rfl) (by kernel_rfl) (by kernel_rfl) (fun _ _ _ h => h) (fun o wq e hS => exec_field (u := .pointer (some ⟨g, 0, none⟩)) wq e (by kernel_rfl) (by kernel_rfl)) HS.out ?_
   refine takeG 4 (.load 52 (.tmp 34)) (some 35) none (vL) (by kernel_rfl) (by kernel_rfl) (by kernel_rfl) (fun _ _ _ h => h) (fun o wq e hS => exec_load (x := (.tmp 34)) e (by kernel_rfl) (load_one Tryz.underlying52 (by kernel_rfl) hS)) HS.out ?_
   refine takeG 5 (.move (.tmp 1)) (some 36) none (.int .i64 (ns : Int)) (by kernel_rfl) (by kernel_rfl) (by kernel_rfl) (fun _ _ _ h => h) (fun o wq e hS => exec_move wq e (by kernel_rfl)) HS.out ?_
   refine loneG 6 (.call ⟨.value (.func 79), #[(.tmp 36)], #[3]⟩) (some 37) none (by kernel_rfl) (by kernel_rfl) (by kernel_rfl) ?_
   intro o ho hod
   refine wp_callC (f := 79) (args := #[.int .i64 (ns : Int)]) (by cases o; cases ho; kernel_rfl) (blank_k _ ns hns) ?_
   rintro e w4 ⟨v4, rfl, n4, b4⟩
   obtain ⟨h2, c2, rfl⟩ := own_some n4 hns0
   refine ⟨.slice (some ⟨h2, 0, none⟩) ns c2, rfl, ?_⟩
   rw [hod]
   clear hod ho
   have T4 := Lib.hid (HT.out.below b4)
   have N4 := Lib.hid n4
   have L4 := Lib.hid (L3.out.trans (b4.mono HT.out.le))
   have HB4 := Lib.hid HT.out.le
   have HNE : Hid (∀ d', d' < i → H d' ≠ h2) := Lib.hid fun d' hd' e => by
    have q1 := (own_lt (HT.out.rows d' hd') (g := H d') rfl).1
    have q2 := (own_lt n4 (g := h2) rfl).2
    omega
   have HS2 : Hid (w4.cell? ⟨g, 0, none⟩ = some vL) := Lib.hid (T4.out.blk.cell 0)
   clear n4 b4
   refine ⟨fun _ => HS2.out, ?_⟩
   refine loneG 7 (.buildSlice 52 1 #[(0, (.tmp 37))]) (some 38) none (by kernel_rfl) (by kernel_rfl) (by kernel_rfl) ?_
   intro o ho hod
   refine wp_val (exec_buildSlice1 ho (u := .slice (some ⟨h2, 0, none⟩) ns c2) (by kernel_rfl) (bs_heads _ _ _ _)) ?_
   rw [hod]
   clear hod ho
   have b5 : Below w4.heap.size w4 (w4.alloc (.cells #[.slice (some ⟨h2, 0, none⟩) ns c2] 154)) := (Below.refl _ _).alloc (Nat.le_refl _) _
   have T5 := Lib.hid (T4.out.below b5)
   have N5 := Lib.hid (own_keep N4.out (w' := w4.alloc (.cells #[.slice (some ⟨h2, 0, none⟩) ns c2] 154)) fun g1 hg1 => b5.block g1 (own_lt N4.out hg1).1)
   have L5 := Lib.hid (L4.out.trans (b5.mono L4.out.size))
   have HW5 : Hid (∀ j u, [Value.slice (some ⟨h2, 0, none⟩) ns c2][j]? = some u → (w4.alloc (.cells #[.slice (some ⟨h2, 0, none⟩) ns c2] 154)).cell? ((⟨w4.heap.size, 0, none⟩ : Addr).add j) = some u) := Lib.hid (cell_one_new w4 (.slice (some ⟨h2, 0, none⟩) ns c2) 154)
   have HS3 : Hid ((w4.alloc (.cells #[.slice (some ⟨h2, 0, none⟩) ns c2] 154)).cell? ⟨g, 0, none⟩ = some vL) := Lib.hid (T5.out.blk.cell 0)
   clear b5 T4 N4
   refine ⟨fun _ => HS3.out, ?_⟩
   refine loneG 8 (.call ⟨.builtin .append, #[(.tmp 35), (.tmp 38)], #[52, 52]⟩) (some 39) none (by kernel_rfl) (by kernel_rfl) (by kernel_rfl) ?_
   intro o ho hod
   refine wp_append_headR (c := 1) (.tmp 35) (.tmp 38) ho (by kernel_rfl) (by kernel_rfl) T5.out.heads HW5.out (by omega) T5.out.le ?_
   intro v6 w6 hw6 hg6
   rw [hod]
   clear hod ho
   obtain ⟨A6, c6, rfl⟩ := own_shape hw6
   obtain ⟨hp1, hp2, hp3, hp4⟩ := T5.out.push N5.out HB4.out HNE.out hg6 hw6
   have T6 := Lib.hid hp1
   have L6 := Lib.hid (L5.out.trans hp2)
   have HS4 := Lib.hid hp3
   have FZ := Lib.hid hp4
   clear hp1 hp2 hp3 hp4 hw6 hg6 T5 N5 L5 HW5 HS3 HS2 HNE HB4
   refine ⟨fun _ => HS4.out, ?_⟩
   refine loneG 9 (.nilCheck (.tmp 31)) (some 40) none (by kernel_rfl) (by kernel_rfl) (by kernel_rfl) ?_
   intro o ho hod
   refine wp_val (v := .pointer (some ⟨g, 0, none⟩)) (exec_nil _ ho (by kernel_rfl)) ?_
   rw [hod]
   clear hod ho
   refine ⟨fun _ => HS4.out, ?_⟩
   refine loneG 10 (.fieldAddr 56 (.tmp 40) 0) (some 41) none (by kernel_rfl) (by kernel_rfl) (by kernel_rfl) ?_
   intro o ho hod
   refine wp_val (v := .pointer (some ⟨g, 0, none⟩)) (exec_field (u := .pointer (some ⟨g, 0, none⟩)) _ ho (by kernel_rfl) (by kernel_rfl)) ?_
   rw [hod]
   clear hod ho
   refine ⟨fun _ => HS4.out, ?_⟩
   refine lastStore 11 52 (.tmp 41) (.tmp 39) (.pointer (some ⟨g, 0, none⟩)) (.slice A6 (i + 1) c6) _ (by kernel_rfl) (by kernel_rfl) (by kernel_rfl) rfl (by kernel_rfl) (by kernel_rfl) (store_one (by kernel_rfl) rfl rfl (by rw [HS4.out]; rfl) FZ.out (by rw [add_plain])) ?_
   simp only [put_some, put_none, List.setIfInBounds_toArray, List.set_cons_succ, List.set_cons_zero]
   clear HS HT L3 L4
   go_wp2_with fail
   go_roundw
   case rel => exact ⟨i + 1, _, _, _, by omega, by go_num, T6, L6⟩
   case measure => simp [intOf]; omega
  ·obtain rfl : nd = i := by omega
   have i1 : ¬ (nd : Int) < (nd : Int) := by omega
   clear hlt hi
   go_wp2_with fail
   go_ret2
   exact ⟨g, rfl, ⟨_, _, _, _, _, N1.out.done⟩, L1.out⟩
end refRack
end Go.Proofs.YtgbehfkimchglaaGreatDoor
