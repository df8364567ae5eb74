/-
  The document's rack by contracts: New. No conditions beyond those that each theorem types.
-/
import Derived.Test.YthioanenljpclaaGreatDoorRefAnewM
import Derived.Test.YthioanenljpclaaGreatDoorDrawSeqM
import Derived.Test.YthioanenljpclaaGreatDoorRefLastM
import Derived.Test.YthioanenljpclaaGreatDoorRackReadM
import Derived.Test.YthioanenljpclaaGreatDoorRefWroteM
import Derived.Test.YthioanenljpclaaGreatDoorRackRot
import Derived.Lib.ConvBytes
namespace Go.Proofs.YthioanenljpclaaGreatDoor
open Go Go.RowKit
set_option maxRecDepth 100000
set_option linter.unusedVariables false
namespace refRack
theorem info_headR : (Tryz.prog.info? 75).map (fun i => (i.zero, i.size, i.bytes)) = some (some (.slice none 0 0), 1, 24) := by kernel_rfl
theorem info_boolR : (Tryz.prog.info? 4).map (fun i => (i.zero, i.size, i.bytes)) = some (some (.bool false), 1, 1) := by kernel_rfl
theorem bs_heads (A : Option Addr) (n c : Nat) (w : World) : (Instr.buildSlice 71 1 #[(0, .slice A n c)]).run Tryz.prog w = .ok (.slice (some ⟨w.heap.size, 0, none⟩) 1 1) (w.alloc (.cells #[.slice A n c] 75)) := by kernel_rfl
theorem wp_append_headR {w : World} {o : Oper} {a : Act} {K : Act → World → Prop} {Q : Exit → Act → World → Prop} (s x : Operand)
    (ho : o.op = .call { callee := .builtin .append, args := #[s, x], argTypes := #[71, 71] }) {base n c m c2 : Nat} {A : Option Addr} {v : Value} {xs : List Value} {ad : Addr} (hs : a.eval s = v) (hx : a.eval x = .slice (some ad) 1 c)
    (hown : w.ownsRow base 75 1 v n xs) (hnews : ∀ j u, [Value.slice A m c2][j]? = some u → w.cell? (ad.add j) = some u) (hn : n + 1 ≤ 2000000) (hb : base ≤ w.heap.size)
    (h : ∀ v' w', w'.ownsRow base 75 1 v' (n + 1) (xs ++ [Value.slice A m c2]) → w.grownBy w' v.ownBlock → K (a.put o.dst v') w') : o.wp Tryz.prog a w K Q := by
  obtain ⟨i0, hi, hz0, hz1, hz2⟩ := info_parts info_headR
  exact wp_append_own (P := Tryz.prog) w s x 71 ho base 75 i0 _ 1 24 Tryz.underlying71 hi hz0 hz1 hz2 rfl (by omega) v n xs hs hown ad 1 c [Value.slice A m c2] hx rfl hnews (fun u hu => by simp at hu; subst hu; rfl) (by unfold maxLen; omega) (by omega) hb fun v' w' h1 h2 _ => h v' w' h1 h2
theorem headL_push (i ns : Nat) (H C : Nat → Nat) (h2 c2 : Nat) : headL i H C ns ++ [.slice (some ⟨h2, 0, none⟩) ns c2] = headL (i + 1) (fun d => if d = i then h2 else H d) (fun d => if d = i then c2 else C d) ns := by
  apply List.ext_getElem?
  intro j
  have hl : (headL i H C ns).length = i := by simp [headL]
  by_cases h : j < i
  · rw [List.getElem?_append_left (by omega), headL_get _ _ h, headL_get _ _ (by omega), if_neg (by omega), if_neg (by omega)]
  · rw [List.getElem?_append_right (by omega), hl]
    by_cases e : j = i
    · subst e
      rw [Nat.sub_self, headL_get _ _ (by omega), if_pos rfl, if_pos rfl]
      rfl
    · rw [List.getElem?_eq_none (by simp; omega), List.getElem?_eq_none (by simp [headL]; omega)]
/-- behind i rounds of New -/
structure NK (B : Nat) (w : World) (g nd ns i : Nat) (vL : Value) (l1 : Nat) (H C : Nat → Nat) : Prop where
  blk : Blk w g 74 #[vL, .slice (some ⟨l1, 0, none⟩) nd nd, .slice none 0 0, .bool false, .int .i64 (-1)]
  hg : B ≤ g
  heads : w.ownsRow B 75 1 vL i (headL i H C ns)
  rows : ∀ d, d < i → w.ownsRow B 9 1 (.slice (some ⟨H d, 0, none⟩) ns (C d)) ns (textL ns fun _ => zeros)
  apart : ∀ d d', d < i → d' < i → d ≠ d' → H d ≠ H d'
  lost : w.ownsRow B 4 1 (.slice (some ⟨l1, 0, none⟩) nd nd) nd (boolL nd fun _ => false)
section
variable {B : Nat} {w w' : World} {g nd ns i l1 : Nat} {vL : Value} {H C : Nat → Nat}
theorem NK.le (h : NK B w g nd ns i vL l1 H C) : B ≤ w.heap.size := Nat.le_trans h.hg (Nat.le_of_lt h.blk.lt)
theorem NK.below (h : NK B w g nd ns i vL l1 H C) (hb : Below w.heap.size w w') : NK B w' g nd ns i vL l1 H C := by
  have ok : ∀ {n c : Nat} {e : TypeId} {v : Value} {xs : List Value}, w.ownsRow B e c v n xs → w'.ownsRow B e c v n xs := fun h1 => own_keep h1 fun k hk1 => hb.block k (own_lt h1 hk1).1
  exact ⟨(hb.block g h.blk.lt).trans h.blk, h.hg, ok h.heads, fun d hd => ok (h.rows d hd), h.apart, ok h.lost⟩
theorem NK.done (h : NK B w g nd ns nd vL l1 H C) : TK B w g (RS.new nd ns) vL (.slice (some ⟨l1, 0, none⟩) nd nd) (.slice none 0 0) H C :=
  ⟨h.blk, h.hg, h.heads, h.rows, h.apart, h.lost, ⟨rfl, .inl ⟨rfl, rfl⟩⟩⟩
theorem NK.push {h2 c2 B' : Nat} {v6 : Value} (h : NK B w g nd ns i vL l1 H C) (hrow : w.ownsRow B' 9 1 (.slice (some ⟨h2, 0, none⟩) ns c2) ns (textL ns fun _ => zeros)) (hB : B ≤ B') (hne : ∀ d', d' < i → H d' ≠ h2) (hg : w.grownBy w' vL.ownBlock)
    (hw : w'.ownsRow B 75 1 v6 (i + 1) (headL i H C ns ++ [.slice (some ⟨h2, 0, none⟩) ns c2])) :
    NK B (w'.setCell ⟨g, 0, none⟩ v6) g nd ns (i + 1) v6 l1 (fun d => if d = i then h2 else H d) (fun d => if d = i then c2 else C d) ∧ Below B w (w'.setCell ⟨g, 0, none⟩ v6) ∧ w'.cell? ⟨g, 0, none⟩ = some vL ∧ w'.frozen? ⟨g, 0, none⟩ = false := by
  have hbg : Blk w' g 74 #[vL, .slice (some ⟨l1, 0, none⟩) nd nd, .slice none 0 0, .bool false, .int .i64 (-1)] := (hg.block g h.blk.lt (fun e => own_not_blk h.heads h.blk rfl e.symm)).trans h.blk
  have ok : ∀ {B0 n c : Nat} {t : TypeId} {v : Value} {xs : List Value}, (t == 74) = false → (t == 75) = false → w.ownsRow B0 t c v n xs → (w'.setCell ⟨g, 0, none⟩ v6).ownsRow B0 t c v n xs := fun he he2 h1 => own_keep (own_keep (w' := w') h1 fun g1 hg1 => hg.block g1 (own_lt h1 hg1).1 (fun e => own_type h1 h.heads he2 hg1 e.symm)) fun g1 hg1 => Below.heap_setCell w' ⟨g, 0, none⟩ v6 g1 (fun e => own_not_blk h1 h.blk he (by rw [hg1]; exact congrArg some e))
  have hw2 : (w'.setCell ⟨g, 0, none⟩ v6).ownsRow B 75 1 v6 (i + 1) (headL i H C ns ++ [.slice (some ⟨h2, 0, none⟩) ns c2]) := own_keep hw fun g1 hg1 => Below.heap_setCell w' ⟨g, 0, none⟩ v6 g1 (fun e => own_not_blk hw hbg rfl (by rw [hg1]; exact congrArg some e))
  rw [headL_push] at hw2
  have b1 : Below B w w' := ⟨hg.os, hg.tape, hg.output, hg.size, fun k hk => hg.block k (by have := h.le; omega) (fun e => by have := (own_lt h.heads e.symm).2; omega)⟩
  refine ⟨⟨hbg.set_ 0 v6, h.hg, hw2, fun d hd => ?_, fun d1 d2 e1 e2 hne2 => ?_, ok rfl rfl h.lost⟩, b1.setCell (p := ⟨g, 0, none⟩) h.hg v6, hbg.cell 0, hbg.frozen 0⟩
  · show (w'.setCell ⟨g, 0, none⟩ v6).ownsRow B 9 1 (.slice (some ⟨if d = i then h2 else H d, 0, none⟩) ns (if d = i then c2 else C d)) ns (textL ns fun _ => zeros)
    by_cases e : d = i
    · simp only [if_pos e]
      exact ok rfl rfl (own_base hrow hB)
    · simp only [if_neg e]
      exact ok rfl rfl (h.rows d (by omega))
  · show (if d1 = i then h2 else H d1) ≠ (if d2 = i then h2 else H d2)
    by_cases q1 : d1 = i
    · by_cases q2 : d2 = i
      · omega
      · rw [if_pos q1, if_neg q2]
        exact (hne d2 (by omega)).symm
    · by_cases q2 : d2 = i
      · rw [if_neg q1, if_pos q2]
        exact hne d1 (by omega)
      · rw [if_neg q1, if_neg q2]
        exact h.apart d1 d2 (by omega) (by omega) hne2
end
theorem make_boolsR (n : Nat) (hn : n ≤ 70000) (w : World) (l : Int) (hl : l = (n : Int)) :
    (Instr.makeSlice 70 (.int .i64 l) (.int .i64 l)).run Tryz.prog w = .ok (.slice (some ⟨w.heap.size, 0, none⟩) n n) (w.alloc (.cells (Array.replicate n (.bool false)) 4)) := by
  subst hl
  obtain ⟨i0, hi, hz0, hz1, hz2⟩ := info_parts info_boolR
  have h := run_make (P := Tryz.prog) (w := w) 70 4 i0 (.bool false) Tryz.underlying70 hi hz0 .i64 .i64 (n : Int) (n : Int) (by omega) (by omega) (by rw [hz2]; omega) (by omega)
  rw [h, hz1, Int.toNat_natCast, Nat.mul_one]
  show _ = _
  rw [show (Value.bool false).cells = #[.bool false] from rfl, madeCells_one]
set_option maxHeartbeats 1600000 in
theorem new_k (w : World) (nd ns : Nat) (h1 : 1 ≤ nd) (h2 : nd ≤ 16) (hns0 : 0 < ns) (hns : ns ≤ 2000) :
    Calls Tryz.prog 6 #[.int .i64 (nd : Int), .int .i64 (ns : Int)] w fun e w' => ∃ g, e = .returned (.tuple #[.pointer (some ⟨g, 0, none⟩), .int .i64 0]) ∧ TAt w.heap.size w' g (RS.new nd ns) ∧ Below w.heap.size w w' := by
  have t1 : decide ((nd : Int) < 1) = false := by simp; omega
  have t2 : decide ((16 : Int) < (nd : Int)) = false := by simp; omega
  have t3 : decide ((ns : Int) < 1) = false := by simp; omega
  have t4 : decide ((2000 : Int) < (ns : Int)) = false := by simp; omega
  have mk := make_boolsR nd (by omega) w (nd : Int) rfl
  have bd : ∀ W, (Instr.build 74 #[(1, .slice (some ⟨w.heap.size, 0, none⟩) nd nd), (4, .int .i64 (-1))]).run Tryz.prog W = .ok (.agg #[.slice none 0 0, .slice (some ⟨w.heap.size, 0, none⟩) nd nd, .slice none 0 0, .bool false, .int .i64 (-1)]) W := fun W => by kernel_rfl
  have bA : Below w.heap.size w (w.alloc (.cells (Array.replicate nd (.bool false)) 4)) := (Below.refl _ _).alloc (Nat.le_refl _) _
  have bB := bA.alloc bA.size (.cells #[.slice none 0 0, .slice (some ⟨w.heap.size, 0, none⟩) nd nd, .slice none 0 0, .bool false, .int .i64 (-1)] 74)
  have hl0 : (w.alloc (.cells (Array.replicate nd (.bool false)) 4)).ownsRow w.heap.size 4 1 (.slice (some ⟨w.heap.size, 0, none⟩) nd nd) nd (boolL nd fun _ => false) := by
    have q := World.ownsRow_lit (base := w.heap.size) (e := 4) (size := 1) w (Array.replicate nd (.bool false)) nd (Nat.le_refl _) (by unfold maxLen; omega) (by simp)
    have e : (Array.replicate nd (Value.bool false)).toList = boolL nd fun _ => false := by
      apply List.ext_getElem?
      intro j
      by_cases hj : j < nd
      · rw [boolL_get _ hj]; simp [hj]
      · rw [List.getElem?_eq_none (by simp; omega), List.getElem?_eq_none (by simp [boolL]; omega)]
    rw [e] at q
    exact q
  have N0 : Hid (NK w.heap.size ((w.alloc (.cells (Array.replicate nd (.bool false)) 4)).alloc (.cells #[.slice none 0 0, .slice (some ⟨w.heap.size, 0, none⟩) nd nd, .slice none 0 0, .bool false, .int .i64 (-1)] 74)) (w.alloc (.cells (Array.replicate nd (.bool false)) 4)).heap.size nd ns 0 (.slice none 0 0) w.heap.size (fun _ => 0) (fun _ => 0)) := Lib.hid
    ⟨Blk.new _ _ _, bA.size, ⟨rfl, .inl ⟨rfl, rfl⟩⟩, fun d hd => absurd hd (Nat.not_lt_zero _), fun d d' hd => absurd hd (Nat.not_lt_zero _), own_keep hl0 fun g1 hg1 => Below.heap_alloc _ _ g1 (own_lt hl0 hg1).1⟩
  have L0 := Lib.hid bB
  clear bA bB hl0
  go_enter Tryz.func6, Tryz.ntmps6
  go_wp2_with fail
  have hsz : (w.alloc (.cells (Array.replicate nd (.bool false)) 4)).heap.size = w.heap.size + 1 := by simp
  rw [hsz] at N0
  clear mk bd t1 t2 t3 t4 hsz
  generalize (w.alloc (.cells (Array.replicate nd (.bool false)) 4)).alloc (.cells #[.slice none 0 0, .slice (some ⟨w.heap.size, 0, none⟩) nd nd, .slice none 0 0, .bool false, .int .i64 (-1)] 74) = w0 at *
  obtain ⟨g, hg⟩ : ∃ g, g = w.heap.size + 1 := ⟨_, rfl⟩
  rw [← hg] at N0 ⊢
  clear hg
  go_loopw [7] (fun x wr => ∃ (i : Nat) (vL : Value) (H C : Nat → Nat), i ≤ nd ∧ x = .int .i64 i ∧ Hid (NK w.heap.size wr g nd ns i vL w.heap.size H C) ∧ Hid (Below w.heap.size w wr)) (fun x _ => nd - (intOf x).toNat)
  case atStart => exact ⟨0, _, _, _, by omega, rfl, N0, L0⟩
  case round =>
    obtain ⟨i, vL, H, C, hi, rfl, N1, L1⟩ := hrel
    clear N0 L0
    by_cases hlt : i < nd
    · have i1 : (i : Int) < (nd : Int) := by omega
      have HT := Lib.hid (N1.out.below (w' := wr.drew) (Below.refl _ _).drew)
      have L3 := Lib.hid L1.out.drew
      have HS : Hid (wr.drew.cell? ⟨g, 0, none⟩ = some vL) := Lib.hid (N1.out.blk.cell 0)
      clear N1 L1
      go_wp2_with fail
      refine region_anyZ (fun w' => w'.cell? ⟨g, 0, none⟩ = some vL) 11 (by kernel_rfl) ?_
      refine takeG 0 (.move (.tmp 6)) (some 31) none (.pointer (some ⟨g, 0, none⟩)) (by kernel_rfl) (by kernel_rfl) (by kernel_rfl) (fun _ _ _ h => h) (fun o wq e hS => exec_move wq e (by kernel_rfl)) HS.out ?_
      refine takeG 1 (.move (.tmp 6)) (some 32) none (.pointer (some ⟨g, 0, none⟩)) (by kernel_rfl) (by kernel_rfl) (by kernel_rfl) (fun _ _ _ h => h) (fun o wq e hS => exec_move wq e (by kernel_rfl)) HS.out ?_
      refine takeG 2 (.nilCheck (.tmp 32)) (some 33) none (.pointer (some ⟨g, 0, none⟩)) (by kernel_rfl) (by kernel_rfl) (by kernel_rfl) (fun _ _ _ h => h) (fun o wq e hS => exec_nil wq e (by kernel_rfl)) HS.out ?_
      refine takeG 3 (.fieldAddr 74 (.tmp 33) 0) (some 34) none (.pointer (some ⟨g, 0, none⟩)) (by kernel_rfl) (by kernel_rfl) (by kernel_rfl) (fun _ _ _ h => h) (fun o wq e hS => exec_field (u := .pointer (some ⟨g, 0, none⟩)) wq e (by kernel_rfl) (by kernel_rfl)) HS.out ?_
      refine takeG 4 (.load 71 (.tmp 34)) (some 35) none (vL) (by kernel_rfl) (by kernel_rfl) (by kernel_rfl) (fun _ _ _ h => h) (fun o wq e hS => exec_load (x := (.tmp 34)) e (by kernel_rfl) (load_one Tryz.underlying71 (by kernel_rfl) hS)) HS.out ?_
      refine takeG 5 (.move (.tmp 1)) (some 36) none (.int .i64 (ns : Int)) (by kernel_rfl) (by kernel_rfl) (by kernel_rfl) (fun _ _ _ h => h) (fun o wq e hS => exec_move wq e (by kernel_rfl)) HS.out ?_
      refine loneG 6 (.call ⟨.value (.func 31), #[(.tmp 36)], #[3]⟩) (some 37) none (by kernel_rfl) (by kernel_rfl) (by kernel_rfl) ?_
      intro o ho hod
      refine wp_callC (f := 31) (args := #[.int .i64 (ns : Int)]) (by cases o; cases ho; kernel_rfl) (blank_k _ ns hns) ?_
      rintro e w4 ⟨v4, rfl, n4, b4⟩
      obtain ⟨h2, c2, rfl⟩ := own_some n4 hns0
      refine ⟨.slice (some ⟨h2, 0, none⟩) ns c2, rfl, ?_⟩
      rw [hod]
      clear hod ho
      have T4 := Lib.hid (HT.out.below b4)
      have N4 := Lib.hid n4
      have L4 := Lib.hid (L3.out.trans (b4.mono HT.out.le))
      have HB4 := Lib.hid HT.out.le
      have HNE : Hid (∀ d', d' < i → H d' ≠ h2) := Lib.hid fun d' hd' e => by
        have q1 := (own_lt (HT.out.rows d' hd') (g := H d') rfl).1
        have q2 := (own_lt n4 (g := h2) rfl).2
        omega
      have HS2 : Hid (w4.cell? ⟨g, 0, none⟩ = some vL) := Lib.hid (T4.out.blk.cell 0)
      clear n4 b4
      refine ⟨fun _ => HS2.out, ?_⟩
      refine loneG 7 (.buildSlice 71 1 #[(0, (.tmp 37))]) (some 38) none (by kernel_rfl) (by kernel_rfl) (by kernel_rfl) ?_
      intro o ho hod
      refine wp_val (exec_buildSlice1 ho (u := .slice (some ⟨h2, 0, none⟩) ns c2) (by kernel_rfl) (bs_heads _ _ _ _)) ?_
      rw [hod]
      clear hod ho
      have b5 : Below w4.heap.size w4 (w4.alloc (.cells #[.slice (some ⟨h2, 0, none⟩) ns c2] 75)) := (Below.refl _ _).alloc (Nat.le_refl _) _
      have T5 := Lib.hid (T4.out.below b5)
      have N5 := Lib.hid (own_keep N4.out (w' := w4.alloc (.cells #[.slice (some ⟨h2, 0, none⟩) ns c2] 75)) fun g1 hg1 => b5.block g1 (own_lt N4.out hg1).1)
      have L5 := Lib.hid (L4.out.trans (b5.mono L4.out.size))
      have HW5 : Hid (∀ j u, [Value.slice (some ⟨h2, 0, none⟩) ns c2][j]? = some u → (w4.alloc (.cells #[.slice (some ⟨h2, 0, none⟩) ns c2] 75)).cell? ((⟨w4.heap.size, 0, none⟩ : Addr).add j) = some u) := Lib.hid (cell_one_new w4 (.slice (some ⟨h2, 0, none⟩) ns c2) 75)
      have HS3 : Hid ((w4.alloc (.cells #[.slice (some ⟨h2, 0, none⟩) ns c2] 75)).cell? ⟨g, 0, none⟩ = some vL) := Lib.hid (T5.out.blk.cell 0)
      clear b5 T4 N4
      refine ⟨fun _ => HS3.out, ?_⟩
      refine loneG 8 (.call ⟨.builtin .append, #[(.tmp 35), (.tmp 38)], #[71, 71]⟩) (some 39) none (by kernel_rfl) (by kernel_rfl) (by kernel_rfl) ?_
      intro o ho hod
      refine wp_append_headR (c := 1) (.tmp 35) (.tmp 38) ho (by kernel_rfl) (by kernel_rfl) T5.out.heads HW5.out (by omega) T5.out.le ?_
      intro v6 w6 hw6 hg6
      rw [hod]
      clear hod ho
      obtain ⟨A6, c6, rfl⟩ := own_shape hw6
      obtain ⟨hp1, hp2, hp3, hp4⟩ := T5.out.push N5.out HB4.out HNE.out hg6 hw6
      have T6 := Lib.hid hp1
      have L6 := Lib.hid (L5.out.trans hp2)
      have HS4 := Lib.hid hp3
      have FZ := Lib.hid hp4
      clear hp1 hp2 hp3 hp4 hw6 hg6 T5 N5 L5 HW5 HS3 HS2 HNE HB4
      refine ⟨fun _ => HS4.out, ?_⟩
      refine loneG 9 (.nilCheck (.tmp 31)) (some 40) none (by kernel_rfl) (by kernel_rfl) (by kernel_rfl) ?_
      intro o ho hod
      refine wp_val (v := .pointer (some ⟨g, 0, none⟩)) (exec_nil _ ho (by kernel_rfl)) ?_
      rw [hod]
      clear hod ho
      refine ⟨fun _ => HS4.out, ?_⟩
      refine loneG 10 (.fieldAddr 74 (.tmp 40) 0) (some 41) none (by kernel_rfl) (by kernel_rfl) (by kernel_rfl) ?_
      intro o ho hod
      refine wp_val (v := .pointer (some ⟨g, 0, none⟩)) (exec_field (u := .pointer (some ⟨g, 0, none⟩)) _ ho (by kernel_rfl) (by kernel_rfl)) ?_
      rw [hod]
      clear hod ho
      refine ⟨fun _ => HS4.out, ?_⟩
      refine lastStore 11 71 (.tmp 41) (.tmp 39) (.pointer (some ⟨g, 0, none⟩)) (.slice A6 (i + 1) c6) _ (by kernel_rfl) (by kernel_rfl) (by kernel_rfl) rfl (by kernel_rfl) (by kernel_rfl) (store_one (by kernel_rfl) rfl rfl (by rw [HS4.out]; rfl) FZ.out (by rw [add_plain])) ?_
      simp only [put_some, put_none, List.setIfInBounds_toArray, List.set_cons_succ, List.set_cons_zero]
      clear HS HT L3 L4
      go_wp2_with fail
      go_roundw
      case rel => exact ⟨i + 1, _, _, _, by omega, by go_num, T6, L6⟩
      case measure => simp [intOf]; omega
    · obtain rfl : nd = i := by omega
      have i1 : ¬ (nd : Int) < (nd : Int) := by omega
      clear hlt hi
      go_wp2_with fail
      go_ret2
      exact ⟨g, rfl, ⟨_, _, _, _, _, N1.out.done⟩, L1.out⟩
end refRack
end Go.Proofs.YthioanenljpclaaGreatDoor
namespace Go.Proofs.YthioanenljpclaaGreatDoor
open Go Go.RowKit
set_option maxRecDepth 100000
set_option linter.unusedVariables false
namespace refRack
section
variable {B : Nat} {w w' : World} {g : Nat} {s : RS} {vL vG vW : Value} {H C : Nat → Nat}
theorem read_no_k (w : World) (g : Nat) (s : RS) (D E : Int) (hd : s.deny D E ≠ 0) (h : TK B w g s vL vG vW H C) :
    Calls Tryz.prog 66 #[.pointer (some ⟨g, 0, none⟩), .int .i64 D, .int .i64 E] w fun e w' => e = .returned (.tuple #[.string ⟨#[]⟩, .int .i64 (s.deny D E)]) ∧ w' = w := by
  have HI := Lib.hid (in_k w g s D E h)
  cases hp : s.isP D E with
  | false =>
    rw [hp] at HI
    have hy : s.deny D E = 1 := by
      have e : s.why D E = 1 := by unfold RS.why; rw [hp]; rfl
      unfold RS.deny
      rw [e]
      rfl
    rw [hy]
    clear hp h hd hy
    go_enter Tryz.func66, Tryz.ntmps66
    go_wp2_with fail
    refine HI.out.mono ?_
    rintro e w' ⟨rfl, rfl⟩
    go_wp2_with fail
    go_ret2
    exact ⟨rfl, rfl⟩
  | true =>
    rw [hp] at HI
    obtain ⟨d, rfl, hdn⟩ : ∃ d : Nat, D = (d : Int) ∧ d < s.nd := by
      simp [RS.isP, RS.isD] at hp
      exact ⟨D.toNat, by omega, by omega⟩
    have c1 := h.c1
    have c3 := h.c3
    obtain ⟨l, c, rfl, k1, _⟩ := h.gone hdn
    have i0 : (0 : Int) ≤ (d : Int) := by omega
    have i1 : (d : Int) < (s.nd : Int) := by omega
    have hw : s.why (d : Int) E = if s.gone d then 3 else 0 := by unfold RS.why; rw [hp, if_pos rfl, Int.toNat_natCast]
    cases hg : s.gone d with
    | true =>
      rw [hg] at k1
      have hy : s.deny (d : Int) E = 3 := by
        rw [hg] at hw
        have hw : s.why (d : Int) E = 3 := hw
        unfold RS.deny
        rw [hw]
        rfl
      rw [hy]
      clear hp h hd hy hw hg c3 hdn
      go_enter Tryz.func66, Tryz.ntmps66
      go_wp2_with fail
      refine HI.out.mono ?_
      rintro e w' ⟨rfl, rfl⟩
      go_wp2_with fail
      go_ret2
      exact ⟨rfl, rfl⟩
    | false =>
      rw [hg] at k1
      have hw0 : s.why (d : Int) E = 0 := by rw [hw, hg]; rfl
      have ho : s.off = true := by
        cases e : s.off with
        | true => rfl
        | false =>
          exfalso
          apply hd
          unfold RS.deny
          rw [hw0, e]
          rfl
      have hy : s.deny (d : Int) E = 16 := by
        unfold RS.deny
        rw [hw0, ho]
        rfl
      rw [hy]
      rw [ho] at c3
      clear hp h hd hy hw hg hw0 ho hdn
      go_enter Tryz.func66, Tryz.ntmps66
      go_wp2_with fail
      refine HI.out.mono ?_
      rintro e w' ⟨rfl, rfl⟩
      go_wp2_with fail
      go_ret2
      exact ⟨rfl, rfl⟩
set_option maxHeartbeats 800000 in
theorem read_ok_k (w : World) (g : Nat) (s : RS) (d a : Nat) (hd : d < s.nd) (ha : a < s.ns) (hg : s.gone d = false) (ho : s.off = false) (h : TK B w g s vL vG vW H C) :
    Calls Tryz.prog 66 #[.pointer (some ⟨g, 0, none⟩), .int .i64 (d : Int), .int .i64 (a : Int)] w fun e w' => e = .returned (.tuple #[textV (s.holds d a), .int .i64 0]) ∧ w' = w := by
  have HI := Lib.hid (in_k w g s (d : Int) (a : Int) h)
  rw [show s.isP (d : Int) (a : Int) = true by simp [RS.isP, RS.isD]; omega] at HI
  have HN := Lib.hid (newest_k w g s d a h)
  have c0 := h.c0
  have c1 := h.c1
  have c2 := h.c2
  have c3 := h.c3
  rw [ho] at c3
  obtain ⟨l, c, rfl, k1, _⟩ := h.gone hd
  rw [hg] at k1
  obtain ⟨lh, ch, rfl, kh, _⟩ := h.head hd
  have kt := (h.text hd ha).1
  have i0 : (0 : Int) ≤ (d : Int) := by omega
  have i1 : (d : Int) < (s.nd : Int) := by omega
  have j0 : (0 : Int) ≤ (a : Int) := by omega
  have j1 : (a : Int) < (s.ns : Int) := by omega
  cases hn : newIn s.W d a s.nw with
  | none =>
    have hh : s.holds d a = s.last d a := by unfold RS.holds; rw [hn]
    rw [hn] at HN
    rw [hh]
    have t1 : idx (none : Option Nat) = -1 := rfl
    rw [t1] at HN
    generalize H d = hb at *
    generalize C d = cd at *
    clear h hd ha hg ho hn hh t1 c2
    go_enter Tryz.func66, Tryz.ntmps66
    go_wp2_with fail
    refine HI.out.mono ?_
    rintro e w' ⟨rfl, rfl⟩
    go_wp2_with fail
    refine HN.out.mono ?_
    rintro e w' ⟨rfl, rfl⟩
    go_wp2_with fail
    go_ret2
    exact ⟨rfl, rfl⟩
  | some i =>
    have hh : s.holds d a = (s.W i).x := by unfold RS.holds; rw [hn]
    rw [hn] at HN
    rw [hh]
    have t1 : idx (some i) = (i : Int) := rfl
    rw [t1] at HN
    have hin := (newIn_lt hn).1
    obtain ⟨lw, cw, rfl, _, _, kw⟩ := h.wait hin
    have z0 : (0 : Int) ≤ (i : Int) := by omega
    have z1 : (i : Int) < (s.nw : Int) := by omega
    clear h hd ha hg ho hn hh t1 kt kh c0 hin
    go_enter Tryz.func66, Tryz.ntmps66
    go_wp2_with fail
    refine HI.out.mono ?_
    rintro e w' ⟨rfl, rfl⟩
    go_wp2_with fail
    refine HN.out.mono ?_
    rintro e w' ⟨rfl, rfl⟩
    go_wp2_with fail
    go_ret2
    exact ⟨rfl, rfl⟩
end
end refRack
end Go.Proofs.YthioanenljpclaaGreatDoor
namespace Go.Proofs.YthioanenljpclaaGreatDoor
open Go Go.RowKit
set_option maxRecDepth 100000
set_option linter.unusedVariables false
namespace refRack
def freeF (fr : Nat × Nat) (m : Nat) : Prop := fr.2 ≤ fr.1 ∨ m ≤ fr.1
/-- n bytes at the head of block g -/
def RowF (w : World) (g n : Nat) (X : Nat → Nat) : Prop := ∃ cs fr, w.heap[g]? = some (.cells cs 5 fr) ∧ freeF fr cs.size ∧ ∀ j, j < n → cs[j]? = some (.int .u8 ((X j : Nat) : Int))
section
variable {w w' : World} {g n : Nat} {X : Nat → Nat}
theorem RowF.cell (h : RowF w g n X) {j : Nat} (hj : j < n) : w.cell? ⟨g, j, none⟩ = some (.int .u8 ((X j : Nat) : Int)) := by
  obtain ⟨cs, fr, hb, _, hc⟩ := h
  rw [cell_of_row _ _ _ _ _ _ hb]
  exact hc j hj
theorem RowF.frozen (h : RowF w g n X) {j : Nat} (hj : j < n) : w.frozen? ⟨g, j, none⟩ = false := by
  obtain ⟨cs, fr, hb, hf, hc⟩ := h
  have hlt := (Array.getElem?_eq_some_iff.1 (hc j hj)).1
  unfold freeF at hf
  simp only [World.frozen?, hb]
  simp
  omega
theorem RowF.set (h : RowF w g n X) {k v : Nat} (hk : k < n) : RowF (w.setCell ⟨g, k, none⟩ (.int .u8 ((v : Nat) : Int))) g n (fun j => if j = k then v else X j) := by
  obtain ⟨cs, fr, hb, hf, hc⟩ := h
  refine ⟨cs.setIfInBounds k (.int .u8 ((v : Nat) : Int)), fr, ?_, by simpa using hf, fun j hj => ?_⟩
  · rw [setCell_eq_setRow w g k cs _ fr _ hb]
    exact setRow_heap w g cs _ _ fr hb
  have hk' := (Array.getElem?_eq_some_iff.1 (hc k hk)).1
  rw [Array.getElem?_setIfInBounds]
  by_cases e : k = j
  · subst e
    rw [if_pos rfl, if_pos hk']
    show _ = some (Value.int .u8 (((if k = k then v else X k) : Nat) : Int))
    rw [if_pos rfl]
  · rw [if_neg e]
    show _ = some (Value.int .u8 (((if j = k then v else X j) : Nat) : Int))
    rw [if_neg (fun x : j = k => e x.symm)]
    exact hc j hj
theorem RowF.conv (h : RowF w g n X) (c : Nat) : (convert 51 9 (.slice (some ⟨g, 0, none⟩) n c)).run Tryz.prog w = .ok (.string (strB n X)) w :=
  run_convert_bytes_arg w 51 5 Tryz.underlying51 Tryz.underlying5 g 0 n c _ (by simp) (fun i hi => by
    rw [Nat.zero_add, h.cell hi]
    simp [List.getD_eq_getElem?_getD, hi]) 9 Tryz.underlying9
end
theorem conv_strR (n : Nat) (X : Nat → Nat) (w : World) (hX : ∀ j, j < n → X j < 256) (hn : n ≤ maxLen) : ∃ c w', (convert 9 51 (.string (strB n X))).run Tryz.prog w = .ok (.slice (some ⟨w.heap.size, 0, none⟩) n c) w' ∧ RowF w' w.heap.size n X ∧ Below w.heap.size w w' := by
  have hr := Lib.run_convert_string_bytes (P := Tryz.prog) w 9 51 5 (strB n X) Tryz.underlying9 Tryz.underlying51 Tryz.underlying5
  have hss := strB_sizeR n X
  rw [hss] at hr
  have hs2 : (strB n X).data.size = n := hss
  have hge := grownCap_ge w n 0 5
  have hsz : (Lib.bytesCells w 5 (strB n X)).size = grownCap w n 0 5 := by
    unfold Lib.bytesCells
    simp [hs2, hss]
    omega
  refine ⟨_, _, hr, ⟨_, _, Lib.bytesWorld_at_new w 5 (strB n X), .inr (Nat.le_refl _), fun j hj => ?_⟩, ⟨rfl, rfl, rfl, by rw [Lib.bytesWorld_size]; omega, fun k hk => Lib.bytesWorld_at_old w 5 (strB n X) k hk⟩⟩
  have h1 := Lib.bytesWorld_cell w 5 (strB n X) j (by rw [hss]; exact hj)
  rw [cell_of_row _ _ _ _ _ _ (Lib.bytesWorld_at_new w 5 (strB n X))] at h1
  rw [h1, strB_dataR]
  have := hX j hj
  simp [List.getD_eq_getElem?_getD, hj, UInt8.toNat_ofNat']
  omega
theorem wpList_conv_strR {w : World} {ops : Array Oper} {rest : List Oper} {o : Oper} {a : Act} {Q : Exit → Act → World → Prop} (hgd : o.guard = none) (x : Operand) (ho : o.op = .convert 9 51 x) {n : Nat} {X : Nat → Nat} {T : ByteArray} (hx : a.eval x = .string T) (hT : T = strB n X) (hX : ∀ j, j < n → X j < 256) (hn : n ≤ maxLen)
    (h : ∀ c w', RowF w' w.heap.size n X → Below w.heap.size w w' → wpList Tryz.prog ops Q rest (a.put o.dst (.slice (some ⟨w.heap.size, 0, none⟩) n c)) w') : wpList Tryz.prog ops Q (o :: rest) a w := by
  subst hT
  obtain ⟨c, w', hr, h1, h2⟩ := conv_strR n X w hX hn
  refine wpList_plain hgd fun K hK => ?_
  unfold Oper.wp execOp
  simp only [ho, hx, hr, Sem.run_bind, Sem.run_pure, Result.andThen_ok]
  exact hK _ _ (h c w' h1 h2)
set_option maxHeartbeats 800000 in
theorem rotten_k (w : World) (X : Nat → Nat) (n : Nat) (hX : ∀ j, j < 128 → X j < 256) (hn : n ≤ 9223372036854775807) :
    Calls Tryz.prog 49 #[textV X, .int .i64 (n : Int)] w fun e w' => e = .returned (textV (rotF X n)) ∧ Below w.heap.size w w' := by
  obtain ⟨k, hk⟩ : ∃ k, k = n % 128 := ⟨_, rfl⟩
  obtain ⟨q, hq⟩ : ∃ q, q = n / 128 % 255 := ⟨_, rfl⟩
  have hk1 : k < 128 := by omega
  have hq1 : q < 255 := by omega
  have hrot : (fun j => if j = k then X k ^^^ (1 + q) else X j) = rotF X n := by
    funext j
    unfold rotF
    rw [← hk, ← hq]
    by_cases e : j = k
    · rw [if_pos e, if_pos e, e]
    · rw [if_neg e, if_neg e]
  have m5 : bits .xor .u8 ((X k : Nat) : Int) (1 + (q : Int)) = ((X k ^^^ (1 + q) : Nat) : Int) := by
    have h := u8_xor_natR (X k) (1 + q) (hX k hk1) (by omega)
    rw [show ((1 + q : Nat) : Int) = 1 + (q : Int) by omega] at h
    exact h
  have m1 : (n : Int) % 128 = (k : Int) := by omega
  have m2 : 1 + (n : Int) / 128 % 255 = ((1 + q : Nat) : Int) := by omega
  have n0 : (0 : Int) ≤ (n : Int) := by omega
  have n1 : (n : Int) ≤ 9223372036854775807 := by omega
  have HX := Lib.hid hX
  have HROT := Lib.hid hrot
  have HM : Hid (128 ≤ maxLen) := Lib.hid (by unfold maxLen; omega)
  clear hk hq hrot hX
  unfold textV
  obtain ⟨T, hT⟩ : ∃ T, T = strB 128 X := ⟨_, rfl⟩
  rw [← hT]
  have HT := Lib.hid hT
  have i0 : (0 : Int) ≤ (k : Int) := by omega
  have i1 : (k : Int) < 128 := by omega
  clear hT
  go_enter Tryz.func49, Tryz.ntmps49
  go_wp2_with ((with_reducible refine wpList_conv_strR (n := 128) (X := X) rfl (.tmp 6) rfl rfl HT.out HX.out HM.out ?_); intro c w1 hr hb1; refine of_hid ?_)
  refine Lib.hid ?_
  have c1 := hr.cell hk1
  have f1 := hr.frozen hk1
  have HR := Lib.hid (hr.set (v := X k ^^^ (1 + q)) hk1)
  have L1 := Lib.hid (hb1.setCell (p := ⟨w.heap.size, k, none⟩) (Nat.le_refl _) (.int .u8 ((X k ^^^ (1 + q) : Nat) : Int)))
  have c2 := HR.out.conv c
  rw [HROT.out] at c2
  clear hr hb1
  go_wp2_with fail
  go_ret
  exact ⟨rfl, L1.out⟩
end refRack
end Go.Proofs.YthioanenljpclaaGreatDoor
