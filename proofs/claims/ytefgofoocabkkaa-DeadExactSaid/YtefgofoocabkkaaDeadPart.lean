/-
  'part' by a contract: which blocks were born behind a transaction, which not, each in their order. The conditions: the list can be read and has room.
-/
import Derived.Test.YtefgofoocabkkaaDeadOwn
namespace Go.Proofs.Ytefgofoocabkkaa
open Go Go.RowKit
set_option maxRecDepth 100000
set_option linter.unusedVariables false
namespace Dd
def olderL (t : Int) (D : List Pt) : List Pt := D.filter fun p => decide (p.birth ≤ t)
def laterL (t : Int) (D : List Pt) : List Pt := D.filter fun p => decide (t < p.birth)
theorem older_app (t : Int) (D : List Pt) (p : Pt) : olderL t (D ++ [p]) = olderL t D ++ (if p.birth ≤ t then [p] else []) := by
  unfold olderL
  rw [List.filter_append, List.filter_cons, List.filter_nil]
  by_cases h : p.birth ≤ t <;> simp [h]
theorem later_app (t : Int) (D : List Pt) (p : Pt) : laterL t (D ++ [p]) = laterL t D ++ (if t < p.birth then [p] else []) := by
  unfold laterL
  rw [List.filter_append, List.filter_cons, List.filter_nil]
  by_cases h : t < p.birth <;> simp [h]
def PartPost (w : World) (t : Int) (D : List Pt) (e : Ending) (w' : World) : Prop := ∃ v4 v5, e = .returned (.tuple #[v4, v5]) ∧ OwnP w' w.heap.size v4 (olderL t D) ∧ OwnP w' w.heap.size v5 (laterL t D) ∧ Below w.heap.size w w'
set_option maxHeartbeats 12800000 in
theorem part_at (w : World) (D : List Pt) (t : Int) (A : Option Addr) (c n : Nat) (hn : n = D.length) (hl : D.length * 40 ≤ room) (hrd : RdP w A D) :
    Calls Try.prog 14 #[.slice A n c, .int .i64 t] w fun e w' => PartPost w t D e w' := by
  have HN := Lib.hid hn
  have HRD := Lib.hid hrd
  have hnr : n * 40 ≤ 140737488351432 := by rw [hn]; exact hl
  have HBH := Lib.hid (behind_at w t)
  clear hn hl hrd
  go_enter Try.func14, Try.ntmps14
  go_wp2_with fail
  refine HBH.out.mono ?_
  rintro e w0 ⟨b, rfl, hbk, hb0⟩
  have HBK := Lib.hid hbk
  have LW := Lib.hid hb0
  have HO0 : Hid (OwnP w0 w.heap.size (.slice none 0 0) (olderL t (D.take 0))) := Lib.hid (Gr.OwnG.nil _ _)
  have HO1 : Hid (OwnP w0 w.heap.size (.slice none 0 0) (laterL t (D.take 0))) := Lib.hid (Gr.OwnG.nil _ _)
  have HAP : Hid (∀ g, (Value.slice none 0 0).ownBlock = some g → (Value.slice none 0 0).ownBlock ≠ some g) := Lib.hid fun g h => by cases h
  clear hbk hb0 HBH
  go_wp2_with fail
  go_loopw [13, 4, 5] (fun y s4 s5 wr => ∃ i : Nat, i ≤ n ∧ y = .int .i64 (i : Int) ∧ Hid (OwnP wr w.heap.size s4 (olderL t (D.take i))) ∧ Hid (OwnP wr w.heap.size s5 (laterL t (D.take i))) ∧ Hid (∀ g, s4.ownBlock = some g → s5.ownBlock ≠ some g) ∧ Hid (Below w.heap.size w wr) ∧ Hid (Blk wr b 3 #[.int .i64 t])) (fun y _ _ _ => n - (intOf y).toNat)
  case atStart => exact ⟨0, by omega, rfl, HO0, HO1, HAP, LW, HBK⟩
  case round =>
    clear HO0 HO1 HAP LW HBK
    obtain ⟨i, hi, rfl, HO4, HO5, HAP, LW, HBK⟩ := hrel
    by_cases hlt : i < n
    · have i1 : (i : Int) < (n : Int) := by omega
      have hil : i < D.length := by have := HN.out; omega
      obtain ⟨p, hp⟩ : ∃ p, p = D[i] := ⟨_, rfl⟩
      have hpi : D[i]? = some p := by rw [hp]; exact List.getElem?_eq_getElem hil
      have hstep : D.take (i + 1) = D.take i ++ [p] := by rw [List.take_succ_eq_append_getElem hil, hp]
      obtain ⟨g, o, hA, hgb, kk⟩ := (HRD.out.below LW.out) i p hpi
      have k0 := kk 0 (.int .i64 p.addr) rfl
      have k1 := kk 1 (.int .i64 p.size) rfl
      have k2 := kk 2 (.int .i64 p.birth) rfl
      have k3 := kk 3 (.string p.sum) rfl
      rw [Nat.add_zero] at k0
      subst hA
      obtain ⟨W1, hW1⟩ : ∃ W1, W1 = wr.alloc (.cells #[.int .i64 p.addr, .int .i64 p.size, .int .i64 p.birth, .string p.sum] 36) := ⟨_, rfl⟩
      obtain ⟨r8, hr8⟩ : ∃ r8, r8 = wr.heap.size := ⟨_, rfl⟩
      have hbw : Below wr.heap.size wr W1 := by rw [hW1]; exact (Below.refl _ _).alloc (Nat.le_refl _) _
      have HX8 : Hid (Blk W1 r8 36 #[.int .i64 p.addr, .int .i64 p.size, .int .i64 p.birth, .string p.sum]) := Lib.hid (by rw [hW1, hr8]; exact Blk.new _ _ _)
      have HBW := Lib.hid hbw
      have LW1 := Lib.hid (LW.out.trans (hbw.mono LW.out.size))
      have HL := Lib.hid (later_at W1 b t p ((HBK.out.below hbw HBK.out.lt).cell 0) (HBK.out.below hbw HBK.out.lt).lt)
      have z0 : W1.cell? ⟨r8, 0, none⟩ = some (.int .i64 p.addr) := HX8.out.cell 0
      have z1 : W1.cell? ⟨r8, 1, none⟩ = some (.int .i64 p.size) := HX8.out.cell 1
      have z2 : W1.cell? ⟨r8, 2, none⟩ = some (.int .i64 p.birth) := HX8.out.cell 2
      have z3 : W1.cell? ⟨r8, 3, none⟩ = some (.string p.sum) := HX8.out.cell 3
      have HW1 := Lib.hid hW1
      have HR8 := Lib.hid hr8
      clear hbw hW1 hr8 hgb
      by_cases hz : t < p.birth
      · have hof : olderL t (D.take (i + 1)) = olderL t (D.take i) := by rw [hstep, older_app, if_neg (by omega), List.append_nil]
        have hlf : laterL t (D.take (i + 1)) = laterL t (D.take i) ++ [p] := by rw [hstep, later_app, if_pos (by omega)]
        rw [decide_eq_true hz] at HL
        have HOF := Lib.hid (⟨hof, hlf⟩ : _ ∧ _)
        clear hof hlf hpi hp hil kk hz
        go_upto_region 5 with (fail)
        rw [← HW1.out, ← HR8.out]
        go_wp2_with fail
        refine HL.out.mono ?_
        rintro e W2 ⟨rfl, b2⟩
        have hsz2 : W1.heap.size ≤ W2.heap.size := b2.size
        have Y8 := HX8.out.below b2 HX8.out.lt
        have y0 : W2.cell? ⟨r8, 0, none⟩ = some (.int .i64 p.addr) := Y8.cell 0
        have y1 : W2.cell? ⟨r8, 1, none⟩ = some (.int .i64 p.size) := Y8.cell 1
        have y2 : W2.cell? ⟨r8, 2, none⟩ = some (.int .i64 p.birth) := Y8.cell 2
        have y3 : W2.cell? ⟨r8, 3, none⟩ = some (.string p.sum) := Y8.cell 3
        have hba : Below W2.heap.size W2 (W2.alloc (.cells #[.int .i64 p.addr, .int .i64 p.size, .int .i64 p.birth, .string p.sum] 36)) := (Below.refl _ _).alloc (Nat.le_refl _) _
        have HBA := Lib.hid hba
        have L2 := Lib.hid (LW1.out.trans (b2.mono LW1.out.size))
        have HOA := Lib.hid (((HO5.out.below HBW.out (Nat.le_refl _)).below b2 (Nat.le_refl _)).below hba (Nat.le_refl _))
        have HOB := Lib.hid (((HO4.out.below HBW.out (Nat.le_refl _)).below b2 (Nat.le_refl _)).below hba (Nat.le_refl _))
        have HK2 := Lib.hid (((HBK.out.below HBW.out HBK.out.lt).below b2 (HBK.out.below HBW.out HBK.out.lt).lt).below hba (((HBK.out.below HBW.out HBK.out.lt).below b2 (HBK.out.below HBW.out HBK.out.lt).lt).lt))
        have HP1 := Lib.hid (rd_one W2 p)
        have HBY : Hid (((laterL t (D.take i)).length + [p].length) * 40 ≤ 140737488355328) := Lib.hid (by
          have h1 : (laterL t (D.take i)).length ≤ (D.take i).length := List.length_filter_le _ _
          rw [List.length_take] at h1
          have h2 : [p].length = 1 := rfl
          rw [h2]
          omega)
        have HBZ : Hid (w.heap.size ≤ (W2.alloc (.cells #[.int .i64 p.addr, .int .i64 p.size, .int .i64 p.birth, .string p.sum] 36)).heap.size) := Lib.hid (Nat.le_trans L2.out.size hba.size)
        clear b2 hsz2 Y8 hba
        go_wp2_with (at_builtin; refine wpList_appP (v := u5) (A := some ⟨W2.heap.size, 0, none⟩) (n := 1) (c := 1) [p] rfl (.tmp 20) (.tmp 22) rfl rfl rfl HOA.out rfl HP1.out (fun e => by cases e) HBY.out HBZ.out ?_; intro v7 W7 o7 b7 c7; refine of_hid ?_)
        refine Lib.hid ?_
        have hne : ∀ g cur, Blk (W2.alloc (.cells #[.int .i64 p.addr, .int .i64 p.size, .int .i64 p.birth, .string p.sum] 36)) g 3 cur → u5.ownBlock ≠ some g := fun g cur hg e => by
          obtain ⟨cu, h1⟩ := HOA.out.blk_of e
          exact (Blk.ne_ h1 hg (by decide)) rfl
        have ZK : Hid (Blk W7 b 3 #[.int .i64 t]) := Lib.hid ((c7.2.1 b HK2.out.lt (hne _ _ HK2.out)).trans HK2.out)
        have ZA : Hid (OwnP W7 w.heap.size v7 (laterL t (D.take (i + 1)))) := Lib.hid (by rw [HOF.out.2]; exact o7)
        have ZB : Hid (OwnP W7 w.heap.size u4 (olderL t (D.take (i + 1)))) := Lib.hid (by rw [HOF.out.1]; exact HOB.out.keep fun g hg => c7.2.1 g (HOB.out.lt hg).1 (HAP.out g hg))
        have ZL : Hid (Below w.heap.size w W7) := Lib.hid ((L2.out.trans (HBA.out.mono L2.out.size)).trans b7)
        have ZP : Hid (∀ g, u4.ownBlock = some g → v7.ownBlock ≠ some g) := Lib.hid (fun g hg he => by
          rcases c7.2.2 with h | h
          · exact HAP.out g (hg) (h.symm.trans he)
          · rw [h] at he
            have h := he
            injection h with h
            have := (HOB.out.lt hg).1
            omega)
        clear y0 y1 y2 y3 o7 b7 c7 hne HOA HOB HK2 HP1 HBY HBZ HBA L2 HO4 HO5 HAP HBK HOF HL LW1 LW HX8 HBW HW1 HR8
        go_wp2_with fail
        go_roundw
        case rel => exact ⟨i + 1, by omega, by go_num, ZB, ZA, ZP, ZL, ZK⟩
        case measure => simp [intOf]; omega
      · have hof : olderL t (D.take (i + 1)) = olderL t (D.take i) ++ [p] := by rw [hstep, older_app, if_pos (by omega)]
        have hlf : laterL t (D.take (i + 1)) = laterL t (D.take i) := by rw [hstep, later_app, if_neg (by omega), List.append_nil]
        rw [decide_eq_false hz] at HL
        have HOF := Lib.hid (⟨hof, hlf⟩ : _ ∧ _)
        clear hof hlf hpi hp hil kk hz
        go_upto_region 5 with (fail)
        rw [← HW1.out, ← HR8.out]
        go_wp2_with fail
        refine HL.out.mono ?_
        rintro e W2 ⟨rfl, b2⟩
        have hsz2 : W1.heap.size ≤ W2.heap.size := b2.size
        have Y8 := HX8.out.below b2 HX8.out.lt
        have y0 : W2.cell? ⟨r8, 0, none⟩ = some (.int .i64 p.addr) := Y8.cell 0
        have y1 : W2.cell? ⟨r8, 1, none⟩ = some (.int .i64 p.size) := Y8.cell 1
        have y2 : W2.cell? ⟨r8, 2, none⟩ = some (.int .i64 p.birth) := Y8.cell 2
        have y3 : W2.cell? ⟨r8, 3, none⟩ = some (.string p.sum) := Y8.cell 3
        have hba : Below W2.heap.size W2 (W2.alloc (.cells #[.int .i64 p.addr, .int .i64 p.size, .int .i64 p.birth, .string p.sum] 36)) := (Below.refl _ _).alloc (Nat.le_refl _) _
        have HBA := Lib.hid hba
        have L2 := Lib.hid (LW1.out.trans (b2.mono LW1.out.size))
        have HOA := Lib.hid (((HO4.out.below HBW.out (Nat.le_refl _)).below b2 (Nat.le_refl _)).below hba (Nat.le_refl _))
        have HOB := Lib.hid (((HO5.out.below HBW.out (Nat.le_refl _)).below b2 (Nat.le_refl _)).below hba (Nat.le_refl _))
        have HK2 := Lib.hid (((HBK.out.below HBW.out HBK.out.lt).below b2 (HBK.out.below HBW.out HBK.out.lt).lt).below hba (((HBK.out.below HBW.out HBK.out.lt).below b2 (HBK.out.below HBW.out HBK.out.lt).lt).lt))
        have HP1 := Lib.hid (rd_one W2 p)
        have HBY : Hid (((olderL t (D.take i)).length + [p].length) * 40 ≤ 140737488355328) := Lib.hid (by
          have h1 : (olderL t (D.take i)).length ≤ (D.take i).length := List.length_filter_le _ _
          rw [List.length_take] at h1
          have h2 : [p].length = 1 := rfl
          rw [h2]
          omega)
        have HBZ : Hid (w.heap.size ≤ (W2.alloc (.cells #[.int .i64 p.addr, .int .i64 p.size, .int .i64 p.birth, .string p.sum] 36)).heap.size) := Lib.hid (Nat.le_trans L2.out.size hba.size)
        clear b2 hsz2 Y8 hba
        go_wp2_with (at_builtin; refine wpList_appP (v := u4) (A := some ⟨W2.heap.size, 0, none⟩) (n := 1) (c := 1) [p] rfl (.tmp 24) (.tmp 26) rfl rfl rfl HOA.out rfl HP1.out (fun e => by cases e) HBY.out HBZ.out ?_; intro v7 W7 o7 b7 c7; refine of_hid ?_)
        refine Lib.hid ?_
        have hne : ∀ g cur, Blk (W2.alloc (.cells #[.int .i64 p.addr, .int .i64 p.size, .int .i64 p.birth, .string p.sum] 36)) g 3 cur → u4.ownBlock ≠ some g := fun g cur hg e => by
          obtain ⟨cu, h1⟩ := HOA.out.blk_of e
          exact (Blk.ne_ h1 hg (by decide)) rfl
        have ZK : Hid (Blk W7 b 3 #[.int .i64 t]) := Lib.hid ((c7.2.1 b HK2.out.lt (hne _ _ HK2.out)).trans HK2.out)
        have ZA : Hid (OwnP W7 w.heap.size v7 (olderL t (D.take (i + 1)))) := Lib.hid (by rw [HOF.out.1]; exact o7)
        have ZB : Hid (OwnP W7 w.heap.size u5 (laterL t (D.take (i + 1)))) := Lib.hid (by rw [HOF.out.2]; exact HOB.out.keep fun g hg => c7.2.1 g (HOB.out.lt hg).1 (fun e => HAP.out g e hg))
        have ZL : Hid (Below w.heap.size w W7) := Lib.hid ((L2.out.trans (HBA.out.mono L2.out.size)).trans b7)
        have ZP : Hid (∀ g, v7.ownBlock = some g → u5.ownBlock ≠ some g) := Lib.hid (fun g hg he => by
          rcases c7.2.2 with h | h
          · exact HAP.out g (h.symm.trans hg) (he)
          · rw [h] at hg
            have h := hg
            injection h with h
            have := (HOB.out.lt he).1
            omega)
        clear y0 y1 y2 y3 o7 b7 c7 hne HOA HOB HK2 HP1 HBY HBZ HBA L2 HO4 HO5 HAP HBK HOF HL LW1 LW HX8 HBW HW1 HR8
        go_wp2_with fail
        go_roundw
        case rel => exact ⟨i + 1, by omega, by go_num, ZA, ZB, ZP, ZL, ZK⟩
        case measure => simp [intOf]; omega
    · obtain rfl : i = n := by omega
      have i1 : ¬ ((i : Int) < (i : Int)) := by omega
      have HEND : Hid (D.take i = D) := Lib.hid (List.take_of_length_le (by have := HN.out; omega))
      clear hlt
      go_wp2_with fail
      refine bodyPost_ret (results_tmp2 rfl _ _ _) rfl ?_
      have h4 := HO4.out
      have h5 := HO5.out
      rw [HEND.out] at h4 h5
      exact ⟨_, _, rfl, h4, h5, LW.out⟩
end Dd
end Go.Proofs.Ytefgofoocabkkaa
