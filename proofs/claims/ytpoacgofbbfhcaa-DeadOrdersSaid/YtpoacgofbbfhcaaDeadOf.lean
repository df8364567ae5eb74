/-
  The law's own 'of': a line in memory of its own, with spare room. The conditions: the line can be read, its rows have room.
-/
import Derived.Test.YtpoacgofbbfhcaaDeadCopy
namespace Go.Proofs.Ytpoacgofbbfhcaa
open Go Go.RowKit
set_option maxRecDepth 100000
set_option linter.unusedVariables false
namespace Dd
/-- zero blocks -/
def zcs (k : Nat) : Array Value := madeCells #[.int .i64 0, .int .i64 0, .int .i64 0, .string ⟨#[]⟩] (k * 4)
theorem make_pts (m : Nat) (hm : m * 40 ≤ 140737488351432) (w : World) : (Instr.makeSlice 23 (.int .i64 0) (.int .i64 ((m : Int) + 2))).run Try.prog w = .ok (.slice (some ⟨w.heap.size, 0, none⟩) 0 (m + 2)) (w.alloc (.cells (zcs (m + 2)) 27)) := by
  obtain ⟨i0, hi, hz0, hz1, hz2⟩ := info_parts infoP
  have h := run_make (P := Try.prog) (w := w) 23 27 i0 _ Try.underlying23 hi hz0 .i64 .i64 0 ((m : Int) + 2) (by omega) (by omega) (by rw [hz2]; omega) (by omega)
  rw [h, hz1, show ((m : Int) + 2).toNat = m + 2 by omega]
  rfl
theorem zcs_size (k : Nat) : (zcs k).size = k * 4 := by simp [zcs, madeCells]
theorem own_zeros (w : World) (m : Nat) (hm : m * 40 ≤ 140737488351432) : OwnP (w.alloc (.cells (zcs (m + 2)) 27)) w.heap.size (.slice (some ⟨w.heap.size, 0, none⟩) 0 (m + 2)) [] :=
  ⟨rfl, .inr ⟨w.heap.size, m + 2, zcs (m + 2), rfl, Nat.le_refl _, heap_alloc_new w _, Nat.zero_le _, by unfold maxLen; omega, by rw [zcs_size], by simp⟩⟩
theorem add_two (m : Nat) (hm : m * 40 ≤ 140737488351432) (w : World) : (binOp .add 3 (.int .i64 (m : Int)) (.int .i64 2)).run Try.prog w = .ok (.int .i64 ((m : Int) + 2)) w := by
  have e : IntKind.i64.wrap ((m : Int) + 2) = (m : Int) + 2 := by rw [IntWalk.i64_in _ (by omega)]
  have h : (binOp .add 3 (.int .i64 (m : Int)) (.int .i64 2)).run Try.prog w = .ok (.int .i64 (IntKind.i64.wrap ((m : Int) + 2))) w := rfl
  rw [h, e]
/-- a row with room for two more, all of it noughts -/
def SpR (w : World) (v : Value) (D : List Pt) : Prop := ∃ g, v = .slice (some ⟨g, 0, none⟩) D.length (D.length + 2) ∧ Blk w g 27 (D.flatMap csP ++ (zcs 2).toList).toArray
theorem SpR.keep {w w' : World} {v : Value} {D : List Pt} (h : SpR w v D) (hk : ∀ g, v.ownBlock = some g → w'.heap[g]? = w.heap[g]?) : SpR w' v D := by
  obtain ⟨g, rfl, h2⟩ := h
  exact ⟨g, rfl, (hk g rfl).trans h2⟩
theorem SpR.ptr {w w' : World} {v : Value} {D : List Pt} (h : SpR w v D) (hk : ∀ g cur, Blk w g 27 cur → w'.heap[g]? = w.heap[g]?) : SpR w' v D := by
  obtain ⟨g, rfl, h2⟩ := h
  exact ⟨g, rfl, (hk g _ h2).trans h2⟩
def Spared (w : World) (vs : List SV) (S : List Sn) : Prop := vs.length = S.length ∧ ∀ (i : Nat) (s : Sn), S[i]? = some s → ∃ x, vs[i]? = some x ∧ SpR w x.row s.dead
theorem Spared.ptr {w w' : World} {vs : List SV} {S : List Sn} (h : Spared w vs S) (hk : ∀ g cur, Blk w g 27 cur → w'.heap[g]? = w.heap[g]?) : Spared w' vs S :=
  ⟨h.1, fun i s hs => by obtain ⟨x, h1, h2⟩ := h.2 i s hs; exact ⟨x, h1, h2.ptr hk⟩⟩
theorem Spared.snoc {w : World} {vs : List SV} {S : List Sn} {t : Int} {A : Option Addr} {n c : Nat} {D : List Pt} (h : Spared w vs S) (hr : SpR w (.slice A n c) D) (hn : n = D.length) : Spared w (vs ++ [⟨t, A, n, c⟩]) (S ++ [⟨t, D⟩]) := by
  refine ⟨by rw [List.length_append, List.length_append, h.1]; rfl, fun i s hs => ?_⟩
  by_cases hi : i < S.length
  · rw [List.getElem?_append_left hi] at hs
    obtain ⟨x, h1, h2⟩ := h.2 i s hs
    exact ⟨x, by rw [List.getElem?_append_left (by rw [h.1]; exact hi)]; exact h1, h2⟩
  · rw [List.getElem?_append_right (by omega)] at hs
    have e : i - S.length = 0 := by
      have := (List.getElem?_eq_some_iff.1 hs).1
      simp at this
      omega
    rw [e] at hs
    injection hs with hs
    subst hs
    exact ⟨⟨t, A, n, c⟩, by rw [List.getElem?_append_right (by rw [h.1]; omega), h.1, e]; rfl, hr⟩
theorem zcs_split (k : Nat) : (zcs (k + 2)).toList.drop (k * 4) = (zcs 2).toList := by
  apply List.ext_getElem?
  intro j
  rw [List.getElem?_drop, Array.getElem?_toList, Array.getElem?_toList]
  unfold zcs madeCells
  simp only [Array.getElem?_map, Array.getElem?_range]
  by_cases h : j < 2 * 4
  · rw [if_pos (by omega), if_pos h]
    simp only [Option.map_some]
    congr 2
    show (k * 4 + j) % 4 = j % 4
    omega
  · rw [if_neg (by omega), if_neg h]
theorem app_of {w : World} {base b : Nat} {A : Option Addr} {n c : Nat} (h : OwnP w base (.slice (some ⟨b, 0, none⟩) 0 (n + 2)) [] ∧ Blk w b 27 (zcs (n + 2))) (D : List Pt) (hn : n = D.length) (hm : RdP w A D) (hA : A = none → c = 0) (hby : D.length * 40 ≤ 140737488355328) (hb : base ≤ w.heap.size) (ty : TypeId) :
    ∃ v' w', (Builtin.append_ #[23, 23] ty #[.slice (some ⟨b, 0, none⟩) 0 (n + 2), .slice A n c]).run Try.prog w = .ok v' w' ∧ OwnP w' base v' D ∧ Below base w w' ∧ (∀ g, g < w.heap.size → (Value.slice (some ⟨b, 0, none⟩) 0 (n + 2)).ownBlock ≠ some g → w'.heap[g]? = w.heap[g]?) ∧ SpR w' v' D := by
  obtain ⟨i0, hi0, hz0, hz1, hz2⟩ := info_parts infoP
  cases A with
  | none =>
    have e1 : D = [] := by
      cases D with
      | nil => rfl
      | cons x m => obtain ⟨b, o, e, _⟩ := hm 0 x rfl; cases e
    subst e1
    rw [hA rfl]
    subst hn
    exact ⟨_, w, run_append_owned_none w base 23 ty 27 i0 4 Try.underlying23 hi0 _ _ _ h.1, h.1, Below.refl _ _, fun _ _ _ => rfl, b, rfl, h.2⟩
  | some ad =>
    have hr : ∀ j u, (D.flatMap csP)[j]? = some u → w.cell? (ad.add j) = some u := by
      cases D with
      | nil => intro j u hj; simp at hj
      | cons x m' =>
        obtain ⟨b, o, e, _⟩ := hm 0 x rfl
        injection e with e
        subst e
        exact Gr.rd_flat (k := 4) (cs := csP) (fun _ => rfl) (by decide) hm
    have hl : (D.flatMap csP).length = n * 4 := by rw [Gr.flat_length (k := 4) (fun _ => rfl), hn]
    have hB : base ≤ b := by
      rcases h.1.2 with ⟨h1, _⟩ | ⟨g', cap, cur, h1, h2, _⟩
      · cases h1
      · injection h1 with h1
        injection h1 with h1
        injection h1 with h1
        omega
    have hrun := run_append_room (P := Try.prog) w 23 ty 27 i0 Try.underlying23 hi0 b 0 (n + 2) (zcs (n + 2)) h.2 ad n c (D.flatMap csP) (by rw [hz1]; exact hl) hr (fun u hu => by obtain ⟨x, _, hx⟩ := List.mem_flatMap.1 hu; exact csP_one x u hx) (by omega) (by rw [hl, zcs_size]; omega)
    rw [Nat.zero_add, Nat.zero_mul, List.take_zero, List.nil_append, Nat.zero_add, hl, zcs_split] at hrun
    have hblk : Blk (w.setRow b (D.flatMap csP ++ (zcs 2).toList).toArray) b 27 (D.flatMap csP ++ (zcs 2).toList).toArray := setRow_heap w b _ _ 27 _ h.2
    have hoth : ∀ g, g ≠ b → (w.setRow b (D.flatMap csP ++ (zcs 2).toList).toArray).heap[g]? = w.heap[g]? := fun g hg => setRow_other w b g _ hg
    refine ⟨_, _, hrun, ?_, ⟨rfl, rfl, rfl, by simp, fun g hg => hoth g (by omega)⟩, fun g _ hne => hoth g (fun e => hne (by rw [e]; rfl)), b, by rw [hn], hblk⟩
    refine ⟨by rw [hl, hn], .inr ⟨b, n + 2, _, by rw [hn], hB, hblk, by omega, ?_, ?_, ?_⟩⟩
    · unfold maxLen; omega
    · simp only [List.size_toArray, List.length_append, hl, Array.length_toList, zcs_size]; omega
    · rw [← hn, ← hl]
      exact List.take_left

def OfPost (w : World) (L : Ln) (e : Ending) (w' : World) : Prop := ∃ A c A' c' vs, e = .returned (.agg #[.int .i64 L.base, .slice A L.snaps.length c, .slice A' L.dead.length c']) ∧ LnO 65 w' w.heap.size A c A' c' vs L ∧ Spared w' vs L.snaps ∧ SpR w' (.slice A' L.dead.length c') L.dead ∧ Below w.heap.size w w'
set_option maxHeartbeats 25600000 in
theorem of_at (w : World) (L : Ln) (A A' : Option Addr) (c c' : Nat) (hf : Fit L) (hs : RdS w A L.snaps) (hsn : A = none → c = 0) (hd : RdP w A' L.dead) (hdn : A' = none → c' = 0) :
    Calls Try.prog 10 #[.agg #[.int .i64 L.base, .slice A L.snaps.length c, .slice A' L.dead.length c']] w fun e w' => OfPost w L e w' := by
  obtain ⟨n, hn⟩ : ∃ n, n = L.snaps.length := ⟨_, rfl⟩
  obtain ⟨m, hm⟩ : ∃ m, m = L.dead.length := ⟨_, rfl⟩
  obtain ⟨bs, hbs⟩ : ∃ bs, bs = L.base := ⟨_, rfl⟩
  have HF := Lib.hid hf
  have HN := Lib.hid hn
  have HM := Lib.hid hm
  have HBS := Lib.hid hbs
  have hmr : m * 40 ≤ 140737488351432 := by rw [hm]; exact hf.rd
  have hnr : n * 32 ≤ 140737488351432 := by rw [hn]; exact hf.rs
  have HBY : Hid (L.dead.length * 40 ≤ 140737488355328) := Lib.hid (by rw [← hm]; omega)
  have HRD := Lib.hid (⟨hd, hdn⟩ : _ ∧ _)
  have HRS := Lib.hid (⟨hs, hsn⟩ : _ ∧ _)
  rw [← hn, ← hm, ← hbs]
  obtain ⟨W_1, hw0⟩ : ∃ W9, W9 = w.alloc (.cells #[.int .i64 bs, .slice A n c, .slice A' m c'] 25) := ⟨_, rfl⟩
  obtain ⟨W, hw1⟩ : ∃ W9, W9 = W_1.alloc (.cells #[.int .i64 0, .slice none 0 0, .slice none 0 0] 33) := ⟨_, rfl⟩
  obtain ⟨r1, hr0⟩ : ∃ r9, r9 = w.heap.size := ⟨_, rfl⟩
  have hs0 : W_1.heap.size = r1 + 1 := by rw [hw0]; simp; omega
  obtain ⟨r2, hr1⟩ : ∃ r9, r9 = r1 + 1 := ⟨_, rfl⟩
  have hs1 : W.heap.size = r2 + 1 := by rw [hw1]; simp; omega
  have hb0 : Below w.heap.size w W_1 := by rw [hw0]; exact (Below.refl _ _).alloc (Nat.le_refl _) _
  have hb1 : Below w.heap.size w W := by rw [hw1]; exact hb0.alloc hb0.size _
  have Xr1 : Blk W r1 25 #[.int .i64 bs, .slice A n c, .slice A' m c'] := by
    have h := Blk.new w 25 #[.int .i64 bs, .slice A n c, .slice A' m c']
    rw [← hr0] at h
    rw [hw1, hw0]
    exact h.alloc _
  have Xr2 : Blk W r2 33 #[.int .i64 0, .slice none 0 0, .slice none 0 0] := by
    have h := Blk.new W_1 33 #[.int .i64 0, .slice none 0 0, .slice none 0 0]
    rw [hs0, ← hr1] at h
    rw [hw1]
    exact h
  have HE : Hid (r1 = w.heap.size ∧ r2 = r1 + 1) := Lib.hid ⟨hr0, hr1⟩
  have HW0 := Lib.hid hw0
  have HW1 := Lib.hid hw1
  have HWZ := Lib.hid hs1
  have hb := hb1
  obtain ⟨B, hBW⟩ : ∃ B, B = W.heap.size := ⟨_, rfl⟩
  have HEQ : Hid (r1 = w.heap.size ∧ r2 = r1 + 1 ∧ B = r2 + 1) := Lib.hid ⟨HE.out.1, HE.out.2, hBW.trans HWZ.out⟩
  have hEQ := HEQ.out
  have HS : Hid (Blk W.drew r1 25 #[.int .i64 bs, .slice A n c, .slice A' m c'] ∧ Blk W.drew r2 33 #[.int .i64 0, .slice none 0 0, .slice none 0 0] ∧ Below w.heap.size w W.drew) := Lib.hid ⟨Xr1, Xr2, hb.drew⟩
  have hBd : B = W.drew.heap.size := hBW
  have hFOLD := HE.out
  clear hn hm hbs hf hs hsn hd hdn hb Xr1 Xr2 hw0 hr0 hs0 hb0 hw1 hr1 hs1 hb1
  go_enter Try.func10, Try.ntmps10
  go_upto_region 1 with (fail)
  rw [← HW0.out, ← HW1.out, ← HE.out.1, ← HE.out.2]
  clear hFOLD
  go_cut [3] (fun x wx => ∃ (g3 : Nat) (A5 : Option Addr) (c5 : Nat), x = .pointer (some ⟨g3, 0, none⟩) ∧ Hid (Blk wx g3 33 #[.int .i64 bs, .slice none 0 0, .slice A5 m c5] ∧ OwnP wx B (.slice A5 m c5) L.dead ∧ SpR wx (.slice A5 m c5) L.dead ∧ Blk wx r1 25 #[.int .i64 bs, .slice A n c, .slice A' m c'] ∧ Blk wx r2 33 #[.int .i64 0, .slice none 0 0, .slice none 0 0] ∧ Below w.heap.size w wx ∧ B ≤ g3 ∧ g3 < wx.heap.size))
  case first =>
    refine region_anyZ (fun w' => Blk w' r1 25 #[.int .i64 bs, .slice A n c, .slice A' m c'] ∧ Blk w' r2 33 #[.int .i64 0, .slice none 0 0, .slice none 0 0] ∧ Below w.heap.size w w') 12 (by kernel_rfl) ?_
    refine takeG 0 (.fieldAddr 25 (.tmp 1) 0) (some 5) none (.pointer (some ⟨r1, 0, none⟩)) (by kernel_rfl) (by kernel_rfl) (by kernel_rfl) (fun _ _ _ h => h) (fun o' wq e hS => exec_field (u := .pointer (some ⟨r1, 0, none⟩)) wq e (by kernel_rfl) (by kernel_rfl)) HS.out ?_
    refine takeG 1 (.load 3 (.tmp 5)) (some 6) none (.int .i64 bs) (by kernel_rfl) (by kernel_rfl) (by kernel_rfl) (fun _ _ _ h => h) (fun o' wq e hS => exec_load (x := (.tmp 5)) e (by kernel_rfl) (load_one Try.underlying3 (by kernel_rfl) (hS.1.cell 0))) HS.out ?_
    refine takeG 2 (.fieldAddr 25 (.tmp 1) 2) (some 7) none (.pointer (some ⟨r1, 2, none⟩)) (by kernel_rfl) (by kernel_rfl) (by kernel_rfl) (fun _ _ _ h => h) (fun o' wq e hS => exec_field (u := .pointer (some ⟨r1, 0, none⟩)) wq e (by kernel_rfl) (by kernel_rfl)) HS.out ?_
    refine takeG 3 (.load 23 (.tmp 7)) (some 8) none (.slice A' m c') (by kernel_rfl) (by kernel_rfl) (by kernel_rfl) (fun _ _ _ h => h) (fun o' wq e hS => exec_load (x := (.tmp 7)) e (by kernel_rfl) (load_one Try.underlying23 (by kernel_rfl) (hS.1.cell 2))) HS.out ?_
    refine takeG 4 (.call ⟨.builtin .len, #[(.tmp 8)], #[23]⟩) (some 9) none (.int .i64 (m : Int)) (by kernel_rfl) (by kernel_rfl) (by kernel_rfl) (fun _ _ _ h => h) (fun o' wq e hS => exec_len (u := .slice A' m c') wq e (by kernel_rfl) (by kernel_rfl)) HS.out ?_
    refine takeG 5 (.binOp .add 3 (.tmp 9) (.const (.int .i64 2)) 3) (some 10) none (.int .i64 ((m : Int) + 2)) (by kernel_rfl) (by kernel_rfl) (by kernel_rfl) (fun _ _ _ h => h) (fun o' wq e hS => exec_bin (u1 := .int .i64 (m : Int)) (u2 := (.int .i64 2)) wq e (by kernel_rfl) (by kernel_rfl) (eqG_int ..) (add_two m (by omega) _)) HS.out ?_
    refine takeG 7 (.fieldAddr 25 (.tmp 1) 2) (some 12) none (.pointer (some ⟨r1, 2, none⟩)) (by kernel_rfl) (by kernel_rfl) (by kernel_rfl) (fun _ _ _ h => h) (fun o' wq e hS => exec_field (u := .pointer (some ⟨r1, 0, none⟩)) wq e (by kernel_rfl) (by kernel_rfl)) HS.out ?_
    refine takeG 8 (.load 23 (.tmp 12)) (some 13) none (.slice A' m c') (by kernel_rfl) (by kernel_rfl) (by kernel_rfl) (fun _ _ _ h => h) (fun o' wq e hS => exec_load (x := (.tmp 12)) e (by kernel_rfl) (load_one Try.underlying23 (by kernel_rfl) (hS.1.cell 2))) HS.out ?_
    refine twoG (i := 6) (j := 11) (op1 := (.makeSlice 23 (.const (.int .i64 0)) (.tmp 10))) (op2 := (.alloc 33)) (d1 := some 11) (d2 := some 3) (by kernel_rfl) (by kernel_rfl) (by kernel_rfl) ?A ?B
    case A =>
      intro o' ho hod
      refine wp_val (exec_make (u1 := .int .i64 0) (u2 := .int .i64 ((m : Int) + 2)) ho (by kernel_rfl) (by kernel_rfl) (make_pts m (by omega) _)) ?_
      rw [hod]
      clear hod ho
      have HSA : Hid (Blk (W.drew.alloc (.cells (zcs (m + 2)) 27)) r1 25 #[.int .i64 bs, .slice A n c, .slice A' m c'] ∧ Blk (W.drew.alloc (.cells (zcs (m + 2)) 27)) r2 33 #[.int .i64 0, .slice none 0 0, .slice none 0 0] ∧ Below w.heap.size w (W.drew.alloc (.cells (zcs (m + 2)) 27))) := Lib.hid ⟨HS.out.1.alloc _, HS.out.2.1.alloc _, HS.out.2.2.alloc HS.out.2.2.size _⟩
      have HOA : Hid (OwnP (W.drew.alloc (.cells (zcs (m + 2)) 27)) B (.slice (some ⟨W.drew.heap.size, 0, none⟩) 0 (m + 2)) [] ∧ Blk (W.drew.alloc (.cells (zcs (m + 2)) 27)) W.drew.heap.size 27 (zcs (m + 2))) := Lib.hid ⟨own_base (own_zeros W.drew m (by omega)) (by omega), Blk.new _ _ _⟩
      refine ⟨fun _ => HSA.out, ?_⟩
      refine twoG (i := 9) (j := 11) (op1 := (.call ⟨.builtin .append, #[(.tmp 11), (.tmp 13)], #[23, 23]⟩)) (op2 := (.alloc 33)) (d1 := some 14) (d2 := some 3) (by kernel_rfl) (by kernel_rfl) (by kernel_rfl) ?AA ?AB
      case AA =>
        intro o' ho hod
        have hszA : (W.drew.alloc (.cells (zcs (m + 2)) 27)).heap.size = B + 1 := by rw [hBW]; simp
        obtain ⟨v2, w2, hrun, ho2, hb2, hkx, hex⟩ := app_of (n := m) (c := c') (A := A') HOA.out L.dead HM.out (HRD.out.1.below (Below.mono HSA.out.2.2 (Nat.le_refl _))) HRD.out.2 HBY.out (by simp; omega) o'.type
        obtain ⟨A5, c5, hv2, _, _, _, _, _⟩ := ho2.shape (fun _ => rfl)
        rw [← HM.out] at hv2
        subst hv2
        refine Gr.wp_append 23 (.tmp 11) (.tmp 13) ho (by kernel_rfl) (by kernel_rfl) hrun ?_
        rw [hod]
        clear hod ho hrun
        have HSB := Lib.hid (⟨HSA.out.1.below hb2 (by omega), HSA.out.2.1.below hb2 (by omega), HSA.out.2.2.trans (hb2.mono (by omega))⟩ : _ ∧ _ ∧ _)
        have HOB := Lib.hid (⟨ho2, hex, hb2⟩ : _ ∧ _ ∧ _)
        refine ⟨fun _ => HSB.out, ?_⟩
        refine takeG 10 (.build 33 #[(0, (.tmp 6)), (2, (.tmp 14))]) (some 15) none (.agg #[.int .i64 bs, .slice none 0 0, .slice A5 m c5]) (by kernel_rfl) (by kernel_rfl) (by kernel_rfl) (fun _ _ _ h => h) (fun o' wq e hS => exec_bld2 (u0 := .int .i64 bs) (u1 := .slice A5 m c5) wq e (by kernel_rfl) (by kernel_rfl) (by kernel_rfl)) HSB.out ?_
        refine loneG 11 (.alloc 33) (some 3) none (by kernel_rfl) (by kernel_rfl) (by kernel_rfl) ?_
        intro o' ho hod
        refine wp_val (exec_alloc ho (alloc_ln _)) ?_
        rw [hod]
        clear hod ho
        have HSC : Hid (Blk (w2.alloc (.cells #[.int .i64 0, .slice none 0 0, .slice none 0 0] 33)) r1 25 #[.int .i64 bs, .slice A n c, .slice A' m c'] ∧ Blk (w2.alloc (.cells #[.int .i64 0, .slice none 0 0, .slice none 0 0] 33)) r2 33 #[.int .i64 0, .slice none 0 0, .slice none 0 0] ∧ Below w.heap.size w (w2.alloc (.cells #[.int .i64 0, .slice none 0 0, .slice none 0 0] 33))) := Lib.hid ⟨HSB.out.1.alloc _, HSB.out.2.1.alloc _, HSB.out.2.2.alloc HSB.out.2.2.size _⟩
        have HX3 := Lib.hid (Blk.new w2 33 #[.int .i64 0, .slice none 0 0, .slice none 0 0])
        have HOC := Lib.hid (⟨HOB.out.1.below ((Below.refl w2.heap.size w2).alloc (Nat.le_refl _) (.cells #[.int .i64 0, .slice none 0 0, .slice none 0 0] 33)) (Nat.le_refl _), HOB.out.2.1.keep fun g9 h9 => Below.heap_alloc w2 (.cells #[.int .i64 0, .slice none 0 0, .slice none 0 0] 33) g9 (HOB.out.1.lt h9).1, HOB.out.2.2.size⟩ : _ ∧ _ ∧ _)
        have hw2 := HOB.out.2.2.size
        refine ⟨fun _ => HSC.out, ?_⟩
        obtain ⟨w4, hst, hb4, hk4, hz4, hl4⟩ := store3 (w := (w2.alloc (.cells #[.int .i64 0, .slice none 0 0, .slice none 0 0] 33))) (g := w2.heap.size) (T := 33) (x0 := .int .i64 bs) (x1 := .slice none 0 0) (x2 := .slice A5 m c5) size_ln HX3.out rfl rfl rfl
        refine lastStore 12 33 (.tmp 3) (.tmp 15) (.pointer (some ⟨w2.heap.size, 0, none⟩)) (.agg #[.int .i64 bs, .slice none 0 0, .slice A5 m c5]) w4 (by kernel_rfl) (by kernel_rfl) (by kernel_rfl) rfl (by kernel_rfl) (by kernel_rfl) hst ?_
        simp only [put_some, put_none, List.setIfInBounds_toArray, List.set_cons_succ, List.set_cons_zero]
        have hgB : B ≤ w2.heap.size := by omega
        have hne2 : ∀ g9 cur, Blk (w2.alloc (.cells #[.int .i64 0, .slice none 0 0, .slice none 0 0] 33)) g9 27 cur → g9 ≠ w2.heap.size := fun g9 cur h9 => (Blk.ne_ h9 HX3.out (by decide))
        have hown4 : OwnP w4 B (.slice A5 m c5) L.dead := HOC.out.1.keep fun g9 h9 => by
          obtain ⟨cu, h1⟩ := HOC.out.1.blk_of h9
          exact hk4 g9 (hne2 g9 cu h1)
        have F := Lib.hid (⟨hb4, hown4, (HOC.out.2.1.keep fun g9 h9 => by
          obtain ⟨cu, h1⟩ := HOC.out.1.blk_of h9
          exact hk4 g9 (hne2 g9 cu h1)), (hk4 r1 (by omega)).trans HSC.out.1, (hk4 r2 (by omega)).trans HSC.out.2.1, HSC.out.2.2.trans (hl4.below (B := w.heap.size) (by have := HSC.out.2.2.size; omega) HSC.out.2.2.size), hgB, hb4.lt⟩ : _ ∧ _ ∧ _ ∧ _ ∧ _ ∧ _ ∧ _ ∧ _)
        clear hb4 hk4 hz4 hl4 hst hne2 hown4 hgB
        go_wp2_with fail
        go_meet
        exact ⟨_, A5, c5, rfl, Lib.hid F.out⟩
      case AB =>
        intro o' ho hod
        refine wp_val (exec_alloc ho (alloc_ln _)) ?_
        rw [hod]
        clear hod ho
        have hszA : (W.drew.alloc (.cells (zcs (m + 2)) 27)).heap.size = B + 1 := by rw [hBW]; simp
        have hszB : (((W.drew.alloc (.cells (zcs (m + 2)) 27)).alloc (.cells #[.int .i64 0, .slice none 0 0, .slice none 0 0] 33))).heap.size = B + 2 := by simp [hBW]
        have HSB : Hid (Blk ((W.drew.alloc (.cells (zcs (m + 2)) 27)).alloc (.cells #[.int .i64 0, .slice none 0 0, .slice none 0 0] 33)) r1 25 #[.int .i64 bs, .slice A n c, .slice A' m c'] ∧ Blk ((W.drew.alloc (.cells (zcs (m + 2)) 27)).alloc (.cells #[.int .i64 0, .slice none 0 0, .slice none 0 0] 33)) r2 33 #[.int .i64 0, .slice none 0 0, .slice none 0 0] ∧ Below w.heap.size w ((W.drew.alloc (.cells (zcs (m + 2)) 27)).alloc (.cells #[.int .i64 0, .slice none 0 0, .slice none 0 0] 33))) := Lib.hid ⟨HSA.out.1.alloc _, HSA.out.2.1.alloc _, HSA.out.2.2.alloc HSA.out.2.2.size _⟩
        have HX3 : Hid (Blk ((W.drew.alloc (.cells (zcs (m + 2)) 27)).alloc (.cells #[.int .i64 0, .slice none 0 0, .slice none 0 0] 33)) (W.drew.alloc (.cells (zcs (m + 2)) 27)).heap.size 33 #[.int .i64 0, .slice none 0 0, .slice none 0 0]) := Lib.hid (Blk.new _ _ _)
        have HOB := Lib.hid ((⟨HOA.out.1.below ((Below.refl (W.drew.alloc (.cells (zcs (m + 2)) 27)).heap.size (W.drew.alloc (.cells (zcs (m + 2)) 27))).alloc (Nat.le_refl _) (.cells #[.int .i64 0, .slice none 0 0, .slice none 0 0] 33)) (Nat.le_refl _), HOA.out.2.alloc (.cells #[.int .i64 0, .slice none 0 0, .slice none 0 0] 33)⟩ : _ ∧ _))
        refine ⟨fun _ => HSB.out, ?_⟩
        refine loneG 9 (.call ⟨.builtin .append, #[(.tmp 11), (.tmp 13)], #[23, 23]⟩) (some 14) none (by kernel_rfl) (by kernel_rfl) (by kernel_rfl) ?_
        intro o' ho hod
        obtain ⟨v2, w2, hrun, ho2, hb2, hkx, hex⟩ := app_of (n := m) (c := c') (A := A') HOB.out L.dead HM.out (HRD.out.1.below (Below.mono HSB.out.2.2 (Nat.le_refl _))) HRD.out.2 HBY.out (by simp; omega) o'.type
        obtain ⟨A5, c5, hv2, _, _, _, _, _⟩ := ho2.shape (fun _ => rfl)
        rw [← HM.out] at hv2
        subst hv2
        refine Gr.wp_append 23 (.tmp 11) (.tmp 13) ho (by kernel_rfl) (by kernel_rfl) hrun ?_
        rw [hod]
        clear hod ho hrun
        have HSC := Lib.hid (⟨HSB.out.1.below hb2 (by omega), HSB.out.2.1.below hb2 (by omega), HSB.out.2.2.trans (hb2.mono (by omega))⟩ : _ ∧ _ ∧ _)
        have HOC := Lib.hid (⟨ho2, hex, hb2⟩ : _ ∧ _ ∧ _)
        have HX4 : Hid (Blk w2 (W.drew.alloc (.cells (zcs (m + 2)) 27)).heap.size 33 #[.int .i64 0, .slice none 0 0, .slice none 0 0]) := Lib.hid ((hkx (W.drew.alloc (.cells (zcs (m + 2)) 27)).heap.size (by rw [hszB]; omega) (by simp [Value.ownBlock])).trans HX3.out)
        have hw2 := HOC.out.2.2.size
        refine ⟨fun _ => HSC.out, ?_⟩
        refine takeG 10 (.build 33 #[(0, (.tmp 6)), (2, (.tmp 14))]) (some 15) none (.agg #[.int .i64 bs, .slice none 0 0, .slice A5 m c5]) (by kernel_rfl) (by kernel_rfl) (by kernel_rfl) (fun _ _ _ h => h) (fun o' wq e hS => exec_bld2 (u0 := .int .i64 bs) (u1 := .slice A5 m c5) wq e (by kernel_rfl) (by kernel_rfl) (by kernel_rfl)) HSC.out ?_
        obtain ⟨w4, hst, hb4, hk4, hz4, hl4⟩ := store3 (w := w2) (g := (W.drew.alloc (.cells (zcs (m + 2)) 27)).heap.size) (T := 33) (x0 := .int .i64 bs) (x1 := .slice none 0 0) (x2 := .slice A5 m c5) size_ln HX4.out rfl rfl rfl
        refine lastStore 12 33 (.tmp 3) (.tmp 15) (.pointer (some ⟨(W.drew.alloc (.cells (zcs (m + 2)) 27)).heap.size, 0, none⟩)) (.agg #[.int .i64 bs, .slice none 0 0, .slice A5 m c5]) w4 (by kernel_rfl) (by kernel_rfl) (by kernel_rfl) rfl (by kernel_rfl) (by kernel_rfl) hst ?_
        simp only [put_some, put_none, List.setIfInBounds_toArray, List.set_cons_succ, List.set_cons_zero]
        have hgB : B ≤ (W.drew.alloc (.cells (zcs (m + 2)) 27)).heap.size := by omega
        have hne2 : ∀ g9 cur, Blk w2 g9 27 cur → g9 ≠ (W.drew.alloc (.cells (zcs (m + 2)) 27)).heap.size := fun g9 cur h9 => (Blk.ne_ h9 HX4.out (by decide))
        have hown4 : OwnP w4 B (.slice A5 m c5) L.dead := HOC.out.1.keep fun g9 h9 => by
          obtain ⟨cu, h1⟩ := HOC.out.1.blk_of h9
          exact hk4 g9 (hne2 g9 cu h1)
        have F := Lib.hid (⟨hb4, hown4, (HOC.out.2.1.keep fun g9 h9 => by
          obtain ⟨cu, h1⟩ := HOC.out.1.blk_of h9
          exact hk4 g9 (hne2 g9 cu h1)), (hk4 r1 (by omega)).trans HSC.out.1, (hk4 r2 (by omega)).trans HSC.out.2.1, HSC.out.2.2.trans (hl4.below (B := w.heap.size) (by have := HSC.out.2.2.size; omega) HSC.out.2.2.size), hgB, hb4.lt⟩ : _ ∧ _ ∧ _ ∧ _ ∧ _ ∧ _ ∧ _ ∧ _)
        clear hb4 hk4 hz4 hl4 hst hne2 hown4 hgB
        go_wp2_with fail
        go_meet
        exact ⟨_, A5, c5, rfl, Lib.hid F.out⟩
    case B =>
      intro o' ho hod
      refine wp_val (exec_alloc ho (alloc_ln _)) ?_
      rw [hod]
      clear hod ho
      have hszA : (W.drew.alloc (.cells #[.int .i64 0, .slice none 0 0, .slice none 0 0] 33)).heap.size = B + 1 := by rw [hBW]; simp
      have HSA : Hid (Blk (W.drew.alloc (.cells #[.int .i64 0, .slice none 0 0, .slice none 0 0] 33)) r1 25 #[.int .i64 bs, .slice A n c, .slice A' m c'] ∧ Blk (W.drew.alloc (.cells #[.int .i64 0, .slice none 0 0, .slice none 0 0] 33)) r2 33 #[.int .i64 0, .slice none 0 0, .slice none 0 0] ∧ Below w.heap.size w (W.drew.alloc (.cells #[.int .i64 0, .slice none 0 0, .slice none 0 0] 33))) := Lib.hid ⟨HS.out.1.alloc _, HS.out.2.1.alloc _, HS.out.2.2.alloc HS.out.2.2.size _⟩
      have HX1 : Hid (Blk (W.drew.alloc (.cells #[.int .i64 0, .slice none 0 0, .slice none 0 0] 33)) W.drew.heap.size 33 #[.int .i64 0, .slice none 0 0, .slice none 0 0]) := Lib.hid (Blk.new _ _ _)
      refine ⟨fun _ => HSA.out, ?_⟩
      refine loneG 6 (.makeSlice 23 (.const (.int .i64 0)) (.tmp 10)) (some 11) none (by kernel_rfl) (by kernel_rfl) (by kernel_rfl) ?_
      intro o' ho hod
      refine wp_val (exec_make (u1 := .int .i64 0) (u2 := .int .i64 ((m : Int) + 2)) ho (by kernel_rfl) (by kernel_rfl) (make_pts m (by omega) _)) ?_
      rw [hod]
      clear hod ho
      have HSB : Hid (Blk ((W.drew.alloc (.cells #[.int .i64 0, .slice none 0 0, .slice none 0 0] 33)).alloc (.cells (zcs (m + 2)) 27)) r1 25 #[.int .i64 bs, .slice A n c, .slice A' m c'] ∧ Blk ((W.drew.alloc (.cells #[.int .i64 0, .slice none 0 0, .slice none 0 0] 33)).alloc (.cells (zcs (m + 2)) 27)) r2 33 #[.int .i64 0, .slice none 0 0, .slice none 0 0] ∧ Below w.heap.size w ((W.drew.alloc (.cells #[.int .i64 0, .slice none 0 0, .slice none 0 0] 33)).alloc (.cells (zcs (m + 2)) 27))) := Lib.hid ⟨HSA.out.1.alloc _, HSA.out.2.1.alloc _, HSA.out.2.2.alloc HSA.out.2.2.size _⟩
      have HOB : Hid (OwnP ((W.drew.alloc (.cells #[.int .i64 0, .slice none 0 0, .slice none 0 0] 33)).alloc (.cells (zcs (m + 2)) 27)) B (.slice (some ⟨(W.drew.alloc (.cells #[.int .i64 0, .slice none 0 0, .slice none 0 0] 33)).heap.size, 0, none⟩) 0 (m + 2)) [] ∧ Blk ((W.drew.alloc (.cells #[.int .i64 0, .slice none 0 0, .slice none 0 0] 33)).alloc (.cells (zcs (m + 2)) 27)) (W.drew.alloc (.cells #[.int .i64 0, .slice none 0 0, .slice none 0 0] 33)).heap.size 27 (zcs (m + 2))) := Lib.hid ⟨own_base (own_zeros (W.drew.alloc (.cells #[.int .i64 0, .slice none 0 0, .slice none 0 0] 33)) m (by omega)) (by omega), Blk.new _ _ _⟩
      have HX3 : Hid (Blk ((W.drew.alloc (.cells #[.int .i64 0, .slice none 0 0, .slice none 0 0] 33)).alloc (.cells (zcs (m + 2)) 27)) W.drew.heap.size 33 #[.int .i64 0, .slice none 0 0, .slice none 0 0]) := Lib.hid (HX1.out.alloc _)
      have hszB : ((W.drew.alloc (.cells #[.int .i64 0, .slice none 0 0, .slice none 0 0] 33)).alloc (.cells (zcs (m + 2)) 27)).heap.size = B + 2 := by simp [hBW]
      refine ⟨fun _ => HSB.out, ?_⟩
      refine loneG 9 (.call ⟨.builtin .append, #[(.tmp 11), (.tmp 13)], #[23, 23]⟩) (some 14) none (by kernel_rfl) (by kernel_rfl) (by kernel_rfl) ?_
      intro o' ho hod
      obtain ⟨v2, w2, hrun, ho2, hb2, hkx, hex⟩ := app_of (n := m) (c := c') (A := A') HOB.out L.dead HM.out (HRD.out.1.below (Below.mono HSB.out.2.2 (Nat.le_refl _))) HRD.out.2 HBY.out (by simp; omega) o'.type
      obtain ⟨A5, c5, hv2, _, _, _, _, _⟩ := ho2.shape (fun _ => rfl)
      rw [← HM.out] at hv2
      subst hv2
      refine Gr.wp_append 23 (.tmp 11) (.tmp 13) ho (by kernel_rfl) (by kernel_rfl) hrun ?_
      rw [hod]
      clear hod ho hrun
      have HSC := Lib.hid (⟨HSB.out.1.below hb2 (by omega), HSB.out.2.1.below hb2 (by omega), HSB.out.2.2.trans (hb2.mono (by omega))⟩ : _ ∧ _ ∧ _)
      have HOC := Lib.hid (⟨ho2, hex, hb2⟩ : _ ∧ _ ∧ _)
      have HX4 : Hid (Blk w2 W.drew.heap.size 33 #[.int .i64 0, .slice none 0 0, .slice none 0 0]) := Lib.hid ((hkx W.drew.heap.size (by rw [hszB]; show W.heap.size < _; omega) (by simp [Value.ownBlock])).trans HX3.out)
      have hw2 := HOC.out.2.2.size
      refine ⟨fun _ => HSC.out, ?_⟩
      refine takeG 10 (.build 33 #[(0, (.tmp 6)), (2, (.tmp 14))]) (some 15) none (.agg #[.int .i64 bs, .slice none 0 0, .slice A5 m c5]) (by kernel_rfl) (by kernel_rfl) (by kernel_rfl) (fun _ _ _ h => h) (fun o' wq e hS => exec_bld2 (u0 := .int .i64 bs) (u1 := .slice A5 m c5) wq e (by kernel_rfl) (by kernel_rfl) (by kernel_rfl)) HSC.out ?_
      obtain ⟨w4, hst, hb4, hk4, hz4, hl4⟩ := store3 (w := w2) (g := W.drew.heap.size) (T := 33) (x0 := .int .i64 bs) (x1 := .slice none 0 0) (x2 := .slice A5 m c5) size_ln HX4.out rfl rfl rfl
      refine lastStore 12 33 (.tmp 3) (.tmp 15) (.pointer (some ⟨W.drew.heap.size, 0, none⟩)) (.agg #[.int .i64 bs, .slice none 0 0, .slice A5 m c5]) w4 (by kernel_rfl) (by kernel_rfl) (by kernel_rfl) rfl (by kernel_rfl) (by kernel_rfl) hst ?_
      simp only [put_some, put_none, List.setIfInBounds_toArray, List.set_cons_succ, List.set_cons_zero]
      have hgB : B ≤ W.drew.heap.size := by exact Nat.le_of_eq hBW
      have hne2 : ∀ g9 cur, Blk w2 g9 27 cur → g9 ≠ W.drew.heap.size := fun g9 cur h9 => (Blk.ne_ h9 HX4.out (by decide))
      have hown4 : OwnP w4 B (.slice A5 m c5) L.dead := HOC.out.1.keep fun g9 h9 => by
        obtain ⟨cu, h1⟩ := HOC.out.1.blk_of h9
        exact hk4 g9 (hne2 g9 cu h1)
      have F := Lib.hid (⟨hb4, hown4, (HOC.out.2.1.keep fun g9 h9 => by
        obtain ⟨cu, h1⟩ := HOC.out.1.blk_of h9
        exact hk4 g9 (hne2 g9 cu h1)), (hk4 r1 (by omega)).trans HSC.out.1, (hk4 r2 (by omega)).trans HSC.out.2.1, HSC.out.2.2.trans (hl4.below (B := w.heap.size) (by have := HSC.out.2.2.size; omega) HSC.out.2.2.size), hgB, hb4.lt⟩ : _ ∧ _ ∧ _ ∧ _ ∧ _ ∧ _ ∧ _ ∧ _)
      clear hb4 hk4 hz4 hl4 hst hne2 hown4 hgB
      go_wp2_with fail
      go_meet
      exact ⟨_, A5, c5, rfl, Lib.hid F.out⟩
  case rest =>
  obtain ⟨g3, A5, c5, rfl, HC⟩ := hcut
  obtain ⟨W3, hW3⟩ : ∃ W3, W3 = wc := ⟨_, rfl⟩
  subst hW3
  have hg3 : r2 < g3 := by have := HC.out.2.2.2.2.2.2.1; omega
  have hg3r1 : r1 < g3 := by omega
  have hr2 : w.heap.size ≤ r2 := by omega
  have hr2B : r2 < B := by omega
  clear hEQ
  have HX1 := Lib.hid HC.out.2.2.2.1
  have HX2 := Lib.hid HC.out.2.2.2.2.1
  have HX3 := Lib.hid HC.out.1
  have LW := Lib.hid HC.out.2.2.2.2.2.1
  have HBs : Hid (B ≤ W3.heap.size) := Lib.hid (by have := HC.out.2.2.2.2.2.2; omega)
  have HLN : Hid (LnO 65 W3 B none 0 A5 c5 [] ⟨L.base, L.snaps.take 0, L.dead⟩) := Lib.hid ⟨Gr.OwnG.nil _ _, ⟨rfl, fun i s h => by simp at h⟩, (by show OwnP W3 B (.slice A5 L.dead.length c5) L.dead; rw [← HM.out]; exact HC.out.2.1), fun i j x y _ h => by simp at h, fun i x h => by simp at h⟩
  have HXX : Hid (Spared W3 [] (L.snaps.take 0) ∧ SpR W3 (.slice A5 m c5) L.dead) := Lib.hid ⟨⟨rfl, fun i s h => by simp at h⟩, HC.out.2.2.1⟩
  clear HC HS hBd
  go_wp2_with fail
  go_loopw [4] (fun y wr => ∃ (i : Nat) (vs : List SV) (A1 : Option Addr) (c1 : Nat), i ≤ n ∧ y = .int .i64 (i : Int) ∧ Hid (Blk wr r1 25 #[.int .i64 bs, .slice A n c, .slice A' m c']) ∧ Hid (Blk wr r2 33 #[.int .i64 0, .slice none 0 0, .slice none 0 0]) ∧ Hid (Blk wr g3 33 #[.int .i64 bs, .slice A1 i c1, .slice A5 m c5]) ∧ Hid (LnO 65 wr B A1 c1 A5 c5 vs ⟨L.base, L.snaps.take i, L.dead⟩) ∧ Hid (Below w.heap.size w wr) ∧ Hid (B ≤ wr.heap.size) ∧ Hid (Spared wr vs (L.snaps.take i) ∧ SpR wr (.slice A5 m c5) L.dead)) (fun y _ => n - (intOf y).toNat)
  case atStart => exact ⟨0, [], none, 0, by omega, rfl, HX1, HX2, HX3, HLN, LW, HBs, HXX⟩
  case round =>
    clear HX1 HX2 HX3 HLN LW HBs HXX
    obtain ⟨i, vs, A1, c1, hi, rfl, HX1, HX2, HX3, HLN, LW, HBs, HXX⟩ := hrel
    have k0 : wr.cell? ⟨r1, 1, none⟩ = some (.slice A n c) := HX1.out.cell 1
    by_cases hlt : i < n
    · have i1 : (i : Int) < (n : Int) := by omega
      have hil : i < L.snaps.length := by have := HN.out; omega
      obtain ⟨s, hse⟩ : ∃ s, s = L.snaps[i] := ⟨_, rfl⟩
      have hsi : L.snaps[i]? = some s := by rw [hse]; exact List.getElem?_eq_getElem hil
      obtain ⟨g, o, A2, c2, hA, hgb, q0, q1, hrp, hrn⟩ := HRS.out.1 i s hsi
      obtain ⟨m2, hm2⟩ : ∃ m2, m2 = s.dead.length := ⟨_, rfl⟩
      obtain ⟨t, ht⟩ : ∃ t, t = s.txg := ⟨_, rfl⟩
      rw [← ht] at q0
      rw [← hm2] at q1
      have hm2r : m2 * 40 ≤ 140737488351432 := by rw [hm2]; exact HF.out.rp s (List.mem_of_getElem? hsi)
      have HTK : Hid (L.snaps.take (i + 1) = L.snaps.take i ++ [⟨t, s.dead⟩]) := Lib.hid (by rw [List.take_succ_eq_append_getElem hil, ← hse, ht])
      have HTL : Hid ((L.snaps.take i).length = i) := Lib.hid (by rw [List.length_take]; omega)
      have HVL : Hid ((vs.length + 1) * 32 ≤ 140737488355328) := Lib.hid (by rw [HLN.out.oH.1, HTL.out]; omega)
      have HM2 := Lib.hid hm2
      have HRP := Lib.hid (⟨hrp, hrn⟩ : _ ∧ _)
      have HBY2 : Hid (s.dead.length * 40 ≤ 140737488355328) := Lib.hid (by rw [← hm2]; omega)
      subst hA
      have HCC : Hid (∀ W2, Below w.heap.size w W2 → W2.cell? ⟨g, o + i * 2, none⟩ = some (.int .i64 t) ∧ W2.cell? ⟨g, o + i * 2 + 1, none⟩ = some (.slice A2 m2 c2)) := Lib.hid fun W2 hb2 => ⟨(hb2.cell (p := ⟨g, o + i * 2, none⟩) hgb).trans q0, (hb2.cell (p := ⟨g, o + i * 2 + 1, none⟩) hgb).trans q1⟩
      have HS : Hid (Blk wr.drew r1 25 #[.int .i64 bs, .slice (some ⟨g, o, none⟩) n c, .slice A' m c'] ∧ Blk wr.drew g3 33 #[.int .i64 bs, .slice A1 i c1, .slice A5 m c5] ∧ wr.drew.cell? ⟨g, o + i * 2, none⟩ = some (.int .i64 t) ∧ wr.drew.cell? ⟨g, o + i * 2 + 1, none⟩ = some (.slice A2 m2 c2)) := Lib.hid ⟨HX1.out, HX3.out, HCC.out _ LW.out.drew⟩
      have HV1 : Hid (∀ W2, Below wr.heap.size wr W2 → Gr.OwnG 65 2 csV W2 B (.slice A1 i c1) vs) := Lib.hid fun W2 hb2 => by
        have h1 := HLN.out.oS
        rw [HTL.out] at h1
        exact h1.below hb2 (Nat.le_refl _)
      clear hil hse hsi hgb q0 q1 hrp hrn hm2 ht
      go_upto_region 5 with (fail)
      clear k0
      refine region_anyZ (fun w' => Blk w' r1 25 #[.int .i64 bs, .slice (some ⟨g, o, none⟩) n c, .slice A' m c'] ∧ Blk w' g3 33 #[.int .i64 bs, .slice A1 i c1, .slice A5 m c5] ∧ w'.cell? ⟨g, o + i * 2, none⟩ = some (.int .i64 t) ∧ w'.cell? ⟨g, o + i * 2 + 1, none⟩ = some (.slice A2 m2 c2)) 28 (by kernel_rfl) ?_
      refine takeG 0 (.fieldAddr 33 (.tmp 3) 1) (some 23) none (.pointer (some ⟨g3, 1, none⟩)) (by kernel_rfl) (by kernel_rfl) (by kernel_rfl) (fun _ _ _ h => h) (fun o' wq e hS => exec_field (u := .pointer (some ⟨g3, 0, none⟩)) wq e (by kernel_rfl) (by kernel_rfl)) HS.out ?_
      refine takeG 1 (.load 31 (.tmp 23)) (some 24) none (.slice A1 i c1) (by kernel_rfl) (by kernel_rfl) (by kernel_rfl) (fun _ _ _ h => h) (fun o' wq e hS => exec_load (x := (.tmp 23)) e (by kernel_rfl) (load_one Try.underlying31 (by kernel_rfl) (hS.2.1.cell 1))) HS.out ?_
      refine takeG 2 (.fieldAddr 25 (.tmp 1) 1) (some 25) none (.pointer (some ⟨r1, 1, none⟩)) (by kernel_rfl) (by kernel_rfl) (by kernel_rfl) (fun _ _ _ h => h) (fun o' wq e hS => exec_field (u := .pointer (some ⟨r1, 0, none⟩)) wq e (by kernel_rfl) (by kernel_rfl)) HS.out ?_
      refine takeG 3 (.load 22 (.tmp 25)) (some 26) none (.slice (some ⟨g, o, none⟩) n c) (by kernel_rfl) (by kernel_rfl) (by kernel_rfl) (fun _ _ _ h => h) (fun o' wq e hS => exec_load (x := (.tmp 25)) e (by kernel_rfl) (load_one Try.underlying22 (by kernel_rfl) (hS.1.cell 1))) HS.out ?_
      refine takeG 4 (.move (.tmp 4)) (some 27) none (.int .i64 (i : Int)) (by kernel_rfl) (by kernel_rfl) (by kernel_rfl) (fun _ _ _ h => h) (fun o' wq e hS => exec_move wq e (by kernel_rfl)) HS.out ?_
      refine takeG 5 (.indexAddr 22 (.tmp 26) (.tmp 27)) (some 28) none (.pointer (some ⟨g, o + i * 2, none⟩)) (by kernel_rfl) (by kernel_rfl) (by kernel_rfl) (fun _ _ _ h => h) (fun o' wq e hS => exec_index (u1 := .slice (some ⟨g, o, none⟩) n c) (u2 := .int .i64 (i : Int)) wq e (by kernel_rfl) (by kernel_rfl) (index_rsn g o n c i hlt _)) HS.out ?_
      refine takeG 6 (.fieldAddr 72 (.tmp 28) 0) (some 29) none (.pointer (some ⟨g, o + i * 2, none⟩)) (by kernel_rfl) (by kernel_rfl) (by kernel_rfl) (fun _ _ _ h => h) (fun o' wq e hS => exec_field (u := .pointer (some ⟨g, o + i * 2, none⟩)) wq e (by kernel_rfl) (by kernel_rfl)) HS.out ?_
      refine takeG 7 (.load 3 (.tmp 29)) (some 30) none (.int .i64 t) (by kernel_rfl) (by kernel_rfl) (by kernel_rfl) (fun _ _ _ h => h) (fun o' wq e hS => exec_load (x := (.tmp 29)) e (by kernel_rfl) (load_one Try.underlying3 (by kernel_rfl) hS.2.2.1)) HS.out ?_
      refine takeG 8 (.fieldAddr 25 (.tmp 1) 1) (some 31) none (.pointer (some ⟨r1, 1, none⟩)) (by kernel_rfl) (by kernel_rfl) (by kernel_rfl) (fun _ _ _ h => h) (fun o' wq e hS => exec_field (u := .pointer (some ⟨r1, 0, none⟩)) wq e (by kernel_rfl) (by kernel_rfl)) HS.out ?_
      refine takeG 9 (.load 22 (.tmp 31)) (some 32) none (.slice (some ⟨g, o, none⟩) n c) (by kernel_rfl) (by kernel_rfl) (by kernel_rfl) (fun _ _ _ h => h) (fun o' wq e hS => exec_load (x := (.tmp 31)) e (by kernel_rfl) (load_one Try.underlying22 (by kernel_rfl) (hS.1.cell 1))) HS.out ?_
      refine takeG 10 (.move (.tmp 4)) (some 33) none (.int .i64 (i : Int)) (by kernel_rfl) (by kernel_rfl) (by kernel_rfl) (fun _ _ _ h => h) (fun o' wq e hS => exec_move wq e (by kernel_rfl)) HS.out ?_
      refine takeG 11 (.indexAddr 22 (.tmp 32) (.tmp 33)) (some 34) none (.pointer (some ⟨g, o + i * 2, none⟩)) (by kernel_rfl) (by kernel_rfl) (by kernel_rfl) (fun _ _ _ h => h) (fun o' wq e hS => exec_index (u1 := .slice (some ⟨g, o, none⟩) n c) (u2 := .int .i64 (i : Int)) wq e (by kernel_rfl) (by kernel_rfl) (index_rsn g o n c i hlt _)) HS.out ?_
      refine takeG 12 (.fieldAddr 72 (.tmp 34) 1) (some 35) none (.pointer (some ⟨g, o + i * 2 + 1, none⟩)) (by kernel_rfl) (by kernel_rfl) (by kernel_rfl) (fun _ _ _ h => h) (fun o' wq e hS => exec_field (u := .pointer (some ⟨g, o + i * 2, none⟩)) wq e (by kernel_rfl) (by kernel_rfl)) HS.out ?_
      refine takeG 13 (.load 23 (.tmp 35)) (some 36) none (.slice A2 m2 c2) (by kernel_rfl) (by kernel_rfl) (by kernel_rfl) (fun _ _ _ h => h) (fun o' wq e hS => exec_load (x := (.tmp 35)) e (by kernel_rfl) (load_one Try.underlying23 (by kernel_rfl) hS.2.2.2)) HS.out ?_
      refine takeG 17 (.fieldAddr 25 (.tmp 1) 1) (some 40) none (.pointer (some ⟨r1, 1, none⟩)) (by kernel_rfl) (by kernel_rfl) (by kernel_rfl) (fun _ _ _ h => h) (fun o' wq e hS => exec_field (u := .pointer (some ⟨r1, 0, none⟩)) wq e (by kernel_rfl) (by kernel_rfl)) HS.out ?_
      refine takeG 18 (.load 22 (.tmp 40)) (some 41) none (.slice (some ⟨g, o, none⟩) n c) (by kernel_rfl) (by kernel_rfl) (by kernel_rfl) (fun _ _ _ h => h) (fun o' wq e hS => exec_load (x := (.tmp 40)) e (by kernel_rfl) (load_one Try.underlying22 (by kernel_rfl) (hS.1.cell 1))) HS.out ?_
      refine takeG 19 (.move (.tmp 4)) (some 42) none (.int .i64 (i : Int)) (by kernel_rfl) (by kernel_rfl) (by kernel_rfl) (fun _ _ _ h => h) (fun o' wq e hS => exec_move wq e (by kernel_rfl)) HS.out ?_
      refine takeG 20 (.indexAddr 22 (.tmp 41) (.tmp 42)) (some 43) none (.pointer (some ⟨g, o + i * 2, none⟩)) (by kernel_rfl) (by kernel_rfl) (by kernel_rfl) (fun _ _ _ h => h) (fun o' wq e hS => exec_index (u1 := .slice (some ⟨g, o, none⟩) n c) (u2 := .int .i64 (i : Int)) wq e (by kernel_rfl) (by kernel_rfl) (index_rsn g o n c i hlt _)) HS.out ?_
      refine takeG 21 (.fieldAddr 72 (.tmp 43) 1) (some 44) none (.pointer (some ⟨g, o + i * 2 + 1, none⟩)) (by kernel_rfl) (by kernel_rfl) (by kernel_rfl) (fun _ _ _ h => h) (fun o' wq e hS => exec_field (u := .pointer (some ⟨g, o + i * 2, none⟩)) wq e (by kernel_rfl) (by kernel_rfl)) HS.out ?_
      refine takeG 22 (.load 23 (.tmp 44)) (some 45) none (.slice A2 m2 c2) (by kernel_rfl) (by kernel_rfl) (by kernel_rfl) (fun _ _ _ h => h) (fun o' wq e hS => exec_load (x := (.tmp 44)) e (by kernel_rfl) (load_one Try.underlying23 (by kernel_rfl) hS.2.2.2)) HS.out ?_
      refine takeG 14 (.call ⟨.builtin .len, #[(.tmp 36)], #[23]⟩) (some 37) none (.int .i64 (m2 : Int)) (by kernel_rfl) (by kernel_rfl) (by kernel_rfl) (fun _ _ _ h => h) (fun o' wq e hS => exec_len (u := .slice A2 m2 c2) wq e (by kernel_rfl) (by kernel_rfl)) HS.out ?_
      refine takeG 15 (.binOp .add 3 (.tmp 37) (.const (.int .i64 2)) 3) (some 38) none (.int .i64 ((m2 : Int) + 2)) (by kernel_rfl) (by kernel_rfl) (by kernel_rfl) (fun _ _ _ h => h) (fun o' wq e hS => exec_bin (u1 := .int .i64 (m2 : Int)) (u2 := (.int .i64 2)) wq e (by kernel_rfl) (by kernel_rfl) (eqG_int ..) (add_two m2 (by omega) _)) HS.out ?_
      refine loneG 16 (.makeSlice 23 (.const (.int .i64 0)) (.tmp 38)) (some 39) none (by kernel_rfl) (by kernel_rfl) (by kernel_rfl) ?_
      intro o' ho hod
      refine wp_val (exec_make (u1 := .int .i64 0) (u2 := .int .i64 ((m2 : Int) + 2)) ho (by kernel_rfl) (by kernel_rfl) (make_pts m2 (by omega) _)) ?_
      rw [hod]
      clear hod ho
      have hbx : Below wr.heap.size wr (wr.drew.alloc (.cells (zcs (m2 + 2)) 27)) := (Below.refl wr.heap.size wr).drew.alloc (Nat.le_refl _) _
      have HS1 : Hid (Blk (wr.drew.alloc (.cells (zcs (m2 + 2)) 27)) r1 25 #[.int .i64 bs, .slice (some ⟨g, o, none⟩) n c, .slice A' m c'] ∧ Blk (wr.drew.alloc (.cells (zcs (m2 + 2)) 27)) g3 33 #[.int .i64 bs, .slice A1 i c1, .slice A5 m c5] ∧ (wr.drew.alloc (.cells (zcs (m2 + 2)) 27)).cell? ⟨g, o + i * 2, none⟩ = some (.int .i64 t) ∧ (wr.drew.alloc (.cells (zcs (m2 + 2)) 27)).cell? ⟨g, o + i * 2 + 1, none⟩ = some (.slice A2 m2 c2)) := Lib.hid ⟨HS.out.1.alloc _, HS.out.2.1.alloc _, HCC.out _ (LW.out.trans (hbx.mono LW.out.size))⟩
      have HBX := Lib.hid hbx
      have HOW : Hid (OwnP (wr.drew.alloc (.cells (zcs (m2 + 2)) 27)) wr.heap.size (.slice (some ⟨wr.heap.size, 0, none⟩) 0 (m2 + 2)) [] ∧ Blk (wr.drew.alloc (.cells (zcs (m2 + 2)) 27)) wr.heap.size 27 (zcs (m2 + 2))) := Lib.hid (⟨own_zeros wr.drew m2 (by omega), Blk.new _ _ _⟩)
      have HRS1 := Lib.hid (HRP.out.1.below (LW.out.trans (hbx.mono LW.out.size)))
      clear hbx
      refine ⟨fun _ => HS1.out, ?_⟩
      refine loneG 23 (.call ⟨.builtin .append, #[(.tmp 39), (.tmp 45)], #[23, 23]⟩) (some 46) none (by kernel_rfl) (by kernel_rfl) (by kernel_rfl) ?_
      intro o' ho hod
      obtain ⟨v2, w2, hrun, ho2, hb2, hkx, hex⟩ := app_of (n := m2) (c := c2) (A := A2) HOW.out s.dead HM2.out HRS1.out HRP.out.2 HBY2.out (by simp) o'.type
      obtain ⟨A3, c3, hv2, _, _, _, _, _⟩ := ho2.shape (fun _ => rfl)
      rw [← HM2.out] at hv2
      subst hv2
      refine Gr.wp_append 23 (.tmp 39) (.tmp 45) ho (by kernel_rfl) (by kernel_rfl) hrun ?_
      rw [hod]
      clear hod ho hrun
      have hb12 : Below wr.heap.size wr w2 := HBX.out.trans hb2
      have HS2 := Lib.hid (⟨HS1.out.1.below hb2 (HX1.out.lt), HS1.out.2.1.below hb2 HX3.out.lt, HCC.out _ (LW.out.trans (hb12.mono LW.out.size))⟩ : _ ∧ _ ∧ _)
      have HB12 := Lib.hid hb12
      have HO2 := Lib.hid (⟨ho2, hex⟩ : _ ∧ _)
      clear hb2 hkx hb12 ho2 hex
      refine ⟨fun _ => HS2.out, ?_⟩
      refine takeG 24 (.build 65 #[(0, (.tmp 30)), (1, (.tmp 46))]) (some 47) none (.agg #[.int .i64 t, .slice A3 m2 c3]) (by kernel_rfl) (by kernel_rfl) (by kernel_rfl) (fun _ _ _ h => h) (fun o' wq e hS => exec_bld2 (u0 := .int .i64 t) (u1 := .slice A3 m2 c3) wq e (by kernel_rfl) (by kernel_rfl) (by kernel_rfl)) HS2.out ?_
      refine loneG 25 (.buildSlice 31 1 #[(0, (.tmp 47))]) (some 48) none (by kernel_rfl) (by kernel_rfl) (by kernel_rfl) ?_
      intro o' ho hod
      refine wp_val (exec_buildSlice1 ho (by kernel_rfl) (bs_ds t A3 m2 c3 _)) ?_
      rw [hod]
      clear hod ho
      have HS3 : Hid (Blk (w2.alloc (.cells #[.int .i64 t, .slice A3 m2 c3] 65)) r1 25 #[.int .i64 bs, .slice (some ⟨g, o, none⟩) n c, .slice A' m c'] ∧ Blk (w2.alloc (.cells #[.int .i64 t, .slice A3 m2 c3] 65)) g3 33 #[.int .i64 bs, .slice A1 i c1, .slice A5 m c5] ∧ (w2.alloc (.cells #[.int .i64 t, .slice A3 m2 c3] 65)).cell? ⟨g, o + i * 2, none⟩ = some (.int .i64 t) ∧ (w2.alloc (.cells #[.int .i64 t, .slice A3 m2 c3] 65)).cell? ⟨g, o + i * 2 + 1, none⟩ = some (.slice A2 m2 c2)) := Lib.hid ⟨HS2.out.1.alloc _, HS2.out.2.1.alloc _, HCC.out _ ((LW.out.trans (HB12.out.mono LW.out.size)).alloc (Nat.le_trans LW.out.size HB12.out.size) _)⟩
      refine ⟨fun _ => HS3.out, ?_⟩
      refine loneG 26 (.call ⟨.builtin .append, #[(.tmp 24), (.tmp 48)], #[31, 31]⟩) (some 49) none (by kernel_rfl) (by kernel_rfl) (by kernel_rfl) ?_
      intro o' ho hod
      obtain ⟨v7, w7, hrun, ho7, hb7, hsz7, hkp7⟩ := append_sv (TS := 31) Try.underlying31 info_ds (HV1.out _ HB12.out) ⟨t, A3, m2, c3⟩ HVL.out (Nat.le_trans HBs.out HB12.out.size) o'.type
      refine Gr.wp_append 31 (.tmp 24) (.tmp 48) ho (by kernel_rfl) (by kernel_rfl) hrun ?_
      rw [hod]
      clear hod ho hrun
      have hadd := HLN.out.addSnap (w2 := w2) (w7 := w7) (v7 := v7) (t := t) (D := s.dead) (A2 := A3) (c2 := c3) ne_ds (fun g hg => HB12.out.block g hg) HB12.out.size HBs.out (by rw [← HM2.out]; exact HO2.out.1) (by rw [← HM2.out]; exact ho7) (fun g hg hne => hkp7 g hg (by rw [HTL.out] at hne; exact hne))
      obtain ⟨A7, c7, hv7, hln⟩ := hadd
      rw [HTL.out] at hv7
      subst hv7
      have hE := HEQ.out
      have hlow : ∀ g, g < B → w7.heap[g]? = w2.heap[g]? := fun g hg => hb7.block g hg
      have Y1 : Blk w7 r1 25 #[.int .i64 bs, .slice (some ⟨g, o, none⟩) n c, .slice A' m c'] := (hlow r1 (by omega)).trans HS2.out.1
      have Y2 : Blk w7 r2 33 #[.int .i64 0, .slice none 0 0, .slice none 0 0] := (hlow r2 (by omega)).trans (HB12.out.block r2 HX2.out.lt |>.trans HX2.out)
      have hg3ne : (Value.slice A1 i c1).ownBlock ≠ some g3 := fun e => by
        obtain ⟨cu, h1⟩ := (HV1.out _ HB12.out).blk_of e
        exact (Blk.ne_ h1 HS2.out.2.1 (by decide)) rfl
      have Y3 : Blk w7 g3 33 #[.int .i64 bs, .slice A1 i c1, .slice A5 m c5] := (hkp7 g3 HS2.out.2.1.lt hg3ne).trans HS2.out.2.1
      have YL : Below w.heap.size w w7 := (LW.out.trans (HB12.out.mono LW.out.size)).trans (hb7.mono (by omega))
      have hk8 : ∀ g, g ≠ g3 → (w7.setCell ⟨g3, 1, none⟩ (.slice A7 (i + 1) c7)).heap[g]? = w7.heap[g]? := fun g hg => Below.heap_setCell _ _ _ g hg
      have HS4 := Lib.hid (⟨Y1, Y3, HCC.out _ YL⟩ : _ ∧ _ ∧ _)
      have Z1 := Lib.hid (Y1.far (p := ⟨g3, 1, none⟩) (by show r1 ≠ g3; omega) (.slice A7 (i + 1) c7))
      have Z2 := Lib.hid (Y2.far (p := ⟨g3, 1, none⟩) (by show r2 ≠ g3; omega) (.slice A7 (i + 1) c7))
      have Z3 : Hid (Blk (w7.setCell ⟨g3, 1, none⟩ (.slice A7 (i + 1) c7)) g3 33 #[.int .i64 bs, .slice A7 (i + 1) c7, .slice A5 m c5]) := Lib.hid (Y3.set_ 1 _)
      have ZN : Hid (LnO 65 (w7.setCell ⟨g3, 1, none⟩ (.slice A7 (i + 1) c7)) B A7 c7 A5 c5 (vs ++ [⟨t, A3, m2, c3⟩]) ⟨L.base, L.snaps.take (i + 1), L.dead⟩) := Lib.hid (by
        have h1 := hln.notline Y3 (by decide) (by decide) hk8
        rw [HTK.out]
        exact (by rw [← HM2.out] at h1; exact h1))
      have ZL := Lib.hid (YL.setCell (p := ⟨g3, 1, none⟩) (by show w.heap.size ≤ g3; omega) (.slice A7 (i + 1) c7))
      have ZB : Hid (B ≤ (w7.setCell ⟨g3, 1, none⟩ (.slice A7 (i + 1) c7)).heap.size) := Lib.hid (by have := HBs.out; have := HB12.out.size; simp [World.setCell]; omega)
      have ZX : Hid (Spared (w7.setCell ⟨g3, 1, none⟩ (.slice A7 (i + 1) c7)) (vs ++ [⟨t, A3, m2, c3⟩]) (L.snaps.take (i + 1)) ∧ SpR (w7.setCell ⟨g3, 1, none⟩ (.slice A7 (i + 1) c7)) (.slice A5 m c5) L.dead) := Lib.hid (by
        have hptr : ∀ g9 cur, Blk w2 g9 27 cur → (w7.setCell ⟨g3, 1, none⟩ (.slice A7 (i + 1) c7)).heap[g9]? = w2.heap[g9]? := fun g9 cur h9 => by
          have h1 : w7.heap[g9]? = w2.heap[g9]? := hkp7 g9 h9.lt fun e => by
            obtain ⟨cu, h1⟩ := (HV1.out _ HB12.out).blk_of e
            exact (Blk.ne_ h1 h9 (by decide)) rfl
          have h2 : Blk w7 g9 27 cur := h1.trans h9
          exact (hk8 g9 (Blk.ne_ h2 Y3 (by decide))).trans h1
        have hold : ∀ g9 cur, Blk wr g9 27 cur → (w7.setCell ⟨g3, 1, none⟩ (.slice A7 (i + 1) c7)).heap[g9]? = wr.heap[g9]? := fun g9 cur h9 => by
          have h1 : w2.heap[g9]? = wr.heap[g9]? := HB12.out.block g9 h9.lt
          exact (hptr g9 cur (h1.trans h9)).trans h1
        refine ⟨?_, HXX.out.2.ptr hold⟩
        rw [HTK.out]
        exact (HXX.out.1.ptr hold).snoc (HO2.out.2.ptr hptr) (by rw [HM2.out]))
      clear hE hlow Y1 Y2 hg3ne Y3 YL hk8 hln ho7 hb7 hsz7 hkp7
      refine ⟨fun _ => HS4.out, ?_⟩
      refine takeG 27 (.fieldAddr 33 (.tmp 3) 1) (some 50) none (.pointer (some ⟨g3, 1, none⟩)) (by kernel_rfl) (by kernel_rfl) (by kernel_rfl) (fun _ _ _ h => h) (fun o' wq e hS => exec_field (u := .pointer (some ⟨g3, 0, none⟩)) wq e (by kernel_rfl) (by kernel_rfl)) HS4.out ?_
      refine lastStore 28 31 (.tmp 50) (.tmp 49) (.pointer (some ⟨g3, 1, none⟩)) (.slice A7 (i + 1) c7) _ (by kernel_rfl) (by kernel_rfl) (by kernel_rfl) rfl (by kernel_rfl) (by kernel_rfl) (store_one size_sld rfl rfl (by rw [HS4.out.2.1.cell 1]; rfl) (HS4.out.2.1.frozen 1) (by rw [add_plain])) ?_
      simp only [put_some, put_none, List.setIfInBounds_toArray, List.set_cons_succ, List.set_cons_zero]
      clear HS
      go_wp2_with fail
      go_roundw
      case rel => exact ⟨i + 1, _, _, _, by omega, by go_num, Z1, Z2, Z3, ZN, ZL, ZB, ZX⟩
      case measure => simp [intOf]; omega
    · obtain rfl : i = n := by omega
      have i1 : ¬ ((i : Int) < (i : Int)) := by omega
      have p0 : wr.cell? ⟨r2, 0, none⟩ = some (.int .i64 0) := HX2.out.cell 0
      have p1 : wr.cell? ⟨r2, 1, none⟩ = some (.slice none 0 0) := HX2.out.cell 1
      have p2 : wr.cell? ⟨r2, 2, none⟩ = some (.slice none 0 0) := HX2.out.cell 2
      have pf0 : wr.frozen? ⟨r2, 0, none⟩ = false := HX2.out.frozen 0
      have pf1 : wr.frozen? ⟨r2, 1, none⟩ = false := HX2.out.frozen 1
      have pf2 : wr.frozen? ⟨r2, 2, none⟩ = false := HX2.out.frozen 2
      have s0 : wr.cell? ⟨g3, 0, none⟩ = some (.int .i64 bs) := HX3.out.cell 0
      have s1 : wr.cell? ⟨g3, 1, none⟩ = some (.slice A1 i c1) := HX3.out.cell 1
      have s2 : wr.cell? ⟨g3, 2, none⟩ = some (.slice A5 m c5) := HX3.out.cell 2
      have HTA : Hid (L.snaps.take i = L.snaps) := Lib.hid (List.take_of_length_le (by rw [← HN.out]; exact Nat.le_refl _))
      clear hlt
      go_wp2_with fail
      have T4 := ((HX2.out.set_ 0 (.int .i64 bs)).set_ 1 (.slice A1 i c1)).set_ 2 (.slice A5 m c5)
      refine bodyPost_ret (results_cell rfl rfl (loadVar_blk T4 Try.underlying33 rfl size_ln)) rfl ?_
      have hk6 : ∀ g, g ≠ r2 → (((wr.setCell ⟨r2, 0, none⟩ (.int .i64 bs)).setCell ⟨r2, 1, none⟩ (.slice A1 i c1)).setCell ⟨r2, 2, none⟩ (.slice A5 m c5)).heap[g]? = wr.heap[g]? := fun g hg => ((Below.heap_setCell _ ⟨r2, 2, none⟩ _ g hg).trans (Below.heap_setCell _ ⟨r2, 1, none⟩ _ g hg)).trans (Below.heap_setCell _ ⟨r2, 0, none⟩ _ g hg)
      have h1 := HLN.out.keep (w' := ((wr.setCell ⟨r2, 0, none⟩ (.int .i64 bs)).setCell ⟨r2, 1, none⟩ (.slice A1 i c1)).setCell ⟨r2, 2, none⟩ (.slice A5 m c5)) fun g hg _ => hk6 g (by omega)
      rw [HTA.out] at h1
      refine ⟨A1, c1, A5, c5, vs, by rw [← HN.out, ← HM.out, ← HBS.out]; rfl, h1.base_ (by omega), (by have h2 := HXX.out.1; rw [HTA.out] at h2; exact h2.ptr fun g cur hg => hk6 g (Blk.ne_ hg HX2.out (by decide))), (by rw [← HM.out]; exact HXX.out.2.ptr fun g cur hg => hk6 g (Blk.ne_ hg HX2.out (by decide))), ((LW.out.setCell (p := ⟨r2, 0, none⟩) hr2 _).setCell (p := ⟨r2, 1, none⟩) hr2 _).setCell (p := ⟨r2, 2, none⟩) hr2 _⟩
end Dd
end Go.Proofs.Ytpoacgofbbfhcaa
