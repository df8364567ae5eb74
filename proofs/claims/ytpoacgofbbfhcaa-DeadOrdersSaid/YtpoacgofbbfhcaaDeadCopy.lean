/-
  The document's Copy by a contract. The conditions: the line can be read, its rows have room.
-/
import Derived.Test.YtpoacgofbbfhcaaDeadOwn
import Derived.Test.YtpoacgofbbfhcaaDeadBack
import Derived.Test.YtpoacgofbbfhcaaDrawSplit
import Derived.Deep.DeepCutAuto
import Derived.Test.YtpoacgofbbfhcaaDeadRight
namespace Go.Proofs.Ytpoacgofbbfhcaa
open Go Go.RowKit
set_option maxRecDepth 100000
set_option linter.unusedVariables false
namespace Dd
theorem ne_rl : 25 ≠ 27 := by decide
/-- a whole line is stored -/
theorem store3 {w : World} {g : Nat} {T : TypeId} {x0 x1 x2 a b c : Value} (hsz : (Try.prog.info? T).map (·.size) = some 3) (h : Blk w g T #[a, b, c]) (h0 : x0.oneCell' = true) (h1 : x1.oneCell' = true) (h2 : x2.oneCell' = true) :
    ∃ w4, (Instr.storeAt T (.pointer (some ⟨g, 0, none⟩)) (.agg #[x0, x1, x2])).run Try.prog w = .ok () w4 ∧ Blk w4 g T #[x0, x1, x2] ∧ (∀ g', g' ≠ g → w4.heap[g']? = w.heap[g']?) ∧ w4.heap.size = w.heap.size ∧ Only g w w4 := by
  refine ⟨_, run_storeAt_mid w g 0 T #[x0, x1, x2] (fun j hj => ⟨by
    rw [Nat.zero_add, h.cell]
    have hj' : j < 3 := hj
    rw [Array.getElem?_eq_getElem (by simpa using hj')]
    rfl, h.frozen _⟩) (by simpa using hsz) (by simp [h0, h1, h2]), ?_, ?_, ?_, ?_⟩
  · exact ((h.set_ 0 x0).set_ 1 x1).set_ 2 x2
  · intro g' hg'
    exact ((Below.heap_setCell _ ⟨g, 0 + 1 + 1, none⟩ _ g' hg').trans (Below.heap_setCell _ ⟨g, 0 + 1, none⟩ _ g' hg')).trans (Below.heap_setCell _ ⟨g, 0, none⟩ _ g' hg')
  · simp [World.setCells, World.setCell]
  · exact (((Only.refl g w).setCell 0 x0).setCell (0 + 1) x1).setCell (0 + 1 + 1) x2
theorem exec_alloc {P : Program} {w w' : World} {o : Oper} {a : Act} {ty : TypeId} {v : Value} (ho : o.op = .alloc ty) (hl : (Instr.alloc ty true (.tuple #[])).run P w = .ok v w') : (execOp a.eval o).run P w = .ok (.value v) w' := by
  unfold execOp
  simp [ho, hl, Sem.run_bind, Sem.run_pure]
theorem alloc_rl (w : World) : (Instr.alloc 25 true (.tuple #[])).run Try.prog w = .ok (.pointer (some ⟨w.heap.size, 0, none⟩)) (w.alloc (.cells #[.int .i64 0, .slice none 0 0, .slice none 0 0] 25)) := by kernel_rfl
theorem alloc_ln (w : World) : (Instr.alloc 33 true (.tuple #[])).run Try.prog w = .ok (.pointer (some ⟨w.heap.size, 0, none⟩)) (w.alloc (.cells #[.int .i64 0, .slice none 0 0, .slice none 0 0] 33)) := by kernel_rfl
theorem size_sld : (Try.prog.info? 31).map (·.size) = some 1 := by kernel_rfl
/-- what lies in rows stays where one block alone changes that holds a line -/
theorem LnO.notline {E T : TypeId} {w w' : World} {B : Nat} {A A' : Option Addr} {c c' : Nat} {vs : List SV} {L : Ln} {g : Nat} {cur : Array Value} (h : LnO E w B A c A' c' vs L) (hg : Blk w g T cur) (hE : E ≠ T) (hP : 27 ≠ T) (hk : ∀ g', g' ≠ g → w'.heap[g']? = w.heap[g']?) : LnO E w' B A c A' c' vs L :=
  ⟨h.oS.keep fun g' hg' => by obtain ⟨cu, h1⟩ := h.oS.blk_of hg'; exact hk g' (Blk.ne_ h1 hg hE), ⟨h.oH.1, fun i s hs => by
    obtain ⟨x, e1, e2, e3, e4⟩ := h.oH.2 i s hs
    exact ⟨x, e1, e2, e3, e4.keep fun g' hg' => by obtain ⟨cu, h1⟩ := e4.blk_of hg'; exact hk g' (Blk.ne_ h1 hg hP)⟩⟩, h.oD.keep fun g' hg' => by obtain ⟨cu, h1⟩ := h.oD.blk_of hg'; exact hk g' (Blk.ne_ h1 hg hP), h.ap, h.ad⟩
theorem app_copy {w : World} {base b : Nat} {A : Option Addr} {n c : Nat} (h : OwnP w base (.slice (some ⟨b, 0, none⟩) 0 0) []) (D : List Pt) (hn : n = D.length) (hm : RdP w A D) (hA : A = none → c = 0) (hby : D.length * 40 ≤ 140737488355328) (hb : base ≤ w.heap.size) (ty : TypeId) :
    ∃ v' w', (Builtin.append_ #[23, 23] ty #[.slice (some ⟨b, 0, none⟩) 0 0, .slice A n c]).run Try.prog w = .ok v' w' ∧ OwnP w' base v' D ∧ Below base w w' ∧ (∀ g, g < w.heap.size → (Value.slice (some ⟨b, 0, none⟩) 0 0).ownBlock ≠ some g → w'.heap[g]? = w.heap[g]?) ∧ True := by
  obtain ⟨v', w', h1, h2, h3, h4⟩ := append_pts h D hn hm hA (by simpa using hby) hb ty
  exact ⟨v', w', h1, by simpa using h2, h3, h4.2.1, trivial⟩

def CopyPost (w : World) (L : Ln) (e : Ending) (w' : World) : Prop := ∃ A c A' c' vs, e = .returned (.agg #[.int .i64 L.base, .slice A L.snaps.length c, .slice A' L.dead.length c']) ∧ LnO 72 w' w.heap.size A c A' c' vs L ∧  Below w.heap.size w w'
set_option maxHeartbeats 25600000 in
theorem copy_at (w : World) (L : Ln) (A A' : Option Addr) (c c' : Nat) (hf : Fit L) (hs : RdS w A L.snaps) (hsn : A = none → c = 0) (hd : RdP w A' L.dead) (hdn : A' = none → c' = 0) :
    Calls Try.prog 29 #[.agg #[.int .i64 L.base, .slice A L.snaps.length c, .slice A' L.dead.length c']] w fun e w' => CopyPost w L e w' := by
  obtain ⟨n, hn⟩ : ∃ n, n = L.snaps.length := ⟨_, rfl⟩
  obtain ⟨m, hm⟩ : ∃ m, m = L.dead.length := ⟨_, rfl⟩
  obtain ⟨bs, hbs⟩ : ∃ bs, bs = L.base := ⟨_, rfl⟩
  have HF := Lib.hid hf
  have HN := Lib.hid hn
  have HM := Lib.hid hm
  have HBS := Lib.hid hbs
  have hmr : m * 40 ≤ 140737488351432 := by rw [hm]; exact hf.rd
  have hnr : n * 32 ≤ 140737488351432 := by rw [hn]; exact hf.rs
  have HBY : Hid (L.dead.length * 40 ≤ 140737488355328) := Lib.hid (by rw [← hm]; omega)
  have HRD := Lib.hid (⟨hd, hdn⟩ : _ ∧ _)
  have HRS := Lib.hid (⟨hs, hsn⟩ : _ ∧ _)
  rw [← hn, ← hm, ← hbs]
  obtain ⟨W_1, hw0⟩ : ∃ W9, W9 = w.alloc (.cells #[.int .i64 bs, .slice A n c, .slice A' m c'] 25) := ⟨_, rfl⟩
  obtain ⟨W, hw1⟩ : ∃ W9, W9 = W_1.alloc (.cells #[.int .i64 0, .slice none 0 0, .slice none 0 0] 25) := ⟨_, rfl⟩
  obtain ⟨r1, hr0⟩ : ∃ r9, r9 = w.heap.size := ⟨_, rfl⟩
  have hs0 : W_1.heap.size = r1 + 1 := by rw [hw0]; simp; omega
  obtain ⟨r2, hr1⟩ : ∃ r9, r9 = r1 + 1 := ⟨_, rfl⟩
  have hs1 : W.heap.size = r2 + 1 := by rw [hw1]; simp; omega
  have hb0 : Below w.heap.size w W_1 := by rw [hw0]; exact (Below.refl _ _).alloc (Nat.le_refl _) _
  have hb1 : Below w.heap.size w W := by rw [hw1]; exact hb0.alloc hb0.size _
  have Xr1 : Blk W r1 25 #[.int .i64 bs, .slice A n c, .slice A' m c'] := by
    have h := Blk.new w 25 #[.int .i64 bs, .slice A n c, .slice A' m c']
    rw [← hr0] at h
    rw [hw1, hw0]
    exact h.alloc _
  have Xr2 : Blk W r2 25 #[.int .i64 0, .slice none 0 0, .slice none 0 0] := by
    have h := Blk.new W_1 25 #[.int .i64 0, .slice none 0 0, .slice none 0 0]
    rw [hs0, ← hr1] at h
    rw [hw1]
    exact h
  have HE : Hid (r1 = w.heap.size ∧ r2 = r1 + 1) := Lib.hid ⟨hr0, hr1⟩
  have HW0 := Lib.hid hw0
  have HW1 := Lib.hid hw1
  have HWZ := Lib.hid hs1
  have hb := hb1
  obtain ⟨B, hBW⟩ : ∃ B, B = W.heap.size := ⟨_, rfl⟩
  have HEQ : Hid (r1 = w.heap.size ∧ r2 = r1 + 1 ∧ B = r2 + 1) := Lib.hid ⟨HE.out.1, HE.out.2, hBW.trans HWZ.out⟩
  have hEQ := HEQ.out
  have HS : Hid (Blk W.drew r1 25 #[.int .i64 bs, .slice A n c, .slice A' m c'] ∧ Blk W.drew r2 25 #[.int .i64 0, .slice none 0 0, .slice none 0 0] ∧ Below w.heap.size w W.drew) := Lib.hid ⟨Xr1, Xr2, hb.drew⟩
  have hBd : B = W.drew.heap.size := hBW
  have hFOLD := HE.out
  clear hn hm hbs hf hs hsn hd hdn hb Xr1 Xr2 hw0 hr0 hs0 hb0 hw1 hr1 hs1 hb1
  go_enter Try.func29, Try.ntmps29
  go_upto_region 1 with (fail)
  rw [← HW0.out, ← HW1.out, ← HE.out.1, ← HE.out.2]
  clear hFOLD
  go_cut [3] (fun x wx => ∃ (g3 : Nat) (A5 : Option Addr) (c5 : Nat), x = .pointer (some ⟨g3, 0, none⟩) ∧ Hid (Blk wx g3 25 #[.int .i64 bs, .slice none 0 0, .slice A5 m c5] ∧ OwnP wx B (.slice A5 m c5) L.dead ∧ True ∧ Blk wx r1 25 #[.int .i64 bs, .slice A n c, .slice A' m c'] ∧ Blk wx r2 25 #[.int .i64 0, .slice none 0 0, .slice none 0 0] ∧ Below w.heap.size w wx ∧ B ≤ g3 ∧ g3 < wx.heap.size))
  case first =>
    refine region_anyZ (fun w' => Blk w' r1 25 #[.int .i64 bs, .slice A n c, .slice A' m c'] ∧ Blk w' r2 25 #[.int .i64 0, .slice none 0 0, .slice none 0 0] ∧ Below w.heap.size w w') 8 (by kernel_rfl) ?_
    refine takeG 0 (.fieldAddr 25 (.tmp 1) 0) (some 5) none (.pointer (some ⟨r1, 0, none⟩)) (by kernel_rfl) (by kernel_rfl) (by kernel_rfl) (fun _ _ _ h => h) (fun o' wq e hS => exec_field (u := .pointer (some ⟨r1, 0, none⟩)) wq e (by kernel_rfl) (by kernel_rfl)) HS.out ?_
    refine takeG 1 (.load 3 (.tmp 5)) (some 6) none (.int .i64 bs) (by kernel_rfl) (by kernel_rfl) (by kernel_rfl) (fun _ _ _ h => h) (fun o' wq e hS => exec_load (x := (.tmp 5)) e (by kernel_rfl) (load_one Try.underlying3 (by kernel_rfl) (hS.1.cell 0))) HS.out ?_
    refine takeG 3 (.fieldAddr 25 (.tmp 1) 2) (some 8) none (.pointer (some ⟨r1, 2, none⟩)) (by kernel_rfl) (by kernel_rfl) (by kernel_rfl) (fun _ _ _ h => h) (fun o' wq e hS => exec_field (u := .pointer (some ⟨r1, 0, none⟩)) wq e (by kernel_rfl) (by kernel_rfl)) HS.out ?_
    refine takeG 4 (.load 23 (.tmp 8)) (some 9) none (.slice A' m c') (by kernel_rfl) (by kernel_rfl) (by kernel_rfl) (fun _ _ _ h => h) (fun o' wq e hS => exec_load (x := (.tmp 8)) e (by kernel_rfl) (load_one Try.underlying23 (by kernel_rfl) (hS.1.cell 2))) HS.out ?_
    refine twoG (i := 2) (j := 7) (op1 := (.buildSlice 23 0 #[])) (op2 := (.alloc 25)) (d1 := some 7) (d2 := some 3) (by kernel_rfl) (by kernel_rfl) (by kernel_rfl) ?A ?B
    case A =>
      intro o' ho hod
      refine wp_val (exec_bs0 ho (bs_pt0 _)) ?_
      rw [hod]
      clear hod ho
      have HSA : Hid (Blk (W.drew.alloc (.cells #[] 27)) r1 25 #[.int .i64 bs, .slice A n c, .slice A' m c'] ∧ Blk (W.drew.alloc (.cells #[] 27)) r2 25 #[.int .i64 0, .slice none 0 0, .slice none 0 0] ∧ Below w.heap.size w (W.drew.alloc (.cells #[] 27))) := Lib.hid ⟨HS.out.1.alloc _, HS.out.2.1.alloc _, HS.out.2.2.alloc HS.out.2.2.size _⟩
      have HOA : Hid (OwnP (W.drew.alloc (.cells #[] 27)) B (.slice (some ⟨W.drew.heap.size, 0, none⟩) 0 0) []) := Lib.hid (own_base (own_empty W.drew) (by omega))
      refine ⟨fun _ => HSA.out, ?_⟩
      refine twoG (i := 5) (j := 7) (op1 := (.call ⟨.builtin .append, #[(.tmp 7), (.tmp 9)], #[23, 23]⟩)) (op2 := (.alloc 25)) (d1 := some 10) (d2 := some 3) (by kernel_rfl) (by kernel_rfl) (by kernel_rfl) ?AA ?AB
      case AA =>
        intro o' ho hod
        have hszA : (W.drew.alloc (.cells #[] 27)).heap.size = B + 1 := by rw [hBW]; simp
        obtain ⟨v2, w2, hrun, ho2, hb2, hkx, hex⟩ := app_copy (n := m) (c := c') (A := A') HOA.out L.dead HM.out (HRD.out.1.below (Below.mono HSA.out.2.2 (Nat.le_refl _))) HRD.out.2 HBY.out (by simp; omega) o'.type
        obtain ⟨A5, c5, hv2, _, _, _, _, _⟩ := ho2.shape (fun _ => rfl)
        rw [← HM.out] at hv2
        subst hv2
        refine Gr.wp_append 23 (.tmp 7) (.tmp 9) ho (by kernel_rfl) (by kernel_rfl) hrun ?_
        rw [hod]
        clear hod ho hrun
        have HSB := Lib.hid (⟨HSA.out.1.below hb2 (by omega), HSA.out.2.1.below hb2 (by omega), HSA.out.2.2.trans (hb2.mono (by omega))⟩ : _ ∧ _ ∧ _)
        have HOB := Lib.hid (⟨ho2, hex, hb2⟩ : _ ∧ _ ∧ _)
        refine ⟨fun _ => HSB.out, ?_⟩
        refine takeG 6 (.build 25 #[(0, (.tmp 6)), (2, (.tmp 10))]) (some 11) none (.agg #[.int .i64 bs, .slice none 0 0, .slice A5 m c5]) (by kernel_rfl) (by kernel_rfl) (by kernel_rfl) (fun _ _ _ h => h) (fun o' wq e hS => exec_bld2 (u0 := .int .i64 bs) (u1 := .slice A5 m c5) wq e (by kernel_rfl) (by kernel_rfl) (by kernel_rfl)) HSB.out ?_
        refine loneG 7 (.alloc 25) (some 3) none (by kernel_rfl) (by kernel_rfl) (by kernel_rfl) ?_
        intro o' ho hod
        refine wp_val (exec_alloc ho (alloc_rl _)) ?_
        rw [hod]
        clear hod ho
        have HSC : Hid (Blk (w2.alloc (.cells #[.int .i64 0, .slice none 0 0, .slice none 0 0] 25)) r1 25 #[.int .i64 bs, .slice A n c, .slice A' m c'] ∧ Blk (w2.alloc (.cells #[.int .i64 0, .slice none 0 0, .slice none 0 0] 25)) r2 25 #[.int .i64 0, .slice none 0 0, .slice none 0 0] ∧ Below w.heap.size w (w2.alloc (.cells #[.int .i64 0, .slice none 0 0, .slice none 0 0] 25))) := Lib.hid ⟨HSB.out.1.alloc _, HSB.out.2.1.alloc _, HSB.out.2.2.alloc HSB.out.2.2.size _⟩
        have HX3 := Lib.hid (Blk.new w2 25 #[.int .i64 0, .slice none 0 0, .slice none 0 0])
        have HOC := Lib.hid (⟨HOB.out.1.below ((Below.refl w2.heap.size w2).alloc (Nat.le_refl _) (.cells #[.int .i64 0, .slice none 0 0, .slice none 0 0] 25)) (Nat.le_refl _), trivial, HOB.out.2.2.size⟩ : _ ∧ _ ∧ _)
        have hw2 := HOB.out.2.2.size
        refine ⟨fun _ => HSC.out, ?_⟩
        obtain ⟨w4, hst, hb4, hk4, hz4, hl4⟩ := store3 (w := (w2.alloc (.cells #[.int .i64 0, .slice none 0 0, .slice none 0 0] 25))) (g := w2.heap.size) (T := 25) (x0 := .int .i64 bs) (x1 := .slice none 0 0) (x2 := .slice A5 m c5) size_rln HX3.out rfl rfl rfl
        refine lastStore 8 25 (.tmp 3) (.tmp 11) (.pointer (some ⟨w2.heap.size, 0, none⟩)) (.agg #[.int .i64 bs, .slice none 0 0, .slice A5 m c5]) w4 (by kernel_rfl) (by kernel_rfl) (by kernel_rfl) rfl (by kernel_rfl) (by kernel_rfl) hst ?_
        simp only [put_some, put_none, List.setIfInBounds_toArray, List.set_cons_succ, List.set_cons_zero]
        have hgB : B ≤ w2.heap.size := by omega
        have hne2 : ∀ g9 cur, Blk (w2.alloc (.cells #[.int .i64 0, .slice none 0 0, .slice none 0 0] 25)) g9 27 cur → g9 ≠ w2.heap.size := fun g9 cur h9 => (Blk.ne_ h9 HX3.out (by decide))
        have hown4 : OwnP w4 B (.slice A5 m c5) L.dead := HOC.out.1.keep fun g9 h9 => by
          obtain ⟨cu, h1⟩ := HOC.out.1.blk_of h9
          exact hk4 g9 (hne2 g9 cu h1)
        have F := Lib.hid (⟨hb4, hown4, (trivial), (hk4 r1 (by omega)).trans HSC.out.1, (hk4 r2 (by omega)).trans HSC.out.2.1, HSC.out.2.2.trans (hl4.below (B := w.heap.size) (by have := HSC.out.2.2.size; omega) HSC.out.2.2.size), hgB, hb4.lt⟩ : _ ∧ _ ∧ _ ∧ _ ∧ _ ∧ _ ∧ _ ∧ _)
        clear hb4 hk4 hz4 hl4 hst hne2 hown4 hgB
        go_wp2_with fail
        go_meet
        exact ⟨_, A5, c5, rfl, Lib.hid F.out⟩
      case AB =>
        intro o' ho hod
        refine wp_val (exec_alloc ho (alloc_rl _)) ?_
        rw [hod]
        clear hod ho
        have hszA : (W.drew.alloc (.cells #[] 27)).heap.size = B + 1 := by rw [hBW]; simp
        have hszB : (((W.drew.alloc (.cells #[] 27)).alloc (.cells #[.int .i64 0, .slice none 0 0, .slice none 0 0] 25))).heap.size = B + 2 := by simp [hBW]
        have HSB : Hid (Blk ((W.drew.alloc (.cells #[] 27)).alloc (.cells #[.int .i64 0, .slice none 0 0, .slice none 0 0] 25)) r1 25 #[.int .i64 bs, .slice A n c, .slice A' m c'] ∧ Blk ((W.drew.alloc (.cells #[] 27)).alloc (.cells #[.int .i64 0, .slice none 0 0, .slice none 0 0] 25)) r2 25 #[.int .i64 0, .slice none 0 0, .slice none 0 0] ∧ Below w.heap.size w ((W.drew.alloc (.cells #[] 27)).alloc (.cells #[.int .i64 0, .slice none 0 0, .slice none 0 0] 25))) := Lib.hid ⟨HSA.out.1.alloc _, HSA.out.2.1.alloc _, HSA.out.2.2.alloc HSA.out.2.2.size _⟩
        have HX3 : Hid (Blk ((W.drew.alloc (.cells #[] 27)).alloc (.cells #[.int .i64 0, .slice none 0 0, .slice none 0 0] 25)) (W.drew.alloc (.cells #[] 27)).heap.size 25 #[.int .i64 0, .slice none 0 0, .slice none 0 0]) := Lib.hid (Blk.new _ _ _)
        have HOB := Lib.hid (HOA.out.below ((Below.refl (W.drew.alloc (.cells #[] 27)).heap.size (W.drew.alloc (.cells #[] 27))).alloc (Nat.le_refl _) (.cells #[.int .i64 0, .slice none 0 0, .slice none 0 0] 25)) (Nat.le_refl _))
        refine ⟨fun _ => HSB.out, ?_⟩
        refine loneG 5 (.call ⟨.builtin .append, #[(.tmp 7), (.tmp 9)], #[23, 23]⟩) (some 10) none (by kernel_rfl) (by kernel_rfl) (by kernel_rfl) ?_
        intro o' ho hod
        obtain ⟨v2, w2, hrun, ho2, hb2, hkx, hex⟩ := app_copy (n := m) (c := c') (A := A') HOB.out L.dead HM.out (HRD.out.1.below (Below.mono HSB.out.2.2 (Nat.le_refl _))) HRD.out.2 HBY.out (by simp; omega) o'.type
        obtain ⟨A5, c5, hv2, _, _, _, _, _⟩ := ho2.shape (fun _ => rfl)
        rw [← HM.out] at hv2
        subst hv2
        refine Gr.wp_append 23 (.tmp 7) (.tmp 9) ho (by kernel_rfl) (by kernel_rfl) hrun ?_
        rw [hod]
        clear hod ho hrun
        have HSC := Lib.hid (⟨HSB.out.1.below hb2 (by omega), HSB.out.2.1.below hb2 (by omega), HSB.out.2.2.trans (hb2.mono (by omega))⟩ : _ ∧ _ ∧ _)
        have HOC := Lib.hid (⟨ho2, hex, hb2⟩ : _ ∧ _ ∧ _)
        have HX4 : Hid (Blk w2 (W.drew.alloc (.cells #[] 27)).heap.size 25 #[.int .i64 0, .slice none 0 0, .slice none 0 0]) := Lib.hid ((hkx (W.drew.alloc (.cells #[] 27)).heap.size (by rw [hszB]; omega) (by simp [Value.ownBlock])).trans HX3.out)
        have hw2 := HOC.out.2.2.size
        refine ⟨fun _ => HSC.out, ?_⟩
        refine takeG 6 (.build 25 #[(0, (.tmp 6)), (2, (.tmp 10))]) (some 11) none (.agg #[.int .i64 bs, .slice none 0 0, .slice A5 m c5]) (by kernel_rfl) (by kernel_rfl) (by kernel_rfl) (fun _ _ _ h => h) (fun o' wq e hS => exec_bld2 (u0 := .int .i64 bs) (u1 := .slice A5 m c5) wq e (by kernel_rfl) (by kernel_rfl) (by kernel_rfl)) HSC.out ?_
        obtain ⟨w4, hst, hb4, hk4, hz4, hl4⟩ := store3 (w := w2) (g := (W.drew.alloc (.cells #[] 27)).heap.size) (T := 25) (x0 := .int .i64 bs) (x1 := .slice none 0 0) (x2 := .slice A5 m c5) size_rln HX4.out rfl rfl rfl
        refine lastStore 8 25 (.tmp 3) (.tmp 11) (.pointer (some ⟨(W.drew.alloc (.cells #[] 27)).heap.size, 0, none⟩)) (.agg #[.int .i64 bs, .slice none 0 0, .slice A5 m c5]) w4 (by kernel_rfl) (by kernel_rfl) (by kernel_rfl) rfl (by kernel_rfl) (by kernel_rfl) hst ?_
        simp only [put_some, put_none, List.setIfInBounds_toArray, List.set_cons_succ, List.set_cons_zero]
        have hgB : B ≤ (W.drew.alloc (.cells #[] 27)).heap.size := by omega
        have hne2 : ∀ g9 cur, Blk w2 g9 27 cur → g9 ≠ (W.drew.alloc (.cells #[] 27)).heap.size := fun g9 cur h9 => (Blk.ne_ h9 HX4.out (by decide))
        have hown4 : OwnP w4 B (.slice A5 m c5) L.dead := HOC.out.1.keep fun g9 h9 => by
          obtain ⟨cu, h1⟩ := HOC.out.1.blk_of h9
          exact hk4 g9 (hne2 g9 cu h1)
        have F := Lib.hid (⟨hb4, hown4, (trivial), (hk4 r1 (by omega)).trans HSC.out.1, (hk4 r2 (by omega)).trans HSC.out.2.1, HSC.out.2.2.trans (hl4.below (B := w.heap.size) (by have := HSC.out.2.2.size; omega) HSC.out.2.2.size), hgB, hb4.lt⟩ : _ ∧ _ ∧ _ ∧ _ ∧ _ ∧ _ ∧ _ ∧ _)
        clear hb4 hk4 hz4 hl4 hst hne2 hown4 hgB
        go_wp2_with fail
        go_meet
        exact ⟨_, A5, c5, rfl, Lib.hid F.out⟩
    case B =>
      intro o' ho hod
      refine wp_val (exec_alloc ho (alloc_rl _)) ?_
      rw [hod]
      clear hod ho
      have hszA : (W.drew.alloc (.cells #[.int .i64 0, .slice none 0 0, .slice none 0 0] 25)).heap.size = B + 1 := by rw [hBW]; simp
      have HSA : Hid (Blk (W.drew.alloc (.cells #[.int .i64 0, .slice none 0 0, .slice none 0 0] 25)) r1 25 #[.int .i64 bs, .slice A n c, .slice A' m c'] ∧ Blk (W.drew.alloc (.cells #[.int .i64 0, .slice none 0 0, .slice none 0 0] 25)) r2 25 #[.int .i64 0, .slice none 0 0, .slice none 0 0] ∧ Below w.heap.size w (W.drew.alloc (.cells #[.int .i64 0, .slice none 0 0, .slice none 0 0] 25))) := Lib.hid ⟨HS.out.1.alloc _, HS.out.2.1.alloc _, HS.out.2.2.alloc HS.out.2.2.size _⟩
      have HX1 : Hid (Blk (W.drew.alloc (.cells #[.int .i64 0, .slice none 0 0, .slice none 0 0] 25)) W.drew.heap.size 25 #[.int .i64 0, .slice none 0 0, .slice none 0 0]) := Lib.hid (Blk.new _ _ _)
      refine ⟨fun _ => HSA.out, ?_⟩
      refine loneG 2 (.buildSlice 23 0 #[]) (some 7) none (by kernel_rfl) (by kernel_rfl) (by kernel_rfl) ?_
      intro o' ho hod
      refine wp_val (exec_bs0 ho (bs_pt0 _)) ?_
      rw [hod]
      clear hod ho
      have HSB : Hid (Blk ((W.drew.alloc (.cells #[.int .i64 0, .slice none 0 0, .slice none 0 0] 25)).alloc (.cells #[] 27)) r1 25 #[.int .i64 bs, .slice A n c, .slice A' m c'] ∧ Blk ((W.drew.alloc (.cells #[.int .i64 0, .slice none 0 0, .slice none 0 0] 25)).alloc (.cells #[] 27)) r2 25 #[.int .i64 0, .slice none 0 0, .slice none 0 0] ∧ Below w.heap.size w ((W.drew.alloc (.cells #[.int .i64 0, .slice none 0 0, .slice none 0 0] 25)).alloc (.cells #[] 27))) := Lib.hid ⟨HSA.out.1.alloc _, HSA.out.2.1.alloc _, HSA.out.2.2.alloc HSA.out.2.2.size _⟩
      have HOB : Hid (OwnP ((W.drew.alloc (.cells #[.int .i64 0, .slice none 0 0, .slice none 0 0] 25)).alloc (.cells #[] 27)) B (.slice (some ⟨(W.drew.alloc (.cells #[.int .i64 0, .slice none 0 0, .slice none 0 0] 25)).heap.size, 0, none⟩) 0 0) []) := Lib.hid (own_base (own_empty (W.drew.alloc (.cells #[.int .i64 0, .slice none 0 0, .slice none 0 0] 25))) (by omega))
      have HX3 : Hid (Blk ((W.drew.alloc (.cells #[.int .i64 0, .slice none 0 0, .slice none 0 0] 25)).alloc (.cells #[] 27)) W.drew.heap.size 25 #[.int .i64 0, .slice none 0 0, .slice none 0 0]) := Lib.hid (HX1.out.alloc _)
      have hszB : ((W.drew.alloc (.cells #[.int .i64 0, .slice none 0 0, .slice none 0 0] 25)).alloc (.cells #[] 27)).heap.size = B + 2 := by simp [hBW]
      refine ⟨fun _ => HSB.out, ?_⟩
      refine loneG 5 (.call ⟨.builtin .append, #[(.tmp 7), (.tmp 9)], #[23, 23]⟩) (some 10) none (by kernel_rfl) (by kernel_rfl) (by kernel_rfl) ?_
      intro o' ho hod
      obtain ⟨v2, w2, hrun, ho2, hb2, hkx, hex⟩ := app_copy (n := m) (c := c') (A := A') HOB.out L.dead HM.out (HRD.out.1.below (Below.mono HSB.out.2.2 (Nat.le_refl _))) HRD.out.2 HBY.out (by simp; omega) o'.type
      obtain ⟨A5, c5, hv2, _, _, _, _, _⟩ := ho2.shape (fun _ => rfl)
      rw [← HM.out] at hv2
      subst hv2
      refine Gr.wp_append 23 (.tmp 7) (.tmp 9) ho (by kernel_rfl) (by kernel_rfl) hrun ?_
      rw [hod]
      clear hod ho hrun
      have HSC := Lib.hid (⟨HSB.out.1.below hb2 (by omega), HSB.out.2.1.below hb2 (by omega), HSB.out.2.2.trans (hb2.mono (by omega))⟩ : _ ∧ _ ∧ _)
      have HOC := Lib.hid (⟨ho2, hex, hb2⟩ : _ ∧ _ ∧ _)
      have HX4 : Hid (Blk w2 W.drew.heap.size 25 #[.int .i64 0, .slice none 0 0, .slice none 0 0]) := Lib.hid ((hkx W.drew.heap.size (by rw [hszB]; show W.heap.size < _; omega) (by simp [Value.ownBlock])).trans HX3.out)
      have hw2 := HOC.out.2.2.size
      refine ⟨fun _ => HSC.out, ?_⟩
      refine takeG 6 (.build 25 #[(0, (.tmp 6)), (2, (.tmp 10))]) (some 11) none (.agg #[.int .i64 bs, .slice none 0 0, .slice A5 m c5]) (by kernel_rfl) (by kernel_rfl) (by kernel_rfl) (fun _ _ _ h => h) (fun o' wq e hS => exec_bld2 (u0 := .int .i64 bs) (u1 := .slice A5 m c5) wq e (by kernel_rfl) (by kernel_rfl) (by kernel_rfl)) HSC.out ?_
      obtain ⟨w4, hst, hb4, hk4, hz4, hl4⟩ := store3 (w := w2) (g := W.drew.heap.size) (T := 25) (x0 := .int .i64 bs) (x1 := .slice none 0 0) (x2 := .slice A5 m c5) size_rln HX4.out rfl rfl rfl
      refine lastStore 8 25 (.tmp 3) (.tmp 11) (.pointer (some ⟨W.drew.heap.size, 0, none⟩)) (.agg #[.int .i64 bs, .slice none 0 0, .slice A5 m c5]) w4 (by kernel_rfl) (by kernel_rfl) (by kernel_rfl) rfl (by kernel_rfl) (by kernel_rfl) hst ?_
      simp only [put_some, put_none, List.setIfInBounds_toArray, List.set_cons_succ, List.set_cons_zero]
      have hgB : B ≤ W.drew.heap.size := by exact Nat.le_of_eq hBW
      have hne2 : ∀ g9 cur, Blk w2 g9 27 cur → g9 ≠ W.drew.heap.size := fun g9 cur h9 => (Blk.ne_ h9 HX4.out (by decide))
      have hown4 : OwnP w4 B (.slice A5 m c5) L.dead := HOC.out.1.keep fun g9 h9 => by
        obtain ⟨cu, h1⟩ := HOC.out.1.blk_of h9
        exact hk4 g9 (hne2 g9 cu h1)
      have F := Lib.hid (⟨hb4, hown4, (trivial), (hk4 r1 (by omega)).trans HSC.out.1, (hk4 r2 (by omega)).trans HSC.out.2.1, HSC.out.2.2.trans (hl4.below (B := w.heap.size) (by have := HSC.out.2.2.size; omega) HSC.out.2.2.size), hgB, hb4.lt⟩ : _ ∧ _ ∧ _ ∧ _ ∧ _ ∧ _ ∧ _ ∧ _)
      clear hb4 hk4 hz4 hl4 hst hne2 hown4 hgB
      go_wp2_with fail
      go_meet
      exact ⟨_, A5, c5, rfl, Lib.hid F.out⟩
  case rest =>
  obtain ⟨g3, A5, c5, rfl, HC⟩ := hcut
  obtain ⟨W3, hW3⟩ : ∃ W3, W3 = wc := ⟨_, rfl⟩
  subst hW3
  have hg3 : r2 < g3 := by have := HC.out.2.2.2.2.2.2.1; omega
  have hg3r1 : r1 < g3 := by omega
  have hr2 : w.heap.size ≤ r2 := by omega
  have hr2B : r2 < B := by omega
  clear hEQ
  have HX1 := Lib.hid HC.out.2.2.2.1
  have HX2 := Lib.hid HC.out.2.2.2.2.1
  have HX3 := Lib.hid HC.out.1
  have LW := Lib.hid HC.out.2.2.2.2.2.1
  have HBs : Hid (B ≤ W3.heap.size) := Lib.hid (by have := HC.out.2.2.2.2.2.2; omega)
  have HLN : Hid (LnO 72 W3 B none 0 A5 c5 [] ⟨L.base, L.snaps.take 0, L.dead⟩) := Lib.hid ⟨Gr.OwnG.nil _ _, ⟨rfl, fun i s h => by simp at h⟩, (by show OwnP W3 B (.slice A5 L.dead.length c5) L.dead; rw [← HM.out]; exact HC.out.2.1), fun i j x y _ h => by simp at h, fun i x h => by simp at h⟩
  clear HC HS hBd
  go_wp2_with fail
  go_loopw [4] (fun y wr => ∃ (i : Nat) (vs : List SV) (A1 : Option Addr) (c1 : Nat), i ≤ n ∧ y = .int .i64 (i : Int) ∧ Hid (Blk wr r1 25 #[.int .i64 bs, .slice A n c, .slice A' m c']) ∧ Hid (Blk wr r2 25 #[.int .i64 0, .slice none 0 0, .slice none 0 0]) ∧ Hid (Blk wr g3 25 #[.int .i64 bs, .slice A1 i c1, .slice A5 m c5]) ∧ Hid (LnO 72 wr B A1 c1 A5 c5 vs ⟨L.base, L.snaps.take i, L.dead⟩) ∧ Hid (Below w.heap.size w wr) ∧ Hid (B ≤ wr.heap.size)) (fun y _ => n - (intOf y).toNat)
  case atStart => exact ⟨0, [], none, 0, by omega, rfl, HX1, HX2, HX3, HLN, LW, HBs⟩
  case round =>
    clear HX1 HX2 HX3 HLN LW HBs
    obtain ⟨i, vs, A1, c1, hi, rfl, HX1, HX2, HX3, HLN, LW, HBs⟩ := hrel
    have k0 : wr.cell? ⟨r1, 1, none⟩ = some (.slice A n c) := HX1.out.cell 1
    by_cases hlt : i < n
    · have i1 : (i : Int) < (n : Int) := by omega
      have hil : i < L.snaps.length := by have := HN.out; omega
      obtain ⟨s, hse⟩ : ∃ s, s = L.snaps[i] := ⟨_, rfl⟩
      have hsi : L.snaps[i]? = some s := by rw [hse]; exact List.getElem?_eq_getElem hil
      obtain ⟨g, o, A2, c2, hA, hgb, q0, q1, hrp, hrn⟩ := HRS.out.1 i s hsi
      obtain ⟨m2, hm2⟩ : ∃ m2, m2 = s.dead.length := ⟨_, rfl⟩
      obtain ⟨t, ht⟩ : ∃ t, t = s.txg := ⟨_, rfl⟩
      rw [← ht] at q0
      rw [← hm2] at q1
      have hm2r : m2 * 40 ≤ 140737488351432 := by rw [hm2]; exact HF.out.rp s (List.mem_of_getElem? hsi)
      have HTK : Hid (L.snaps.take (i + 1) = L.snaps.take i ++ [⟨t, s.dead⟩]) := Lib.hid (by rw [List.take_succ_eq_append_getElem hil, ← hse, ht])
      have HTL : Hid ((L.snaps.take i).length = i) := Lib.hid (by rw [List.length_take]; omega)
      have HVL : Hid ((vs.length + 1) * 32 ≤ 140737488355328) := Lib.hid (by rw [HLN.out.oH.1, HTL.out]; omega)
      have HM2 := Lib.hid hm2
      have HRP := Lib.hid (⟨hrp, hrn⟩ : _ ∧ _)
      have HBY2 : Hid (s.dead.length * 40 ≤ 140737488355328) := Lib.hid (by rw [← hm2]; omega)
      subst hA
      have HCC : Hid (∀ W2, Below w.heap.size w W2 → W2.cell? ⟨g, o + i * 2, none⟩ = some (.int .i64 t) ∧ W2.cell? ⟨g, o + i * 2 + 1, none⟩ = some (.slice A2 m2 c2)) := Lib.hid fun W2 hb2 => ⟨(hb2.cell (p := ⟨g, o + i * 2, none⟩) hgb).trans q0, (hb2.cell (p := ⟨g, o + i * 2 + 1, none⟩) hgb).trans q1⟩
      have HS : Hid (Blk wr.drew r1 25 #[.int .i64 bs, .slice (some ⟨g, o, none⟩) n c, .slice A' m c'] ∧ Blk wr.drew g3 25 #[.int .i64 bs, .slice A1 i c1, .slice A5 m c5] ∧ wr.drew.cell? ⟨g, o + i * 2, none⟩ = some (.int .i64 t) ∧ wr.drew.cell? ⟨g, o + i * 2 + 1, none⟩ = some (.slice A2 m2 c2)) := Lib.hid ⟨HX1.out, HX3.out, HCC.out _ LW.out.drew⟩
      have HV1 : Hid (∀ W2, Below wr.heap.size wr W2 → Gr.OwnG 72 2 csV W2 B (.slice A1 i c1) vs) := Lib.hid fun W2 hb2 => by
        have h1 := HLN.out.oS
        rw [HTL.out] at h1
        exact h1.below hb2 (Nat.le_refl _)
      clear hil hse hsi hgb q0 q1 hrp hrn hm2 ht
      go_upto_region 5 with (fail)
      clear k0
      refine region_anyZ (fun w' => Blk w' r1 25 #[.int .i64 bs, .slice (some ⟨g, o, none⟩) n c, .slice A' m c'] ∧ Blk w' g3 25 #[.int .i64 bs, .slice A1 i c1, .slice A5 m c5] ∧ w'.cell? ⟨g, o + i * 2, none⟩ = some (.int .i64 t) ∧ w'.cell? ⟨g, o + i * 2 + 1, none⟩ = some (.slice A2 m2 c2)) 20 (by kernel_rfl) ?_
      refine takeG 0 (.fieldAddr 25 (.tmp 3) 1) (some 19) none (.pointer (some ⟨g3, 1, none⟩)) (by kernel_rfl) (by kernel_rfl) (by kernel_rfl) (fun _ _ _ h => h) (fun o' wq e hS => exec_field (u := .pointer (some ⟨g3, 0, none⟩)) wq e (by kernel_rfl) (by kernel_rfl)) HS.out ?_
      refine takeG 1 (.load 22 (.tmp 19)) (some 20) none (.slice A1 i c1) (by kernel_rfl) (by kernel_rfl) (by kernel_rfl) (fun _ _ _ h => h) (fun o' wq e hS => exec_load (x := (.tmp 19)) e (by kernel_rfl) (load_one Try.underlying22 (by kernel_rfl) (hS.2.1.cell 1))) HS.out ?_
      refine takeG 2 (.fieldAddr 25 (.tmp 1) 1) (some 21) none (.pointer (some ⟨r1, 1, none⟩)) (by kernel_rfl) (by kernel_rfl) (by kernel_rfl) (fun _ _ _ h => h) (fun o' wq e hS => exec_field (u := .pointer (some ⟨r1, 0, none⟩)) wq e (by kernel_rfl) (by kernel_rfl)) HS.out ?_
      refine takeG 3 (.load 22 (.tmp 21)) (some 22) none (.slice (some ⟨g, o, none⟩) n c) (by kernel_rfl) (by kernel_rfl) (by kernel_rfl) (fun _ _ _ h => h) (fun o' wq e hS => exec_load (x := (.tmp 21)) e (by kernel_rfl) (load_one Try.underlying22 (by kernel_rfl) (hS.1.cell 1))) HS.out ?_
      refine takeG 4 (.move (.tmp 4)) (some 23) none (.int .i64 (i : Int)) (by kernel_rfl) (by kernel_rfl) (by kernel_rfl) (fun _ _ _ h => h) (fun o' wq e hS => exec_move wq e (by kernel_rfl)) HS.out ?_
      refine takeG 5 (.indexAddr 22 (.tmp 22) (.tmp 23)) (some 24) none (.pointer (some ⟨g, o + i * 2, none⟩)) (by kernel_rfl) (by kernel_rfl) (by kernel_rfl) (fun _ _ _ h => h) (fun o' wq e hS => exec_index (u1 := .slice (some ⟨g, o, none⟩) n c) (u2 := .int .i64 (i : Int)) wq e (by kernel_rfl) (by kernel_rfl) (index_rsn g o n c i hlt _)) HS.out ?_
      refine takeG 6 (.fieldAddr 72 (.tmp 24) 0) (some 25) none (.pointer (some ⟨g, o + i * 2, none⟩)) (by kernel_rfl) (by kernel_rfl) (by kernel_rfl) (fun _ _ _ h => h) (fun o' wq e hS => exec_field (u := .pointer (some ⟨g, o + i * 2, none⟩)) wq e (by kernel_rfl) (by kernel_rfl)) HS.out ?_
      refine takeG 7 (.load 3 (.tmp 25)) (some 26) none (.int .i64 t) (by kernel_rfl) (by kernel_rfl) (by kernel_rfl) (fun _ _ _ h => h) (fun o' wq e hS => exec_load (x := (.tmp 25)) e (by kernel_rfl) (load_one Try.underlying3 (by kernel_rfl) hS.2.2.1)) HS.out ?_
      refine takeG 9 (.fieldAddr 25 (.tmp 1) 1) (some 28) none (.pointer (some ⟨r1, 1, none⟩)) (by kernel_rfl) (by kernel_rfl) (by kernel_rfl) (fun _ _ _ h => h) (fun o' wq e hS => exec_field (u := .pointer (some ⟨r1, 0, none⟩)) wq e (by kernel_rfl) (by kernel_rfl)) HS.out ?_
      refine takeG 10 (.load 22 (.tmp 28)) (some 29) none (.slice (some ⟨g, o, none⟩) n c) (by kernel_rfl) (by kernel_rfl) (by kernel_rfl) (fun _ _ _ h => h) (fun o' wq e hS => exec_load (x := (.tmp 28)) e (by kernel_rfl) (load_one Try.underlying22 (by kernel_rfl) (hS.1.cell 1))) HS.out ?_
      refine takeG 11 (.move (.tmp 4)) (some 30) none (.int .i64 (i : Int)) (by kernel_rfl) (by kernel_rfl) (by kernel_rfl) (fun _ _ _ h => h) (fun o' wq e hS => exec_move wq e (by kernel_rfl)) HS.out ?_
      refine takeG 12 (.indexAddr 22 (.tmp 29) (.tmp 30)) (some 31) none (.pointer (some ⟨g, o + i * 2, none⟩)) (by kernel_rfl) (by kernel_rfl) (by kernel_rfl) (fun _ _ _ h => h) (fun o' wq e hS => exec_index (u1 := .slice (some ⟨g, o, none⟩) n c) (u2 := .int .i64 (i : Int)) wq e (by kernel_rfl) (by kernel_rfl) (index_rsn g o n c i hlt _)) HS.out ?_
      refine takeG 13 (.fieldAddr 72 (.tmp 31) 1) (some 32) none (.pointer (some ⟨g, o + i * 2 + 1, none⟩)) (by kernel_rfl) (by kernel_rfl) (by kernel_rfl) (fun _ _ _ h => h) (fun o' wq e hS => exec_field (u := .pointer (some ⟨g, o + i * 2, none⟩)) wq e (by kernel_rfl) (by kernel_rfl)) HS.out ?_
      refine takeG 14 (.load 23 (.tmp 32)) (some 33) none (.slice A2 m2 c2) (by kernel_rfl) (by kernel_rfl) (by kernel_rfl) (fun _ _ _ h => h) (fun o' wq e hS => exec_load (x := (.tmp 32)) e (by kernel_rfl) (load_one Try.underlying23 (by kernel_rfl) hS.2.2.2)) HS.out ?_
      refine loneG 8 (.buildSlice 23 0 #[]) (some 27) none (by kernel_rfl) (by kernel_rfl) (by kernel_rfl) ?_
      intro o' ho hod
      refine wp_val (exec_bs0 ho (bs_pt0 _)) ?_
      rw [hod]
      clear hod ho
      have hbx : Below wr.heap.size wr (wr.drew.alloc (.cells #[] 27)) := (Below.refl wr.heap.size wr).drew.alloc (Nat.le_refl _) _
      have HS1 : Hid (Blk (wr.drew.alloc (.cells #[] 27)) r1 25 #[.int .i64 bs, .slice (some ⟨g, o, none⟩) n c, .slice A' m c'] ∧ Blk (wr.drew.alloc (.cells #[] 27)) g3 25 #[.int .i64 bs, .slice A1 i c1, .slice A5 m c5] ∧ (wr.drew.alloc (.cells #[] 27)).cell? ⟨g, o + i * 2, none⟩ = some (.int .i64 t) ∧ (wr.drew.alloc (.cells #[] 27)).cell? ⟨g, o + i * 2 + 1, none⟩ = some (.slice A2 m2 c2)) := Lib.hid ⟨HS.out.1.alloc _, HS.out.2.1.alloc _, HCC.out _ (LW.out.trans (hbx.mono LW.out.size))⟩
      have HBX := Lib.hid hbx
      have HOW : Hid (OwnP (wr.drew.alloc (.cells #[] 27)) wr.heap.size (.slice (some ⟨wr.heap.size, 0, none⟩) 0 0) []) := Lib.hid (own_empty wr.drew)
      have HRS1 := Lib.hid (HRP.out.1.below (LW.out.trans (hbx.mono LW.out.size)))
      clear hbx
      refine ⟨fun _ => HS1.out, ?_⟩
      refine loneG 15 (.call ⟨.builtin .append, #[(.tmp 27), (.tmp 33)], #[23, 23]⟩) (some 34) none (by kernel_rfl) (by kernel_rfl) (by kernel_rfl) ?_
      intro o' ho hod
      obtain ⟨v2, w2, hrun, ho2, hb2, hkx, hex⟩ := app_copy (n := m2) (c := c2) (A := A2) HOW.out s.dead HM2.out HRS1.out HRP.out.2 HBY2.out (by simp) o'.type
      obtain ⟨A3, c3, hv2, _, _, _, _, _⟩ := ho2.shape (fun _ => rfl)
      rw [← HM2.out] at hv2
      subst hv2
      refine Gr.wp_append 23 (.tmp 27) (.tmp 33) ho (by kernel_rfl) (by kernel_rfl) hrun ?_
      rw [hod]
      clear hod ho hrun
      have hb12 : Below wr.heap.size wr w2 := HBX.out.trans hb2
      have HS2 := Lib.hid (⟨HS1.out.1.below hb2 (HX1.out.lt), HS1.out.2.1.below hb2 HX3.out.lt, HCC.out _ (LW.out.trans (hb12.mono LW.out.size))⟩ : _ ∧ _ ∧ _)
      have HB12 := Lib.hid hb12
      have HO2 := Lib.hid (⟨ho2, hex⟩ : _ ∧ _)
      clear hb2 hkx hb12 ho2 hex
      refine ⟨fun _ => HS2.out, ?_⟩
      refine takeG 16 (.build 72 #[(0, (.tmp 26)), (1, (.tmp 34))]) (some 35) none (.agg #[.int .i64 t, .slice A3 m2 c3]) (by kernel_rfl) (by kernel_rfl) (by kernel_rfl) (fun _ _ _ h => h) (fun o' wq e hS => exec_bld2 (u0 := .int .i64 t) (u1 := .slice A3 m2 c3) wq e (by kernel_rfl) (by kernel_rfl) (by kernel_rfl)) HS2.out ?_
      refine loneG 17 (.buildSlice 22 1 #[(0, (.tmp 35))]) (some 36) none (by kernel_rfl) (by kernel_rfl) (by kernel_rfl) ?_
      intro o' ho hod
      refine wp_val (exec_buildSlice1 ho (by kernel_rfl) (bs_rs t A3 m2 c3 _)) ?_
      rw [hod]
      clear hod ho
      have HS3 : Hid (Blk (w2.alloc (.cells #[.int .i64 t, .slice A3 m2 c3] 72)) r1 25 #[.int .i64 bs, .slice (some ⟨g, o, none⟩) n c, .slice A' m c'] ∧ Blk (w2.alloc (.cells #[.int .i64 t, .slice A3 m2 c3] 72)) g3 25 #[.int .i64 bs, .slice A1 i c1, .slice A5 m c5] ∧ (w2.alloc (.cells #[.int .i64 t, .slice A3 m2 c3] 72)).cell? ⟨g, o + i * 2, none⟩ = some (.int .i64 t) ∧ (w2.alloc (.cells #[.int .i64 t, .slice A3 m2 c3] 72)).cell? ⟨g, o + i * 2 + 1, none⟩ = some (.slice A2 m2 c2)) := Lib.hid ⟨HS2.out.1.alloc _, HS2.out.2.1.alloc _, HCC.out _ ((LW.out.trans (HB12.out.mono LW.out.size)).alloc (Nat.le_trans LW.out.size HB12.out.size) _)⟩
      refine ⟨fun _ => HS3.out, ?_⟩
      refine loneG 18 (.call ⟨.builtin .append, #[(.tmp 20), (.tmp 36)], #[22, 22]⟩) (some 37) none (by kernel_rfl) (by kernel_rfl) (by kernel_rfl) ?_
      intro o' ho hod
      obtain ⟨v7, w7, hrun, ho7, hb7, hsz7, hkp7⟩ := append_sv (TS := 22) Try.underlying22 info_rs (HV1.out _ HB12.out) ⟨t, A3, m2, c3⟩ HVL.out (Nat.le_trans HBs.out HB12.out.size) o'.type
      refine Gr.wp_append 22 (.tmp 20) (.tmp 36) ho (by kernel_rfl) (by kernel_rfl) hrun ?_
      rw [hod]
      clear hod ho hrun
      have hadd := HLN.out.addSnap (w2 := w2) (w7 := w7) (v7 := v7) (t := t) (D := s.dead) (A2 := A3) (c2 := c3) ne_rs (fun g hg => HB12.out.block g hg) HB12.out.size HBs.out (by rw [← HM2.out]; exact HO2.out.1) (by rw [← HM2.out]; exact ho7) (fun g hg hne => hkp7 g hg (by rw [HTL.out] at hne; exact hne))
      obtain ⟨A7, c7, hv7, hln⟩ := hadd
      rw [HTL.out] at hv7
      subst hv7
      have hE := HEQ.out
      have hlow : ∀ g, g < B → w7.heap[g]? = w2.heap[g]? := fun g hg => hb7.block g hg
      have Y1 : Blk w7 r1 25 #[.int .i64 bs, .slice (some ⟨g, o, none⟩) n c, .slice A' m c'] := (hlow r1 (by omega)).trans HS2.out.1
      have Y2 : Blk w7 r2 25 #[.int .i64 0, .slice none 0 0, .slice none 0 0] := (hlow r2 (by omega)).trans (HB12.out.block r2 HX2.out.lt |>.trans HX2.out)
      have hg3ne : (Value.slice A1 i c1).ownBlock ≠ some g3 := fun e => by
        obtain ⟨cu, h1⟩ := (HV1.out _ HB12.out).blk_of e
        exact (Blk.ne_ h1 HS2.out.2.1 (by decide)) rfl
      have Y3 : Blk w7 g3 25 #[.int .i64 bs, .slice A1 i c1, .slice A5 m c5] := (hkp7 g3 HS2.out.2.1.lt hg3ne).trans HS2.out.2.1
      have YL : Below w.heap.size w w7 := (LW.out.trans (HB12.out.mono LW.out.size)).trans (hb7.mono (by omega))
      have hk8 : ∀ g, g ≠ g3 → (w7.setCell ⟨g3, 1, none⟩ (.slice A7 (i + 1) c7)).heap[g]? = w7.heap[g]? := fun g hg => Below.heap_setCell _ _ _ g hg
      have HS4 := Lib.hid (⟨Y1, Y3, HCC.out _ YL⟩ : _ ∧ _ ∧ _)
      have Z1 := Lib.hid (Y1.far (p := ⟨g3, 1, none⟩) (by show r1 ≠ g3; omega) (.slice A7 (i + 1) c7))
      have Z2 := Lib.hid (Y2.far (p := ⟨g3, 1, none⟩) (by show r2 ≠ g3; omega) (.slice A7 (i + 1) c7))
      have Z3 : Hid (Blk (w7.setCell ⟨g3, 1, none⟩ (.slice A7 (i + 1) c7)) g3 25 #[.int .i64 bs, .slice A7 (i + 1) c7, .slice A5 m c5]) := Lib.hid (Y3.set_ 1 _)
      have ZN : Hid (LnO 72 (w7.setCell ⟨g3, 1, none⟩ (.slice A7 (i + 1) c7)) B A7 c7 A5 c5 (vs ++ [⟨t, A3, m2, c3⟩]) ⟨L.base, L.snaps.take (i + 1), L.dead⟩) := Lib.hid (by
        have h1 := hln.notline Y3 (by decide) (by decide) hk8
        rw [HTK.out]
        exact (by rw [← HM2.out] at h1; exact h1))
      have ZL := Lib.hid (YL.setCell (p := ⟨g3, 1, none⟩) (by show w.heap.size ≤ g3; omega) (.slice A7 (i + 1) c7))
      have ZB : Hid (B ≤ (w7.setCell ⟨g3, 1, none⟩ (.slice A7 (i + 1) c7)).heap.size) := Lib.hid (by have := HBs.out; have := HB12.out.size; simp [World.setCell]; omega)
      clear hE hlow Y1 Y2 hg3ne Y3 YL hk8 hln ho7 hb7 hsz7 hkp7
      refine ⟨fun _ => HS4.out, ?_⟩
      refine takeG 19 (.fieldAddr 25 (.tmp 3) 1) (some 38) none (.pointer (some ⟨g3, 1, none⟩)) (by kernel_rfl) (by kernel_rfl) (by kernel_rfl) (fun _ _ _ h => h) (fun o' wq e hS => exec_field (u := .pointer (some ⟨g3, 0, none⟩)) wq e (by kernel_rfl) (by kernel_rfl)) HS4.out ?_
      refine lastStore 20 22 (.tmp 38) (.tmp 37) (.pointer (some ⟨g3, 1, none⟩)) (.slice A7 (i + 1) c7) _ (by kernel_rfl) (by kernel_rfl) (by kernel_rfl) rfl (by kernel_rfl) (by kernel_rfl) (store_one size_slr rfl rfl (by rw [HS4.out.2.1.cell 1]; rfl) (HS4.out.2.1.frozen 1) (by rw [add_plain])) ?_
      simp only [put_some, put_none, List.setIfInBounds_toArray, List.set_cons_succ, List.set_cons_zero]
      clear HS
      go_wp2_with fail
      go_roundw
      case rel => exact ⟨i + 1, _, _, _, by omega, by go_num, Z1, Z2, Z3, ZN, ZL, ZB⟩
      case measure => simp [intOf]; omega
    · obtain rfl : i = n := by omega
      have i1 : ¬ ((i : Int) < (i : Int)) := by omega
      have p0 : wr.cell? ⟨r2, 0, none⟩ = some (.int .i64 0) := HX2.out.cell 0
      have p1 : wr.cell? ⟨r2, 1, none⟩ = some (.slice none 0 0) := HX2.out.cell 1
      have p2 : wr.cell? ⟨r2, 2, none⟩ = some (.slice none 0 0) := HX2.out.cell 2
      have pf0 : wr.frozen? ⟨r2, 0, none⟩ = false := HX2.out.frozen 0
      have pf1 : wr.frozen? ⟨r2, 1, none⟩ = false := HX2.out.frozen 1
      have pf2 : wr.frozen? ⟨r2, 2, none⟩ = false := HX2.out.frozen 2
      have s0 : wr.cell? ⟨g3, 0, none⟩ = some (.int .i64 bs) := HX3.out.cell 0
      have s1 : wr.cell? ⟨g3, 1, none⟩ = some (.slice A1 i c1) := HX3.out.cell 1
      have s2 : wr.cell? ⟨g3, 2, none⟩ = some (.slice A5 m c5) := HX3.out.cell 2
      have HTA : Hid (L.snaps.take i = L.snaps) := Lib.hid (List.take_of_length_le (by rw [← HN.out]; exact Nat.le_refl _))
      clear hlt
      go_wp2_with fail
      have T4 := ((HX2.out.set_ 0 (.int .i64 bs)).set_ 1 (.slice A1 i c1)).set_ 2 (.slice A5 m c5)
      refine bodyPost_ret (results_cell rfl rfl (loadVar_blk T4 Try.underlying25 rfl size_rln)) rfl ?_
      have hk6 : ∀ g, g ≠ r2 → (((wr.setCell ⟨r2, 0, none⟩ (.int .i64 bs)).setCell ⟨r2, 1, none⟩ (.slice A1 i c1)).setCell ⟨r2, 2, none⟩ (.slice A5 m c5)).heap[g]? = wr.heap[g]? := fun g hg => ((Below.heap_setCell _ ⟨r2, 2, none⟩ _ g hg).trans (Below.heap_setCell _ ⟨r2, 1, none⟩ _ g hg)).trans (Below.heap_setCell _ ⟨r2, 0, none⟩ _ g hg)
      have h1 := HLN.out.keep (w' := ((wr.setCell ⟨r2, 0, none⟩ (.int .i64 bs)).setCell ⟨r2, 1, none⟩ (.slice A1 i c1)).setCell ⟨r2, 2, none⟩ (.slice A5 m c5)) fun g hg _ => hk6 g (by omega)
      rw [HTA.out] at h1
      refine ⟨A1, c1, A5, c5, vs, by rw [← HN.out, ← HM.out, ← HBS.out]; rfl, h1.base_ (by omega),  ((LW.out.setCell (p := ⟨r2, 0, none⟩) hr2 _).setCell (p := ⟨r2, 1, none⟩) hr2 _).setCell (p := ⟨r2, 2, none⟩) hr2 _⟩
end Dd
end Go.Proofs.Ytpoacgofbbfhcaa
