/-
  slices.Clone of a row of ranges and '(part).copy', by contracts.
-/
import Derived.Test.YtpbojhjbjnoihaaSpcTell
import Derived.Lib.SliceRun
namespace Go.Proofs.Ytpbojhjbjnoihaa
open Go Go.RowKit
set_option maxRecDepth 100000
set_option linter.unusedVariables false
namespace Sp
set_option maxHeartbeats 1600000 in
theorem clone_rg (w : World) (base : Nat) (v : Value) (l : List Rg) (h : Own w base v l) (hn : l.length ≤ 100000) :
    Calls Try.prog 45 #[v] w fun e w' => ∃ v', e = .returned v' ∧ Own w' w.heap.size v' l ∧ Below w.heap.size w w' := by
  have h0 := h
  rcases h with ⟨rfl, rfl⟩ | ⟨g, c, cur, rfl, hg, hblk, h1, h2, h3, h4⟩
  · have he : ∀ w : World, (binOp .eql 31 (.slice none 0 0) (.slice none 0 0)).run Try.prog w = .ok (.bool true) w := by
      intro w
      simp only [binOp]
      simp [Op.equal, Op.maxDepth, Lib.run_equalIn_slice_nil w 9999 31 _ _ 0 0 0 0 Try.underlying31]
    go_enter Try.func45, Try.ntmps45
    go_wp2_with fail
    go_ret
    exact ⟨_, rfl, Own.nil _ _, Below.refl _ _⟩
  · have he : ∀ w : World, (binOp .eql 31 (.slice (some ⟨g, 0, none⟩) l.length c) (.slice none 0 0)).run Try.prog w = .ok (.bool false) w := by
      intro w
      simp only [binOp]
      simp [Op.equal, Op.maxDepth, Lib.run_equalIn_slice_nil w 9999 31 _ _ l.length c 0 0 Try.underlying31]
    have HH : Hid (Own (w.alloc (.cells #[] 34)) w.heap.size (.slice (some ⟨w.heap.size, 0, none⟩) 0 0) []) := Lib.hid (.inr ⟨w.heap.size, 0, #[], rfl, Nat.le_refl _, Blk.new w _ _, Nat.le_refl _, by simp [maxLen], rfl, fun j hj => by simp at hj⟩)
    have hc0 := own_cells h0 0
    have HS : Hid (Sr (w.alloc (.cells #[] 34)) (.slice (some ⟨g, 0, none⟩) l.length c) l) := Lib.hid (Sr.of fun j u hj => by
      have h5 := hc0 j u hj
      rw [Nat.zero_mul] at h5
      exact (w.cell?_alloc_old _ _ (Nat.ne_of_lt (block_lt_of_cell h5))).trans h5)
    have HB : Hid (w.heap.size ≤ (w.alloc (.cells #[] 34)).heap.size) := Lib.hid (by simp)
    have HSZ : Hid ((@List.nil Rg).length + l.length ≤ 1000000) := Lib.hid (by simp; omega)
    have L1 : Hid (Below w.heap.size w (w.alloc (.cells #[] 34))) := Lib.hid ((Below.refl _ _).alloc (Nat.le_refl _) _)
    obtain ⟨n, hnn⟩ : ∃ n, n = l.length := ⟨_, rfl⟩
    rw [← hnn] at HS he hn ⊢
    clear h0 hblk h1 h2 h3 h4 hc0 hnn hg
    go_enter Try.func45, Try.ntmps45
    go_wp2_with (at_builtin; refine wpList_append_rg rfl (.tmp 5) (.tmp 6) rfl rfl rfl HH.out HS.out HSZ.out HB.out ?_; intro v' w' ho hg hor; refine unhid ?_)
    refine Lib.hid ?_
    have O := Lib.hid (⟨ho, hg, hor⟩ : _ ∧ _ ∧ _)
    clear ho hg hor
    go_wp2_with fail
    go_ret
    exact ⟨_, rfl, O.out.1, L1.out.grown O.out.2.1 (by simp) (fun k hk => by injection hk with hk; exact Nat.le_of_eq hk)⟩
set_option maxHeartbeats 1600000 in
theorem copy_rg (w : World) (base : Nat) (v : Value) (l : List Rg) (cnt : Nat) (h : Own w base v l) (hbs : base ≤ w.heap.size) (hn : l.length ≤ 100000) :
    Calls Try.prog 29 #[.agg #[v, .int .i64 (cnt : Int)]] w fun e w' => ∃ v', e = .returned (.agg #[v', .int .i64 (cnt : Int)]) ∧ Own w' w.heap.size v' l ∧ Below w.heap.size w w' := by
  obtain ⟨A, c, rfl, _, _, _, _⟩ := h.shape
  obtain ⟨W, hW⟩ : ∃ W, W = (w.alloc (.cells #[.slice A l.length c, .int .i64 (cnt : Int)] 60)).alloc (.cells #[.slice none 0 0, .int .i64 0] 60) := ⟨_, rfl⟩
  have hs1 : (w.alloc (.cells #[.slice A l.length c, .int .i64 (cnt : Int)] 60)).heap.size = w.heap.size + 1 := by simp
  have hsW : W.heap.size = w.heap.size + 1 + 1 := by rw [hW]; simp
  have hb : Below w.heap.size w W := by rw [hW]; exact ((Below.refl _ _).alloc (Nat.le_refl _) _).alloc (by rw [hs1]; omega) _
  have X2 : Blk W w.heap.size 60 #[.slice A l.length c, .int .i64 (cnt : Int)] := by rw [hW]; exact (Blk.new _ _ _).alloc _
  have X3 : Blk W (w.heap.size + 1) 60 #[.slice none 0 0, .int .i64 0] := by
    have h := Blk.new (w.alloc (.cells #[.slice A l.length c, .int .i64 (cnt : Int)] 60)) 60 #[.slice none 0 0, .int .i64 0]
    rw [hs1, ← hW] at h
    exact h
  have HC := Lib.hid (clone_rg W base _ l (h.below hb (Nat.le_refl _)) hn)
  have L1 := Lib.hid hb
  have B2 := Lib.hid X2
  have B3 := Lib.hid X3
  have d0 : W.cell? ⟨w.heap.size, 0, none⟩ = some (.slice A l.length c) := X2.cell 0
  obtain ⟨b2, hb2⟩ : ∃ b2, b2 = w.heap.size := ⟨_, rfl⟩
  have HBB := Lib.hid hb2
  have HSW := Lib.hid hsW
  obtain ⟨n, hnn⟩ : ∃ n, n = l.length := ⟨_, rfl⟩
  have HN := Lib.hid hnn
  rw [← hnn] at HC B2 d0 hW hn ⊢
  clear hb X2 X3 hnn hs1 h hsW
  go_enter Try.func29, Try.ntmps29
  go_upto_region 1 with (fail)
  rw [← hW, ← HBB.out]
  rw [← HBB.out] at d0
  clear hW hb2
  go_wp2_with fail
  refine HC.out.mono ?_
  rintro e w2 ⟨v', rfl, ho, b3⟩
  obtain ⟨A', c', rfl, _, _, _, _⟩ := ho.shape
  rw [← HN.out] at ho ⊢
  have O := Lib.hid ho
  have T2 : Hid (Blk w2 b2 60 #[.slice A n c, .int .i64 (cnt : Int)]) := Lib.hid (by rw [HBB.out]; exact B2.out.below b3 (by rw [HSW.out]; omega))
  have T3 : Hid (Blk w2 (b2 + 1) 60 #[.slice none 0 0, .int .i64 0]) := Lib.hid (by rw [HBB.out]; exact B3.out.below b3 (by rw [HSW.out]; omega))
  have L2 := Lib.hid (L1.out.trans (b3.mono L1.out.size))
  have q0 : w2.cell? ⟨b2, 0, none⟩ = some (.slice A n c) := T2.out.cell 0
  have q1 : w2.cell? ⟨b2, 1, none⟩ = some (.int .i64 (cnt : Int)) := T2.out.cell 1
  have qf : w2.frozen? ⟨b2, 0, none⟩ = false := T2.out.frozen 0
  have p0 : w2.cell? ⟨b2 + 1, 0, none⟩ = some (.slice none 0 0) := T3.out.cell 0
  have p1 : w2.cell? ⟨b2 + 1, 1, none⟩ = some (.int .i64 0) := T3.out.cell 1
  have pf0 : w2.frozen? ⟨b2 + 1, 0, none⟩ = false := T3.out.frozen 0
  have pf1 : w2.frozen? ⟨b2 + 1, 1, none⟩ = false := T3.out.frozen 1
  clear ho b3 d0 HC
  go_wp2_with fail
  have T4' : Blk (((w2.setCell ⟨b2, 0, none⟩ (.slice A' n c')).setCell ⟨b2 + 1, 0, none⟩ (.slice A' n c')).setCell ⟨b2 + 1, 1, none⟩ (.int .i64 (cnt : Int))) (b2 + 1) 60 #[.slice A' n c', .int .i64 (cnt : Int)] := ((T3.out.far (p := ⟨b2, 0, none⟩) (by simp) _).set_ 0 _).set_ 1 _
  refine bodyPost_ret (results_cell rfl rfl (loadVar_blk T4' Try.underlying60 rfl size_part)) rfl ?_
  have hg : ∀ g, (Value.slice A' n c').ownBlock = some g → g ≠ b2 ∧ g ≠ b2 + 1 := fun g e => by
    have h0 := (O.out.lt e).2
    have h1 := HSW.out
    have h2 := HBB.out
    omega
  refine ⟨_, rfl, ?_, ?_⟩
  · exact (((O.out.grown (grown_set w2 b2 0 _) (fun g e h => (hg g e).1 (by injection h))).grown (grown_set _ (b2 + 1) 0 _) (fun g e h => (hg g e).2 (by injection h))).grown (grown_set _ (b2 + 1) 1 _) (fun g e h => (hg g e).2 (by injection h))).base_ (by rw [HSW.out]; omega)
  · exact ((L2.out.setCell (p := ⟨b2, 0, none⟩) (by rw [HBB.out]; exact Nat.le_refl _) _).setCell (p := ⟨b2 + 1, 0, none⟩) (by rw [HBB.out]; exact Nat.le_succ _) _).setCell (p := ⟨b2 + 1, 1, none⟩) (by rw [HBB.out]; exact Nat.le_succ _) _
end Sp
end Go.Proofs.Ytpbojhjbjnoihaa
