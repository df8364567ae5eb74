/-
  '(part).row' by a contract: the least cell from which so many in a row are there. Conditions: the ranges are short, their ends small.
-/
import Derived.Test.YtffbclendkojlaaSpcWith
import Derived.Lib.SliceRun
namespace Go.Proofs.Ytffbclendkojlaa
open Go Go.RowKit
set_option maxRecDepth 100000
set_option linter.unusedVariables false
namespace Sp
theorem rowL_skip {m : Nat} {r : Rg} {l : List Rg} {i : Nat} (h : l[i]? = some r) (hm : ¬ m ≤ r.2 - r.1) (e : rowL m l = rowL m (l.drop i)) : rowL m l = rowL m (l.drop (i + 1)) := by
  obtain ⟨hi, he⟩ := List.getElem?_eq_some_iff.1 h
  rw [e, List.drop_eq_getElem_cons hi, he]
  exact if_neg hm
theorem rowL_hit {m : Nat} {r : Rg} {l : List Rg} {i : Nat} (h : l[i]? = some r) (hm : m ≤ r.2 - r.1) (e : rowL m l = rowL m (l.drop i)) : rowL m l = some r.1 := by
  obtain ⟨hi, he⟩ := List.getElem?_eq_some_iff.1 h
  rw [e, List.drop_eq_getElem_cons hi, he]
  exact if_pos hm
set_option maxHeartbeats 1600000 in
theorem row_rg (w : World) (A : Option Addr) (l : List Rg) (c m : Nat) (cnt : Int) (h : Rd w A l) (hn : l.length ≤ 100000) (hs : ∀ r ∈ l, r.1 < r.2 ∧ r.2 ≤ 1000000) :
    Calls Try.prog 38 #[.agg #[.slice A l.length c, .int .i64 cnt], .int .i64 (m : Int)] w fun e w' => e = .returned (.tuple #[.int .i64 (((rowL m l).getD 0 : Nat) : Int), .bool (rowL m l).isSome]) ∧ Below w.heap.size w w' := by
  have HS := Lib.hid hs
  have HR := Lib.hid h
  have hBd := Below.refl w.heap.size w
  obtain ⟨n, hnn⟩ : ∃ n, n = l.length := ⟨_, rfl⟩
  have HN := Lib.hid hnn
  obtain ⟨ans, hans⟩ : ∃ ans, ans = rowL m l := ⟨_, rfl⟩
  have HA := Lib.hid hans
  rw [← hnn] at hn
  rw [← hnn, ← hans]
  have L1 : Hid (Below w.heap.size w (w.alloc (.cells #[.slice A n c, .int .i64 cnt] 67))) := Lib.hid (hBd.alloc (Nat.le_refl _) _)
  clear hs h hnn hans hBd
  go_enter Try.func38, Try.ntmps38
  go_wp2_with fail
  go_loopw [11] (fun y wr => ∃ i : Nat, i ≤ n ∧ y = .int .i64 (i : Int) ∧ Hid (rowL m l = rowL m (l.drop i)) ∧ Hid (Below w.heap.size w wr)) (fun y _ => n - (intOf y).toNat)
  case atStart => exact ⟨0, by omega, rfl, Lib.hid rfl, L1⟩
  case round =>
    clear L1
    obtain ⟨i, hi, rfl, HD, L0⟩ := hrel
    by_cases hlt : i < n
    · have i1 : (i : Int) < (n : Int) := by omega
      obtain ⟨r, g, o, hg, hAe, h1, h2⟩ := (HR.out.below L0.out).at_ (i := i) (by have := HN.out; omega)
      have hrm : r.1 < r.2 ∧ r.2 ≤ 1000000 := HS.out r (List.mem_of_getElem? hg)
      have HG := Lib.hid hg
      subst hAe
      obtain ⟨x, hx⟩ : ∃ x, x = r.1 := ⟨_, rfl⟩
      obtain ⟨y, hy⟩ : ∃ y, y = r.2 := ⟨_, rfl⟩
      rw [← hx, ← hy] at hrm
      rw [← hx] at h1
      rw [← hy] at h2
      have HXY := Lib.hid (⟨hx, hy⟩ : x = r.1 ∧ y = r.2)
      clear hx hy hg
      have hrm1 := hrm.1
      have hrm2 := hrm.2
      clear hrm
      go_wp2_with fail
      refine (size_rg _ x y (by omega) (by omega)).mono ?_
      rintro e w2 ⟨rfl, b2⟩
      have hsz := L0.out.size
      have L2 := Lib.hid ((L0.out.alloc hsz (.cells #[.int .i64 (x : Int), .int .i64 (y : Int)] 34)).trans (b2.mono (Nat.le_trans hsz (by simp))))
      have B7 := Lib.hid ((Blk.new wr 34 #[.int .i64 (x : Int), .int .i64 (y : Int)]).below b2 (by simp))
      have d0 : w2.cell? ⟨wr.heap.size, 0, none⟩ = some (.int .i64 (x : Int)) := B7.out.cell 0
      clear b2 B7 hsz h1 h2
      by_cases hmm : m ≤ y - x
      · have HD2 := Lib.hid (rowL_hit HG.out (by have := HXY.out; omega) HD.out)
        have t1 : (m : Int) ≤ (y : Int) - (x : Int) := by omega
        have hans : ans = some x := by rw [HA.out, HD2.out, HXY.out.1]
        have HA2 := Lib.hid hans
        clear hans HD HG HXY HD2 L0 HR
        go_wp2_with fail
        go_ret2
        exact ⟨by rw [HA2.out]; rfl, L2.out⟩
      · have HD2 := Lib.hid (rowL_skip HG.out (by have := HXY.out; omega) HD.out)
        have t1 : ¬ ((m : Int) ≤ (y : Int) - (x : Int)) := by omega
        clear HD HG HXY L0
        go_wp2_with fail
        go_roundw
        case rel => exact ⟨i + 1, by omega, by go_num, HD2, L2⟩
        case measure => simp [intOf]; omega
    · have i1 : ¬ ((i : Int) < (n : Int)) := by omega
      have hans : ans = none := by rw [HA.out, HD.out, List.drop_eq_nil_of_le (by have := HN.out; omega)]; rfl
      have HA2 := Lib.hid hans
      clear hans HD HR
      go_wp2_with fail
      go_ret2
      exact ⟨by rw [HA2.out]; rfl, L0.out⟩
end Sp
end Go.Proofs.Ytffbclendkojlaa
namespace Go.Proofs.Ytffbclendkojlaa
open Go Go.RowKit
set_option maxRecDepth 100000
set_option linter.unusedVariables false
namespace Sp
set_option maxHeartbeats 1600000 in
theorem clone_rg (w : World) (base : Nat) (v : Value) (l : List Rg) (h : Own w base v l) (hn : l.length ≤ 100000) :
    Calls Try.prog 50 #[v] w fun e w' => ∃ v', e = .returned v' ∧ Own w' w.heap.size v' l ∧ Below w.heap.size w w' := by
  have h0 := h
  rcases h with ⟨rfl, rfl⟩ | ⟨g, c, cur, rfl, hg, hblk, h1, h2, h3, h4⟩
  · have he : ∀ w : World, (binOp .eql 31 (.slice none 0 0) (.slice none 0 0)).run Try.prog w = .ok (.bool true) w := by
      intro w
      simp only [binOp]
      simp [Op.equal, Op.maxDepth, Lib.run_equalIn_slice_nil w 9999 31 _ _ 0 0 0 0 Try.underlying31]
    go_enter Try.func50, Try.ntmps50
    go_wp2_with fail
    go_ret
    exact ⟨_, rfl, Own.nil _ _, Below.refl _ _⟩
  · have he : ∀ w : World, (binOp .eql 31 (.slice (some ⟨g, 0, none⟩) l.length c) (.slice none 0 0)).run Try.prog w = .ok (.bool false) w := by
      intro w
      simp only [binOp]
      simp [Op.equal, Op.maxDepth, Lib.run_equalIn_slice_nil w 9999 31 _ _ l.length c 0 0 Try.underlying31]
    have HH : Hid (Own (w.alloc (.cells #[] 34)) w.heap.size (.slice (some ⟨w.heap.size, 0, none⟩) 0 0) []) := Lib.hid (.inr ⟨w.heap.size, 0, #[], rfl, Nat.le_refl _, Blk.new w _ _, Nat.le_refl _, by simp [maxLen], rfl, fun j hj => by simp at hj⟩)
    have hc0 := own_cells h0 0
    have HS : Hid (Sr (w.alloc (.cells #[] 34)) (.slice (some ⟨g, 0, none⟩) l.length c) l) := Lib.hid (Sr.of fun j u hj => by
      have h5 := hc0 j u hj
      rw [Nat.zero_mul] at h5
      exact (w.cell?_alloc_old _ _ (Nat.ne_of_lt (block_lt_of_cell h5))).trans h5)
    have HB : Hid (w.heap.size ≤ (w.alloc (.cells #[] 34)).heap.size) := Lib.hid (by simp)
    have HSZ : Hid ((@List.nil Rg).length + l.length ≤ 1000000) := Lib.hid (by simp; omega)
    have L1 : Hid (Below w.heap.size w (w.alloc (.cells #[] 34))) := Lib.hid ((Below.refl _ _).alloc (Nat.le_refl _) _)
    obtain ⟨n, hnn⟩ : ∃ n, n = l.length := ⟨_, rfl⟩
    rw [← hnn] at HS he hn ⊢
    clear h0 hblk h1 h2 h3 h4 hc0 hnn hg
    go_enter Try.func50, Try.ntmps50
    go_wp2_with (at_builtin; refine wpList_append_rg rfl (.tmp 5) (.tmp 6) rfl rfl rfl HH.out HS.out HSZ.out HB.out ?_; intro v' w' ho hg hor; refine unhid ?_)
    refine Lib.hid ?_
    have O := Lib.hid (⟨ho, hg, hor⟩ : _ ∧ _ ∧ _)
    clear ho hg hor
    go_wp2_with fail
    go_ret
    exact ⟨_, rfl, O.out.1, L1.out.grown O.out.2.1 (by simp) (fun k hk => by injection hk with hk; exact Nat.le_of_eq hk)⟩
set_option maxHeartbeats 1600000 in
theorem copy_rg (w : World) (base : Nat) (v : Value) (l : List Rg) (cnt : Nat) (h : Own w base v l) (hbs : base ≤ w.heap.size) (hn : l.length ≤ 100000) :
    Calls Try.prog 35 #[.agg #[v, .int .i64 (cnt : Int)]] w fun e w' => ∃ v', e = .returned (.agg #[v', .int .i64 (cnt : Int)]) ∧ Own w' w.heap.size v' l ∧ Below w.heap.size w w' := by
  obtain ⟨A, c, rfl, _, _, _, _⟩ := h.shape
  obtain ⟨W, hW⟩ : ∃ W, W = (w.alloc (.cells #[.slice A l.length c, .int .i64 (cnt : Int)] 67)).alloc (.cells #[.slice none 0 0, .int .i64 0] 67) := ⟨_, rfl⟩
  have hs1 : (w.alloc (.cells #[.slice A l.length c, .int .i64 (cnt : Int)] 67)).heap.size = w.heap.size + 1 := by simp
  have hsW : W.heap.size = w.heap.size + 1 + 1 := by rw [hW]; simp
  have hb : Below w.heap.size w W := by rw [hW]; exact ((Below.refl _ _).alloc (Nat.le_refl _) _).alloc (by rw [hs1]; omega) _
  have X2 : Blk W w.heap.size 67 #[.slice A l.length c, .int .i64 (cnt : Int)] := by rw [hW]; exact (Blk.new _ _ _).alloc _
  have X3 : Blk W (w.heap.size + 1) 67 #[.slice none 0 0, .int .i64 0] := by
    have h := Blk.new (w.alloc (.cells #[.slice A l.length c, .int .i64 (cnt : Int)] 67)) 67 #[.slice none 0 0, .int .i64 0]
    rw [hs1, ← hW] at h
    exact h
  have HC := Lib.hid (clone_rg W base _ l (h.below hb (Nat.le_refl _)) hn)
  have L1 := Lib.hid hb
  have B2 := Lib.hid X2
  have B3 := Lib.hid X3
  have d0 : W.cell? ⟨w.heap.size, 0, none⟩ = some (.slice A l.length c) := X2.cell 0
  obtain ⟨b2, hb2⟩ : ∃ b2, b2 = w.heap.size := ⟨_, rfl⟩
  have HBB := Lib.hid hb2
  have HSW := Lib.hid hsW
  obtain ⟨n, hnn⟩ : ∃ n, n = l.length := ⟨_, rfl⟩
  have HN := Lib.hid hnn
  rw [← hnn] at HC B2 d0 hW hn ⊢
  clear hb X2 X3 hnn hs1 h hsW
  go_enter Try.func35, Try.ntmps35
  go_upto_region 1 with (fail)
  rw [← hW, ← HBB.out]
  rw [← HBB.out] at d0
  clear hW hb2
  go_wp2_with fail
  refine HC.out.mono ?_
  rintro e w2 ⟨v', rfl, ho, b3⟩
  obtain ⟨A', c', rfl, _, _, _, _⟩ := ho.shape
  rw [← HN.out] at ho ⊢
  have O := Lib.hid ho
  have T2 : Hid (Blk w2 b2 67 #[.slice A n c, .int .i64 (cnt : Int)]) := Lib.hid (by rw [HBB.out]; exact B2.out.below b3 (by rw [HSW.out]; omega))
  have T3 : Hid (Blk w2 (b2 + 1) 67 #[.slice none 0 0, .int .i64 0]) := Lib.hid (by rw [HBB.out]; exact B3.out.below b3 (by rw [HSW.out]; omega))
  have L2 := Lib.hid (L1.out.trans (b3.mono L1.out.size))
  have q0 : w2.cell? ⟨b2, 0, none⟩ = some (.slice A n c) := T2.out.cell 0
  have q1 : w2.cell? ⟨b2, 1, none⟩ = some (.int .i64 (cnt : Int)) := T2.out.cell 1
  have qf : w2.frozen? ⟨b2, 0, none⟩ = false := T2.out.frozen 0
  have p0 : w2.cell? ⟨b2 + 1, 0, none⟩ = some (.slice none 0 0) := T3.out.cell 0
  have p1 : w2.cell? ⟨b2 + 1, 1, none⟩ = some (.int .i64 0) := T3.out.cell 1
  have pf0 : w2.frozen? ⟨b2 + 1, 0, none⟩ = false := T3.out.frozen 0
  have pf1 : w2.frozen? ⟨b2 + 1, 1, none⟩ = false := T3.out.frozen 1
  clear ho b3 d0 HC
  go_wp2_with fail
  have T4' : Blk (((w2.setCell ⟨b2, 0, none⟩ (.slice A' n c')).setCell ⟨b2 + 1, 0, none⟩ (.slice A' n c')).setCell ⟨b2 + 1, 1, none⟩ (.int .i64 (cnt : Int))) (b2 + 1) 67 #[.slice A' n c', .int .i64 (cnt : Int)] := ((T3.out.far (p := ⟨b2, 0, none⟩) (by simp) _).set_ 0 _).set_ 1 _
  refine bodyPost_ret (results_cell rfl rfl (loadVar_blk T4' Try.underlying67 rfl size_part)) rfl ?_
  have hg : ∀ g, (Value.slice A' n c').ownBlock = some g → g ≠ b2 ∧ g ≠ b2 + 1 := fun g e => by
    have h0 := (O.out.lt e).2
    have h1 := HSW.out
    have h2 := HBB.out
    omega
  refine ⟨_, rfl, ?_, ?_⟩
  · exact (((O.out.grown (grown_set w2 b2 0 _) (fun g e h => (hg g e).1 (by injection h))).grown (grown_set _ (b2 + 1) 0 _) (fun g e h => (hg g e).2 (by injection h))).grown (grown_set _ (b2 + 1) 1 _) (fun g e h => (hg g e).2 (by injection h))).base_ (by rw [HSW.out]; omega)
  · exact ((L2.out.setCell (p := ⟨b2, 0, none⟩) (by rw [HBB.out]; exact Nat.le_refl _) _).setCell (p := ⟨b2 + 1, 0, none⟩) (by rw [HBB.out]; exact Nat.le_succ _) _).setCell (p := ⟨b2 + 1, 1, none⟩) (by rw [HBB.out]; exact Nat.le_succ _) _
end Sp
end Go.Proofs.Ytffbclendkojlaa
