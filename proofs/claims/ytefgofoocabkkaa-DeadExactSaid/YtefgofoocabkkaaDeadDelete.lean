/-
  slices.Delete of one snapshot out of a call's own row. The condition: there is that one.
-/
import Derived.Test.YtefgofoocabkkaaDeadOwn
namespace Go.Proofs.Ytefgofoocabkkaa
open Go Go.RowKit
set_option maxRecDepth 100000
set_option linter.unusedVariables false
namespace Gr
section
variable {α : Type} {E : TypeId} {k : Nat} {cs : α → List Value}
theorem flat_take (hk : ∀ x, (cs x).length = k) : ∀ (l : List α) (i : Nat), (l.take i).flatMap cs = (l.flatMap cs).take (i * k)
  | [], i => by simp
  | x :: l, 0 => by simp
  | x :: l, i + 1 => by
    rw [List.take_succ_cons, List.flatMap_cons, List.flatMap_cons, flat_take hk l i, Nat.succ_mul, List.take_append, hk, show i * k + k - k = i * k by omega, List.take_of_length_le (l := cs x) (by rw [hk]; omega)]
theorem flat_drop (hk : ∀ x, (cs x).length = k) : ∀ (l : List α) (i : Nat), (l.drop i).flatMap cs = (l.flatMap cs).drop (i * k)
  | [], i => by simp
  | x :: l, 0 => by simp
  | x :: l, i + 1 => by
    rw [List.drop_succ_cons, List.flatMap_cons, flat_drop hk l i, Nat.succ_mul, List.drop_append, hk, show i * k + k - k = i * k by omega, List.drop_of_length_le (l := cs x) (by rw [hk]; omega), List.nil_append]
theorem OwnG.take {w : World} {base g n c i : Nat} {l : List α} (h : OwnG E k cs w base (.slice (some ⟨g, 0, none⟩) n c) l) (hk : ∀ x, (cs x).length = k) (hi : i ≤ l.length) : OwnG E k cs w base (.slice (some ⟨g, 0, none⟩) i c) (l.take i) := by
  have hl : (l.take i).length = i := by rw [List.length_take]; omega
  refine ⟨by rw [hl, flat_length hk, hl], ?_⟩
  rcases h.2 with ⟨h1, _⟩ | ⟨g', cap, cur, h1, h2, h3, h4, h5, h6, h7⟩
  · cases h1
  · injection h1 with h1 h8 h9
    injection h1 with h1
    injection h1 with h1
    subst h1 h9
    refine .inr ⟨g, c, cur, by rw [hl], h2, h3, by rw [hl]; omega, h5, h6, ?_⟩
    rw [hl, flat_take hk, ← h7, List.take_take]
    congr 1
    have := Nat.mul_le_mul_right k hi
    omega
theorem OwnG.setOut {w : World} {base g n c j : Nat} {l : List α} {u : Value} (h : OwnG E k cs w base (.slice (some ⟨g, 0, none⟩) n c) l) (hk : ∀ x, (cs x).length = k) (hj : l.length * k ≤ j) : OwnG E k cs (w.setCell ⟨g, j, none⟩ u) base (.slice (some ⟨g, 0, none⟩) n c) l := by
  refine ⟨h.1, ?_⟩
  rcases h.2 with ⟨h1, _⟩ | ⟨g', cap, cur, h1, h2, h3, h4, h5, h6, h7⟩
  · cases h1
  · injection h1 with h1 h8 h9
    injection h1 with h1
    injection h1 with h1
    subst h1 h9
    have X : Blk w g E cur := h3
    refine .inr ⟨g, c, cur.setIfInBounds j u, by rw [h8], h2, X.set_ _ _, h4, h5, by simp [h6], ?_⟩
    rw [← h7, Array.toList_setIfInBounds, List.take_set_of_le hj]
end
end Gr
namespace Dd
theorem sizeOf_ds (w : World) : (sizeOf 51).run Try.prog w = .ok 2 w := by
  obtain ⟨i0, hi, hz0, hz1, hz2⟩ : ∃ i0, Try.prog.info? 51 = some i0 ∧ i0.zero = some (.agg #[.int .i64 0, .slice none 0 0]) ∧ i0.size = 2 ∧ i0.bytes = 32 := info_parts info_ds
  simp [sizeOf, typeInfo, hi, hz1]
theorem slc_to (b n c hi : Nat) (h : hi ≤ c) (w : World) :
    (Instr.sliceAt 25 (.slice (some ⟨b, 0, none⟩) n c) none (some (.int .i64 (hi : Int))) none).run Try.prog w = .ok (.slice (some ⟨b, 0, none⟩) hi c) w := by
  have hu : Try.prog.underlying 25 = some (.slice (Try.prog.elem 25)) := by kernel_rfl
  have he : Try.prog.elem 25 = 51 := by kernel_rfl
  rw [run_sliceAt_slice (P := Try.prog) (w := w) (h := hu), run_slice_h (P := Try.prog) (w := w) 25 _ n c hu .i64 (hi : Int) (by omega) (by omega), he, sizeOf_ds]
  by_cases e : c = 0
  · simp [sliced, e, Addr.add]
  · simp [sliced, e, Addr.add]
/-- where 'x[lo:]' begins -/
def offS (c lo : Nat) : Nat := if c = lo then 0 else lo * 2
theorem slc_from (b n c lo : Nat) (h : lo ≤ n) (w : World) :
    (Instr.sliceAt 25 (.slice (some ⟨b, 0, none⟩) n c) (some (.int .i64 (lo : Int))) none none).run Try.prog w = .ok (.slice (some ⟨b, offS c lo, none⟩) (n - lo) (c - lo)) w := by
  have hu : Try.prog.underlying 25 = some (.slice (Try.prog.elem 25)) := by kernel_rfl
  have he : Try.prog.elem 25 = 51 := by kernel_rfl
  rw [run_sliceAt_slice (P := Try.prog) (w := w) (h := hu), run_slice_l (P := Try.prog) (w := w) 25 _ n c hu .i64 (lo : Int) (by omega) (by omega), he, sizeOf_ds]
  unfold offS
  by_cases e : c = lo
  · subst e; simp [sliced]
  · simp [sliced, e, add_plain]
theorem slc_lh (b n c lo hi : Nat) (h : lo ≤ hi) (h2 : hi ≤ c) (w : World) :
    (Instr.sliceAt 25 (.slice (some ⟨b, 0, none⟩) n c) (some (.int .i64 (lo : Int))) (some (.int .i64 (hi : Int))) none).run Try.prog w = .ok (.slice (some ⟨b, offS c lo, none⟩) (hi - lo) (c - lo)) w := by
  have hu : Try.prog.underlying 25 = some (.slice (Try.prog.elem 25)) := by kernel_rfl
  have he : Try.prog.elem 25 = 51 := by kernel_rfl
  rw [run_sliceAt_slice (P := Try.prog) (w := w) (h := hu), run_slice_lh (P := Try.prog) (w := w) 25 _ n c hu .i64 .i64 (lo : Int) (hi : Int) (by omega) (by omega) (by omega), he, sizeOf_ds]
  unfold offS
  by_cases e : c = lo
  · subst e; simp [sliced]
  · simp [sliced, e, add_plain]
theorem slc_lhm (b n c lo hi mx : Nat) (h : lo ≤ hi) (h2 : hi ≤ mx) (h3 : mx ≤ c) (w : World) :
    (Instr.sliceAt 25 (.slice (some ⟨b, 0, none⟩) n c) (some (.int .i64 (lo : Int))) (some (.int .i64 (hi : Int))) (some (.int .i64 (mx : Int)))).run Try.prog w = .ok (.slice (some ⟨b, offS mx lo, none⟩) (hi - lo) (mx - lo)) w := by
  have hu : Try.prog.underlying 25 = some (.slice (Try.prog.elem 25)) := by kernel_rfl
  have he : Try.prog.elem 25 = 51 := by kernel_rfl
  rw [run_sliceAt_slice (P := Try.prog) (w := w) (h := hu), run_slice_lhm (P := Try.prog) (w := w) 25 _ n c hu .i64 .i64 .i64 (lo : Int) (hi : Int) (mx : Int) (by omega) (by omega) (by omega) (by omega), he, sizeOf_ds]
  unfold offS
  by_cases e : mx = lo
  · subst e; simp [sliced]
  · simp [sliced, e, add_plain]
theorem clear_snap (g o c : Nat) (ty : TypeId) (w : World) {cur : Array Value} (hb : Blk w g 51 cur) (ho : o + 1 < cur.size) :
    (Builtin.clear_ #[25] ty #[.slice (some ⟨g, o, none⟩) 1 c]).run Try.prog w = .ok (.tuple #[]) ((w.setCell ⟨g, o, none⟩ (.int .i64 0)).setCell ⟨g, o + 1, none⟩ (.slice none 0 0)) := by
  have hv : (zeroValue 51).run Try.prog w = .ok (.agg #[.int .i64 0, .slice none 0 0]) w := by
    obtain ⟨i0, hi, hz0, hz1, hz2⟩ : ∃ i0, Try.prog.info? 51 = some i0 ∧ i0.zero = some (.agg #[.int .i64 0, .slice none 0 0]) ∧ i0.size = 2 ∧ i0.bytes = 32 := info_parts info_ds
    simp [zeroValue, typeInfo, hi, hz0]
  have hzc : (Builtin.zeroCells (Value.agg #[.int .i64 0, .slice none 0 0]).cells 1).toList = [.int .i64 0, .slice none 0 0] := by kernel_rfl
  have hst := run_storeCells_cells (P := Try.prog) g o [.int .i64 0, .slice none 0 0] 0 w (fun j hj => by
      rw [Nat.add_zero, hb.cell, Array.getElem?_eq_getElem (by simp at hj; omega)]; rfl) (fun j hj => hb.frozen _) (fun v hv => by simp at hv; rcases hv with rfl | rfl <;> rfl)
  simp only [Nat.add_zero, World.setCells] at hst
  simp [Builtin.clear_, run_underlying Try.underlying25, hv, hzc, hst]
def DelPost (w : World) (base g n c k : Nat) (vs : List SV) (e : Ending) (w' : World) : Prop := e = .returned (.slice (some ⟨g, 0, none⟩) (n - 1) c) ∧ Gr.OwnG 51 2 csV w' base (.slice (some ⟨g, 0, none⟩) (n - 1) c) (vs.take k ++ vs.drop (k + 1)) ∧ Only g w w'
set_option maxHeartbeats 3200000 in
theorem delete_at (w : World) (base g n c k q : Nat) (vs : List SV) (ho : Gr.OwnG 51 2 csV w base (.slice (some ⟨g, 0, none⟩) n c) vs) (hn : n = vs.length) (hk : k < n) (hq : q = k + 1) (hnb : n ≤ big) :
    Calls Try.prog 16 #[.slice (some ⟨g, 0, none⟩) n c, .int .i64 (k : Int), .int .i64 (q : Int)] w fun e w' => DelPost w base g n c k vs e w' := by
  obtain ⟨cur, hcur, hnc, hcs⟩ : ∃ cur, Blk w g 51 cur ∧ n ≤ c ∧ cur.size = c * 2 := by
    rcases ho.2 with ⟨h1, _⟩ | ⟨g', cap, cur, h1, h2, h3, h4, h5, h6, h7⟩
    · cases h1
    · injection h1 with h1 h8 h9
      injection h1 with h1
      injection h1 with h1
      subst h1 h9
      exact ⟨cur, h3, by rw [hn]; exact h4, h6⟩
  have hkn : vs.take k ++ vs.drop (k + 1) = vs.take k ++ vs.drop q := by rw [hq]
  have HPOST : Hid (DelPost w base g n c k vs = fun e w' => e = .returned (.slice (some ⟨g, 0, none⟩) (n - 1) c) ∧ Gr.OwnG 51 2 csV w' base (.slice (some ⟨g, 0, none⟩) (n - 1) c) (vs.take k ++ vs.drop q) ∧ Only g w w') := Lib.hid (by funext e w'; unfold DelPost; rw [hkn])
  obtain ⟨i0, hi0, _, hz1, _⟩ : ∃ i0, Try.prog.info? 51 = some i0 ∧ i0.zero = some (.agg #[.int .i64 0, .slice none 0 0]) ∧ i0.size = 2 ∧ i0.bytes = 32 := info_parts info_ds
  have hrd : Gr.RdG 2 csV w (some ⟨g, 0, none⟩) vs := by
    obtain ⟨A1, c1, e1, e2, _⟩ := ho.shape (fun _ => rfl)
    injection e1 with e1
    rw [← e1] at e2
    exact e2
  have hnews : ∀ j u, ((vs.drop q).flatMap csV)[j]? = some u → w.cell? ((⟨g, offS c q, none⟩ : Addr).add j) = some u := fun j u hj => by
    have hlt : j < ((vs.drop q).flatMap csV).length := (List.getElem?_eq_some_iff.1 hj).1
    rw [Gr.flat_length (k := 2) (fun _ => rfl), List.length_drop] at hlt
    have hoff : offS c q = q * 2 := by unfold offS; rw [if_neg (by omega)]
    rw [hoff, add_plain]
    have hd := Gr.flat_drop (k := 2) (cs := csV) (fun _ => rfl) vs q
    rw [hd, List.getElem?_drop] at hj
    have := Gr.rd_flat (k := 2) (fun _ => rfl) (by decide) hrd (q * 2 + j) u hj
    rw [add_plain, Nat.zero_add] at this
    exact this
  have htake := ho.take (i := k) (fun _ => rfl) (by omega)
  have htl : (vs.take k).length = k := by rw [List.length_take]; omega
  obtain ⟨W1, hrun, hown, hgr⟩ : ∃ W1, (∀ ty, (Builtin.append_ #[25, 25] ty #[.slice (some ⟨g, 0, none⟩) k c, .slice (some ⟨g, offS c q, none⟩) (n - q) (c - q)]).run Try.prog w.drew = .ok (.slice (some ⟨g, 0, none⟩) (n - 1) c) W1) ∧ Gr.OwnG 51 2 csV W1 base (.slice (some ⟨g, 0, none⟩) (n - 1) c) (vs.take k ++ vs.drop q) ∧ Only g w W1 := by
    have hx : w.drew.ownsRow base 51 2 (.slice (some ⟨g, 0, none⟩) k c) k ((vs.take k).flatMap csV) := by have := htake; unfold Gr.OwnG at this; rw [htl] at this; exact this
    obtain ⟨W1, h1, h2, h3⟩ := run_append_fits (P := Try.prog) w.drew base 25 25 51 i0 2 Try.underlying25 hi0 hz1 g k c ((vs.take k).flatMap csV) hx ⟨g, offS c q, none⟩ (n - q) (c - q) ((vs.drop q).flatMap csV) (by rw [Gr.flat_length (k := 2) (fun _ => rfl), List.length_drop, hn]) hnews (fun u hu => by obtain ⟨x, _, hx⟩ := List.mem_flatMap.1 hu; exact csV_one x u hx) (by omega)
    have e1 : k + (n - q) = n - 1 := by omega
    rw [e1] at h1 h2
    refine ⟨W1, fun ty => h1, ?_, ⟨h3.os, h3.tape, h3.output, h3.size, h3.block⟩⟩
    unfold Gr.OwnG
    rw [List.length_append, htl, List.length_drop, List.flatMap_append, ← hn, e1]
    exact h2
  obtain ⟨cur1, hcur1, hcs1⟩ : ∃ cur1, Blk W1 g 51 cur1 ∧ cur1.size = c * 2 := by
    rcases hown.2 with ⟨h1, _⟩ | ⟨g', cap, cur1, h1, h2, h3, h4, h5, h6, h7⟩
    · cases h1
    · injection h1 with h1 h8 h9
      injection h1 with h1
      injection h1 with h1
      subst h1 h9
      exact ⟨cur1, h3, h6⟩
  have hoff1 : offS c (n - 1) = (n - 1) * 2 := by unfold offS; rw [if_neg (by omega)]
  have HCLR : ∀ ty, (Builtin.clear_ #[25] ty #[.slice (some ⟨g, (n - 1) * 2, none⟩) 1 (c - (n - 1))]).run Try.prog W1 = .ok (.tuple #[]) ((W1.setCell ⟨g, (n - 1) * 2, none⟩ (.int .i64 0)).setCell ⟨g, (n - 1) * 2 + 1, none⟩ (.slice none 0 0)) := fun ty => clear_snap g _ _ ty W1 hcur1 (by rw [hcs1]; omega)
  have hll : (vs.take k ++ vs.drop q).length = n - 1 := by rw [List.length_append, htl, List.length_drop]; omega
  have HEND := Lib.hid (⟨(hown.setOut (j := (n - 1) * 2) (u := .int .i64 0) (fun _ => rfl) (by rw [hll]; exact Nat.le_refl _)).setOut (j := (n - 1) * 2 + 1) (u := .slice none 0 0) (fun _ => rfl) (by rw [hll]; omega), (hgr.setCell ((n - 1) * 2) (.int .i64 0)).setCell ((n - 1) * 2 + 1) (.slice none 0 0)⟩ : _ ∧ _)
  have S1 : ∀ W : World, (Instr.sliceAt 25 (.slice (some ⟨g, 0, none⟩) n c) (some (.int .i64 (k : Int))) (some (.int .i64 (q : Int))) (some (.int .i64 (n : Int)))).run Try.prog W = .ok (.slice (some ⟨g, offS n k, none⟩) (q - k) (n - k)) W := fun W => slc_lhm g n c k q n (by omega) (by omega) hnc W
  obtain ⟨n1, hn1⟩ : ∃ n1, n1 = n - 1 := ⟨_, rfl⟩
  have hn1l : n1 < n := by omega
  have hn1o : n - n1 = 1 := by omega
  have hkq : ((k : Int) == (q : Int)) = false := by simp; omega
  rw [HPOST.out]
  rw [← hn1] at hrun HCLR HEND ⊢
  have HCLR2 : ∀ ty, (Builtin.clear_ #[25] ty #[.slice (some ⟨g, n1 * 2, none⟩) (n - n1) (c - n1)]).run Try.prog W1 = .ok (.tuple #[]) ((W1.setCell ⟨g, n1 * 2, none⟩ (.int .i64 0)).setCell ⟨g, n1 * 2 + 1, none⟩ (.slice none 0 0)) := fun ty => by rw [hn1o]; exact HCLR ty
  clear hn1o hn1 HCLR
  have HRUN := Lib.hid hrun
  have HS : Hid True := Lib.hid trivial
  unfold big at hnb
  clear hkn hi0 hz1 hrd hnews htake htl hrun hown hgr hcur1 hcs1 hoff1 hll HPOST ho hn hcur hcs
  go_enter Try.func16, Try.ntmps16
  go_upto_region 5 with (fail)
  refine region_anyZ (fun _ => True) 7 (by kernel_rfl) ?_
  refine takeG 0 (.move (.tmp 0)) (some 20) none (.slice (some ⟨g, 0, none⟩) n c) (by kernel_rfl) (by kernel_rfl) (by kernel_rfl) (fun _ _ _ h => h) (fun o' wq e hS => exec_move wq e (by kernel_rfl)) HS.out ?_
  refine takeG 1 (.move (.tmp 1)) (some 21) none (.int .i64 (k : Int)) (by kernel_rfl) (by kernel_rfl) (by kernel_rfl) (fun _ _ _ h => h) (fun o' wq e hS => exec_move wq e (by kernel_rfl)) HS.out ?_
  refine takeG 2 (.slice 25 (.tmp 20) .none (.some (.tmp 21)) .none) (some 22) none (.slice (some ⟨g, 0, none⟩) k c) (by kernel_rfl) (by kernel_rfl) (by kernel_rfl) (fun _ _ _ h => h) (fun o' wq e hS => exec_slice (u := .slice (some ⟨g, 0, none⟩) n c) wq e (by kernel_rfl) (by kernel_rfl) (by kernel_rfl) (by kernel_rfl) (slc_to g n c k (by omega) _)) HS.out ?_
  refine takeG 3 (.move (.tmp 0)) (some 23) none (.slice (some ⟨g, 0, none⟩) n c) (by kernel_rfl) (by kernel_rfl) (by kernel_rfl) (fun _ _ _ h => h) (fun o' wq e hS => exec_move wq e (by kernel_rfl)) HS.out ?_
  refine takeG 4 (.move (.tmp 2)) (some 24) none (.int .i64 (q : Int)) (by kernel_rfl) (by kernel_rfl) (by kernel_rfl) (fun _ _ _ h => h) (fun o' wq e hS => exec_move wq e (by kernel_rfl)) HS.out ?_
  refine takeG 5 (.slice 25 (.tmp 23) (.some (.tmp 24)) .none .none) (some 25) none (.slice (some ⟨g, offS c q, none⟩) (n - q) (c - q)) (by kernel_rfl) (by kernel_rfl) (by kernel_rfl) (fun _ _ _ h => h) (fun o' wq e hS => exec_slice (u := .slice (some ⟨g, 0, none⟩) n c) wq e (by kernel_rfl) (by kernel_rfl) (by kernel_rfl) (by kernel_rfl) (slc_from g n c q (by omega) _)) HS.out ?_
  refine loneG 6 (.call ⟨.builtin .append, #[(.tmp 22), (.tmp 25)], #[25, 25]⟩) (some 26) none (by kernel_rfl) (by kernel_rfl) (by kernel_rfl) ?_
  intro o' ho hod
  refine Gr.wp_append 25 (.tmp 22) (.tmp 25) ho (by kernel_rfl) (by kernel_rfl) (HRUN.out o'.type) ?_
  rw [hod]
  clear hod ho
  refine ⟨fun _ => trivial, ?_⟩
  refine lastG 7 (.assign (.tmp 26)) (some 0) (.slice (some ⟨g, 0, none⟩) n1 c) (by kernel_rfl) (by kernel_rfl) (by kernel_rfl) rfl (fun o' e => exec_assign _ e (by kernel_rfl)) ?_
  simp only [put_some, put_none, List.setIfInBounds_toArray, List.set_cons_succ, List.set_cons_zero]
  clear HS HRUN
  go_wp2_with fail
  go_ret
  exact ⟨rfl, HEND.out.1, HEND.out.2⟩
end Dd
end Go.Proofs.Ytefgofoocabkkaa
