/-
 A store's remembered blocks in memory; slices.Delete of one of them out of a call's own row. The condition: there is that one.
-/
import Derived.Test.YtgbehfkimchglaaGreatDoorStoKM
import Derived.Test.YtgbehfkimchglaaGreatDoorDetColsM
import Derived.Test.YtgbehfkimchglaaGreatDoorStoPlaceM
import Derived.Test.YtgbehfkimchglaaGreatDoorProg
import Derived.Test.YtgbehfkimchglaaGreatDoorRackMapM
import Derived.Shelf.Pu.Clone
namespace Go.Proofs.YtgbehfkimchglaaGreatDoor
open Go Go.RowKit
set_option maxRecDepth 100000
set_option linter.unusedVariables false
namespace Gr
section
variable {α : Type} {E : TypeId} {k : Nat} {cs : α → List Value}
theorem flat_takeS (hk : ∀ x, (cs x).length = k) : ∀ (l : List α) (i : Nat), (l.take i).flatMap cs = (l.flatMap cs).take (i * k)
 | [], i => by simp
 | x :: l, 0 => by simp
 | x :: l, i + 1 => by
  rw [List.take_succ_cons, List.flatMap_cons, List.flatMap_cons, flat_takeS hk l i, Nat.succ_mul, List.take_append, hk, show i * k + k - k = i * k by omega, List.take_of_length_le (l := cs x) (by rw [hk]; omega)]
theorem flat_dropS (hk : ∀ x, (cs x).length = k) : ∀ (l : List α) (i : Nat), (l.drop i).flatMap cs = (l.flatMap cs).drop (i * k)
 | [], i => by simp
 | x :: l, 0 => by simp
 | x :: l, i + 1 => by
  rw [List.drop_succ_cons, List.flatMap_cons, flat_dropS hk l i, Nat.succ_mul, List.drop_append, hk, show i * k + k - k = i * k by omega, List.drop_of_length_le (l := cs x) (by rw [hk]; omega), List.nil_append]
theorem OwnG.takeS {w : World} {base g n c i : Nat} {l : List α} (h : OwnG E k cs w base (.slice (some ⟨g, 0, none⟩) n c) l) (hk : ∀ x, (cs x).length = k) (hi : i ≤ l.length) : OwnG E k cs w base (.slice (some ⟨g, 0, none⟩) i c) (l.take i) := by
 have hl : (l.take i).length = i := by rw [List.length_take]; omega
 refine ⟨by rw [hl, flat_length hk, hl], ?_⟩
 rcases h.2 with ⟨h1, _⟩ | ⟨g', cap, cur, h1, h2, h3, h4, h5, h6, h7⟩
 ·cases h1
 ·injection h1 with h1 h8 h9
  injection h1 with h1
  injection h1 with h1
  subst h1 h9
  refine .inr ⟨g, c, cur, by rw [hl], h2, h3, by rw [hl]; omega, h5, h6, ?_⟩
  rw [hl, flat_takeS hk, ← h7, List.take_take]
  congr 1
  have := Nat.mul_le_mul_right k hi
  omega
theorem OwnG.setOutS {w : World} {base g n c j : Nat} {l : List α} {u : Value} (h : OwnG E k cs w base (.slice (some ⟨g, 0, none⟩) n c) l) (hk : ∀ x, (cs x).length = k) (hj : l.length * k ≤ j) : OwnG E k cs (w.setCell ⟨g, j, none⟩ u) base (.slice (some ⟨g, 0, none⟩) n c) l := by
 refine ⟨h.1, ?_⟩
 rcases h.2 with ⟨h1, _⟩ | ⟨g', cap, cur, h1, h2, h3, h4, h5, h6, h7⟩
 ·cases h1
 ·injection h1 with h1 h8 h9
  injection h1 with h1
  injection h1 with h1
  subst h1 h9
  have X : Blk w g E cur := h3
  refine .inr ⟨g, c, cur.setIfInBounds j u, by rw [h8], h2, X.set_ _ _, h4, h5, by simp [h6], ?_⟩
  rw [← h7, Array.toList_setIfInBounds, List.take_set_of_le hj]
end
end Gr
namespace Sto
theorem sizeOf_kb (w : World) : (sizeOf 202).run Tryz.prog w = .ok 3 w := by
 obtain ⟨i0, hi, hz0, hz1, hz2⟩ : ∃ i0, Tryz.prog.info? 202 = some i0 ∧ i0.zero = some (.agg #[.int .i64 0, .string ⟨#[]⟩, .slice none 0 0]) ∧ i0.size = 3 ∧ i0.bytes = 48 := info_parts info_kb
 simp [sizeOf, typeInfo, hi, hz1]
theorem slc_to (b n c hi : Nat) (h : hi ≤ c) (w : World) :
  (Instr.sliceAt 93 (.slice (some ⟨b, 0, none⟩) n c) none (some (.int .i64 (hi : Int))) none).run Tryz.prog w = .ok (.slice (some ⟨b, 0, none⟩) hi c) w := by
 have hu : Tryz.prog.underlying 93 = some (.slice (Tryz.prog.elem 93)) := by kernel_rfl
 have he : Tryz.prog.elem 93 = 202 := by kernel_rfl
 rw [run_sliceAt_slice (P := Tryz.prog) (w := w) (h := hu), run_slice_h (P := Tryz.prog) (w := w) 93 _ n c hu .i64 (hi : Int) (by omega) (by omega), he, sizeOf_kb]
 by_cases e : c = 0
 ·simp [sliced, e, Addr.add]
 ·simp [sliced, e, Addr.add]
def offS (c lo : Nat) : Nat := if c = lo then 0 else lo * 3
theorem slc_from (b n c lo : Nat) (h : lo ≤ n) (w : World) :
  (Instr.sliceAt 93 (.slice (some ⟨b, 0, none⟩) n c) (some (.int .i64 (lo : Int))) none none).run Tryz.prog w = .ok (.slice (some ⟨b, offS c lo, none⟩) (n - lo) (c - lo)) w := by
 have hu : Tryz.prog.underlying 93 = some (.slice (Tryz.prog.elem 93)) := by kernel_rfl
 have he : Tryz.prog.elem 93 = 202 := by kernel_rfl
 rw [run_sliceAt_slice (P := Tryz.prog) (w := w) (h := hu), run_slice_l (P := Tryz.prog) (w := w) 93 _ n c hu .i64 (lo : Int) (by omega) (by omega), he, sizeOf_kb]
 unfold offS
 by_cases e : c = lo
 ·subst e; simp [sliced]
 ·simp [sliced, e, add_plain]
theorem slc_lhm (b n c lo hi mx : Nat) (h : lo ≤ hi) (h2 : hi ≤ mx) (h3 : mx ≤ c) (w : World) :
  (Instr.sliceAt 93 (.slice (some ⟨b, 0, none⟩) n c) (some (.int .i64 (lo : Int))) (some (.int .i64 (hi : Int))) (some (.int .i64 (mx : Int)))).run Tryz.prog w = .ok (.slice (some ⟨b, offS mx lo, none⟩) (hi - lo) (mx - lo)) w := by
 have hu : Tryz.prog.underlying 93 = some (.slice (Tryz.prog.elem 93)) := by kernel_rfl
 have he : Tryz.prog.elem 93 = 202 := by kernel_rfl
 rw [run_sliceAt_slice (P := Tryz.prog) (w := w) (h := hu), run_slice_lhm (P := Tryz.prog) (w := w) 93 _ n c hu .i64 .i64 .i64 (lo : Int) (hi : Int) (mx : Int) (by omega) (by omega) (by omega) (by omega), he, sizeOf_kb]
 unfold offS
 by_cases e : mx = lo
 ·subst e; simp [sliced]
 ·simp [sliced, e, add_plain]
theorem clear_kb (g o c : Nat) (ty : TypeId) (w : World) {cur : Array Value} (hb : Blk w g 202 cur) (ho : o + 2 < cur.size) :
  (Builtin.clear_ #[93] ty #[.slice (some ⟨g, o, none⟩) 1 c]).run Tryz.prog w = .ok (.tuple #[]) (((w.setCell ⟨g, o, none⟩ (.int .i64 0)).setCell ⟨g, o + 1, none⟩ (.string ⟨#[]⟩)).setCell ⟨g, o + 2, none⟩ (.slice none 0 0)) := by
 have hv : (zeroValue 202).run Tryz.prog w = .ok (.agg #[.int .i64 0, .string ⟨#[]⟩, .slice none 0 0]) w := by
  obtain ⟨i0, hi, hz0, hz1, hz2⟩ : ∃ i0, Tryz.prog.info? 202 = some i0 ∧ i0.zero = some (.agg #[.int .i64 0, .string ⟨#[]⟩, .slice none 0 0]) ∧ i0.size = 3 ∧ i0.bytes = 48 := info_parts info_kb
  simp [zeroValue, typeInfo, hi, hz0]
 have hzc : (Builtin.zeroCells (Value.agg #[.int .i64 0, .string ⟨#[]⟩, .slice none 0 0]).cells 1).toList = [.int .i64 0, .string ⟨#[]⟩, .slice none 0 0] := by kernel_rfl
 have hst := run_storeCells_cells (P := Tryz.prog) g o [.int .i64 0, .string ⟨#[]⟩, .slice none 0 0] 0 w (fun j hj => by
   rw [Nat.add_zero, hb.cell, Array.getElem?_eq_getElem (by simp at hj; omega)]; rfl) (fun j hj => hb.frozen _) (fun v hv => by simp at hv; rcases hv with rfl | rfl | rfl <;> rfl)
 simp only [Nat.add_zero, World.setCells] at hst
 simp [Builtin.clear_, run_underlying Tryz.underlying93, hv, hzc, hst]
def DelPost (w : World) (base g n c k : Nat) (vs : List Kx) (e : Ending) (w' : World) : Prop := e = .returned (.slice (some ⟨g, 0, none⟩) (n - 1) c) ∧ Gr.OwnG 202 3 csK w' base (.slice (some ⟨g, 0, none⟩) (n - 1) c) (vs.take k ++ vs.drop (k + 1)) ∧ Only g w w'
set_option maxHeartbeats 3200000 in
theorem delete_at (w : World) (base g n c k q : Nat) (vs : List Kx) (ho : Gr.OwnG 202 3 csK w base (.slice (some ⟨g, 0, none⟩) n c) vs) (hn : n = vs.length) (hk : k < n) (hq : q = k + 1) (hnb : n ≤ 1000000) :
  Calls Tryz.prog 117 #[.slice (some ⟨g, 0, none⟩) n c, .int .i64 (k : Int), .int .i64 (q : Int)] w fun e w' => DelPost w base g n c k vs e w' := by
 obtain ⟨cur, hcur, hnc, hcs⟩ : ∃ cur, Blk w g 202 cur ∧ n ≤ c ∧ cur.size = c * 3 := by
  rcases ho.2 with ⟨h1, _⟩ | ⟨g', cap, cur, h1, h2, h3, h4, h5, h6, h7⟩
  ·cases h1
  ·injection h1 with h1 h8 h9
   injection h1 with h1
   injection h1 with h1
   subst h1 h9
   exact ⟨cur, h3, by rw [hn]; exact h4, h6⟩
 have hkn : vs.take k ++ vs.drop (k + 1) = vs.take k ++ vs.drop q := by rw [hq]
 have HPOST : Hid (DelPost w base g n c k vs = fun e w' => e = .returned (.slice (some ⟨g, 0, none⟩) (n - 1) c) ∧ Gr.OwnG 202 3 csK w' base (.slice (some ⟨g, 0, none⟩) (n - 1) c) (vs.take k ++ vs.drop q) ∧ Only g w w') := Lib.hid (by funext e w'; unfold DelPost; rw [hkn])
 obtain ⟨i0, hi0, _, hz1, _⟩ : ∃ i0, Tryz.prog.info? 202 = some i0 ∧ i0.zero = some (.agg #[.int .i64 0, .string ⟨#[]⟩, .slice none 0 0]) ∧ i0.size = 3 ∧ i0.bytes = 48 := info_parts info_kb
 have hrd : Gr.RdG 3 csK w (some ⟨g, 0, none⟩) vs := by
  obtain ⟨A1, c1, e1, e2, _⟩ := ho.shape (fun _ => rfl)
  injection e1 with e1
  rw [← e1] at e2
  exact e2
 have hnews : ∀ j u, ((vs.drop q).flatMap csK)[j]? = some u → w.cell? ((⟨g, offS c q, none⟩ : Addr).add j) = some u := fun j u hj => by
  have hlt : j < ((vs.drop q).flatMap csK).length := (List.getElem?_eq_some_iff.1 hj).1
  rw [Gr.flat_length (k := 3) (fun _ => rfl), List.length_drop] at hlt
  have hoff : offS c q = q * 3 := by unfold offS; rw [if_neg (by omega)]
  rw [hoff, add_plain]
  have hd := Gr.flat_dropS (k := 3) (cs := csK) (fun _ => rfl) vs q
  rw [hd, List.getElem?_drop] at hj
  have := Cc.rd_flatC (k := 3) (fun _ => rfl) (by decide) hrd (q * 3 + j) u hj
  rw [add_plain, Nat.zero_add] at this
  exact this
 have htake := ho.takeS (i := k) (fun _ => rfl) (by omega)
 have htl : (vs.take k).length = k := by rw [List.length_take]; omega
 obtain ⟨W1, hrun, hown, hgr⟩ : ∃ W1, (∀ ty, (Builtin.append_ #[93, 93] ty #[.slice (some ⟨g, 0, none⟩) k c, .slice (some ⟨g, offS c q, none⟩) (n - q) (c - q)]).run Tryz.prog w.drew = .ok (.slice (some ⟨g, 0, none⟩) (n - 1) c) W1) ∧ Gr.OwnG 202 3 csK W1 base (.slice (some ⟨g, 0, none⟩) (n - 1) c) (vs.take k ++ vs.drop q) ∧ Only g w W1 := by
  have hx : w.drew.ownsRow base 202 3 (.slice (some ⟨g, 0, none⟩) k c) k ((vs.take k).flatMap csK) := by have := htake; unfold Gr.OwnG at this; rw [htl] at this; exact this
  obtain ⟨W1, h1, h2, h3⟩ := run_append_fits (P := Tryz.prog) w.drew base 93 93 202 i0 3 Tryz.underlying93 hi0 hz1 g k c ((vs.take k).flatMap csK) hx ⟨g, offS c q, none⟩ (n - q) (c - q) ((vs.drop q).flatMap csK) (by rw [Gr.flat_length (k := 3) (fun _ => rfl), List.length_drop, hn]) hnews (fun u hu => by obtain ⟨x, _, hx⟩ := List.mem_flatMap.1 hu; exact csK_one x u hx) (by omega)
  have e1 : k + (n - q) = n - 1 := by omega
  rw [e1] at h1 h2
  refine ⟨W1, fun ty => h1, ?_, ⟨h3.os, h3.tape, h3.output, h3.size, h3.block⟩⟩
  unfold Gr.OwnG
  rw [List.length_append, htl, List.length_drop, List.flatMap_append, ← hn, e1]
  exact h2
 obtain ⟨cur1, hcur1, hcs1⟩ : ∃ cur1, Blk W1 g 202 cur1 ∧ cur1.size = c * 3 := by
  rcases hown.2 with ⟨h1, _⟩ | ⟨g', cap, cur1, h1, h2, h3, h4, h5, h6, h7⟩
  ·cases h1
  ·injection h1 with h1 h8 h9
   injection h1 with h1
   injection h1 with h1
   subst h1 h9
   exact ⟨cur1, h3, h6⟩
 have hoff1 : offS c (n - 1) = (n - 1) * 3 := by unfold offS; rw [if_neg (by omega)]
 have HCLR : ∀ ty, (Builtin.clear_ #[93] ty #[.slice (some ⟨g, (n - 1) * 3, none⟩) 1 (c - (n - 1))]).run Tryz.prog W1 = .ok (.tuple #[]) (((W1.setCell ⟨g, (n - 1) * 3, none⟩ (.int .i64 0)).setCell ⟨g, (n - 1) * 3 + 1, none⟩ (.string ⟨#[]⟩)).setCell ⟨g, (n - 1) * 3 + 2, none⟩ (.slice none 0 0)) := fun ty => clear_kb g _ _ ty W1 hcur1 (by rw [hcs1]; omega)
 have hll : (vs.take k ++ vs.drop q).length = n - 1 := by rw [List.length_append, htl, List.length_drop]; omega
 have HEND := Lib.hid (⟨((hown.setOutS (j := (n - 1) * 3) (u := .int .i64 0) (fun _ => rfl) (by rw [hll]; exact Nat.le_refl _)).setOutS (j := (n - 1) * 3 + 1) (u := .string ⟨#[]⟩) (fun _ => rfl) (by rw [hll]; omega)).setOutS (j := (n - 1) * 3 + 2) (u := .slice none 0 0) (fun _ => rfl) (by rw [hll]; omega), ((hgr.setCell ((n - 1) * 3) (.int .i64 0)).setCell ((n - 1) * 3 + 1) (.string ⟨#[]⟩)).setCell ((n - 1) * 3 + 2) (.slice none 0 0)⟩ : _ ∧ _)
 have S1 : ∀ W : World, (Instr.sliceAt 93 (.slice (some ⟨g, 0, none⟩) n c) (some (.int .i64 (k : Int))) (some (.int .i64 (q : Int))) (some (.int .i64 (n : Int)))).run Tryz.prog W = .ok (.slice (some ⟨g, offS n k, none⟩) (q - k) (n - k)) W := fun W => slc_lhm g n c k q n (by omega) (by omega) hnc W
 obtain ⟨n1, hn1⟩ : ∃ n1, n1 = n - 1 := ⟨_, rfl⟩
 have hn1l : n1 < n := by omega
 have hn1o : n - n1 = 1 := by omega
 have hkq : ((k : Int) == (q : Int)) = false := by simp; omega
 rw [HPOST.out]
 rw [← hn1] at hrun HCLR HEND ⊢
 have HCLR2 : ∀ ty, (Builtin.clear_ #[93] ty #[.slice (some ⟨g, n1 * 3, none⟩) (n - n1) (c - n1)]).run Tryz.prog W1 = .ok (.tuple #[]) (((W1.setCell ⟨g, n1 * 3, none⟩ (.int .i64 0)).setCell ⟨g, n1 * 3 + 1, none⟩ (.string ⟨#[]⟩)).setCell ⟨g, n1 * 3 + 2, none⟩ (.slice none 0 0)) := fun ty => by rw [hn1o]; exact HCLR ty
 clear hn1o hn1 HCLR
 have HRUN := Lib.hid hrun
 have HS : Hid True := Lib.hid trivial
 clear hkn hi0 hz1 hrd hnews htake htl hrun hown hgr hcur1 hcs1 hoff1 hll HPOST ho hn hcur hcs
 go_enter Tryz.func117, Tryz.ntmps117
 go_upto_region 5 with (fail)
 refine region_anyZ (fun _ => True) 7 (by kernel_rfl) ?_
 refine takeG 0 (.move (.tmp 0)) (some 20) none (.slice (some ⟨g, 0, none⟩) n c) (by kernel_rfl) (by kernel_rfl) (by kernel_rfl) (fun _ _ _ h => h) (fun o' wq e hS => exec_move wq e (by kernel_rfl)) HS.out ?_
 refine takeG 1 (.move (.tmp 1)) (some 21) none (.int .i64 (k : Int)) (by kernel_rfl) (by kernel_rfl) (by kernel_rfl) (fun _ _ _ h => h) (fun o' wq e hS => exec_move wq e (by kernel_rfl)) HS.out ?_
 refine takeG 2 (.slice 93 (.tmp 20) .none (.some (.tmp 21)) .none) (some 22) none (.slice (some ⟨g, 0, none⟩) k c) (by kernel_rfl) (by kernel_rfl) (by kernel_rfl) (fun _ _ _ h => h) (fun o' wq e hS => exec_slice (u := .slice (some ⟨g, 0, none⟩) n c) wq e (by kernel_rfl) (by kernel_rfl) (by kernel_rfl) (by kernel_rfl) (slc_to g n c k (by omega) _)) HS.out ?_
 refine takeG 3 (.move (.tmp 0)) (some 23) none (.slice (some ⟨g, 0, none⟩) n c) (by kernel_rfl) (by kernel_rfl) (by kernel_rfl) (fun _ _ _ h => h) (fun o' wq e hS => exec_move wq e (by kernel_rfl)) HS.out ?_
 refine takeG 4 (.move (.tmp 2)) (some 24) none (.int .i64 (q : Int)) (by kernel_rfl) (by kernel_rfl) (by kernel_rfl) (fun _ _ _ h => h) (fun o' wq e hS => exec_move wq e (by kernel_rfl)) HS.out ?_
 refine takeG 5 (.slice 93 (.tmp 23) (.some (.tmp 24)) .none .none) (some 25) none (.slice (some ⟨g, offS c q, none⟩) (n - q) (c - q)) (by kernel_rfl) (by kernel_rfl) (by kernel_rfl) (fun _ _ _ h => h) (fun o' wq e hS => exec_slice (u := .slice (some ⟨g, 0, none⟩) n c) wq e (by kernel_rfl) (by kernel_rfl) (by kernel_rfl) (by kernel_rfl) (slc_from g n c q (by omega) _)) HS.out ?_
 refine loneG 6 (.call ⟨.builtin .append, #[(.tmp 22), (.tmp 25)], #[93, 93]⟩) (some 26) none (by kernel_rfl) (by kernel_rfl) (by kernel_rfl) ?_
 intro o' ho hod
 refine Gr.wp_append 93 (.tmp 22) (.tmp 25) ho (by kernel_rfl) (by kernel_rfl) (HRUN.out o'.type) ?_
 rw [hod]
 clear hod ho
 refine ⟨fun _ => trivial, ?_⟩
 refine lastG 7 (.assign (.tmp 26)) (some 0) (.slice (some ⟨g, 0, none⟩) n1 c) (by kernel_rfl) (by kernel_rfl) (by kernel_rfl) rfl (fun o' e => exec_assign _ e (by kernel_rfl)) ?_
 simp only [put_some, put_none, List.setIfInBounds_toArray, List.set_cons_succ, List.set_cons_zero]
 clear HS HRUN
 go_wp2_with fail
 go_ret
 exact ⟨rfl, HEND.out.1, HEND.out.2⟩
end Sto
end Go.Proofs.YtgbehfkimchglaaGreatDoor
namespace Go.Proofs.YtgbehfkimchglaaGreatDoor
open Go Go.RowKit refRack
set_option maxRecDepth 100000
set_option linter.unusedVariables false
namespace Sto
theorem set_same {cs : Array Value} {i : Nat} {v : Value} (h : cs[i]? = some v) : cs.setIfInBounds i v = cs := by
 apply Array.ext_getElem?
 intro j
 rw [Array.getElem?_setIfInBounds]
 by_cases e : i = j
 ·subst e
  rw [if_pos rfl, h]
  have := (Array.getElem?_eq_some_iff.1 h).1
  rw [if_pos this]
 ·rw [if_neg e]
theorem only_byt {g : Nat} {w w' : World} {cs : Array Value} (hb : Blk w g 202 cs) (ho : Only g w w') : ∀ (k : Nat) (cur : Array Value) (fr : Nat × Nat), w.heap[k]? = some (.cells cur 5 fr) → w'.heap[k]? = some (.cells cur 5 fr) := fun k cur fr hk =>
 (ho.block k (Array.getElem?_eq_some_iff.1 hk).1 (fun e => by
  injection e with e
  subst e
  rw [show w.heap[k]? = _ from hb] at hk
  injection hk with hk
  injection hk with _ hk
  exact absurd hk (by decide))).trans hk
section
variable {B : Nat} {w w' : World}
def MemPost (B : Nat) (w w' : World) (p : Nat) (cs : Array Value) (l : List Kx) : Prop := ∃ v, Blk w' p 103 (cs.setIfInBounds 5 v) ∧ Row w' B v l ∧ KeepM B w w'
set_option maxHeartbeats 1600000 in
theorem forget_any (w : World) (p : Nat) (cs : Array Value) (v : Value) (l : List Kx) (a : Int) (h : Blk w p 103 cs) (h5 : cs[5]? = some v) (hr : Row w B v l) (hl : l.length ≤ 64) (hB : B ≤ p) :
  Calls Tryz.prog 68 #[.pointer (some ⟨p, 5, none⟩), .int .i64 a] w fun e w' => e = .returned (.tuple #[]) ∧ MemPost B w w' p cs (cut a l) := by
 have c5 : w.cell? ⟨p, 5, none⟩ = some v := by rw [h.cell, h5]
 have HP := Lib.hid (place_any w p B v l a c5 hr.own (by omega))
 have HH := Lib.hid h
 have H5 := Lib.hid h5
 have HR := Lib.hid hr
 have HBp := Lib.hid hB
 clear h h5 hr c5
 go_enter Tryz.func68, Tryz.ntmps68
 go_wp2_with fail
 refine HP.out.mono ?_
 rintro e w1 ⟨rfl, b1⟩
 have B1 := Lib.hid b1
 have X1 : Hid (Blk w1 p 103 cs) := Lib.hid (HH.out.below b1 HH.out.lt)
 have R1 : Hid (Row w1 B v l) := Lib.hid (HR.out.below b1)
 have K1 : Hid (KeepM B w w1) := Lib.hid ((KeepM.refl B w).new b1 (by have := HH.out.lt; have := HBp.out; omega))
 clear b1 HP
 by_cases hi : idx a l < l.length
 ·have HPL : Hid (plc a l = ((idx a l : Nat) : Int)) := Lib.hid (by unfold plc; rw [if_pos hi])
  have HCU : Hid (cut a l = l.take (idx a l) ++ l.drop (idx a l + 1)) := Lib.hid rfl
  rw [HPL.out]
  generalize hj : idx a l = j at *
  obtain ⟨g, c, rfl, hg, hgl⟩ : ∃ g c, v = .slice (some ⟨g, 0, none⟩) l.length c ∧ B ≤ g ∧ g < w1.heap.size := by
   rcases R1.out.own.2 with ⟨_, e⟩ | ⟨g, cap, cur, e, q1, q2, _⟩
   ·omega
   ·exact ⟨g, cap, e, q1, (Array.getElem?_eq_some_iff.1 q2).1⟩
  have HD := Lib.hid (delete_at w1 B g l.length c j (j + 1) l R1.out.own rfl hi rfl (by omega))
  obtain ⟨gcs, hgb⟩ := R1.out.own.blk_of (g := g) rfl
  have HGB := Lib.hid hgb
  have q1 : w1.cell? ⟨p, 5, none⟩ = some (.slice (some ⟨g, 0, none⟩) l.length c) := by rw [X1.out.cell, H5.out]
  generalize hn : l.length = n at *
  have HN := Lib.hid hn
  have HJ := Lib.hid hj
  clear hj hn hgb
  go_wp2_with fail
  refine HD.out.mono ?_
  rintro e w2 ⟨rfl, o2, f2⟩
  have hpg : p ≠ g := X1.out.ne_ HGB.out (by decide)
  have X2 : Hid (Blk w2 p 103 cs) := Lib.hid ((f2.block p X1.out.lt (fun e => hpg (by injection e))).trans X1.out)
  have R2 : Hid (Row w2 B (.slice (some ⟨g, 0, none⟩) (n - 1) c) (cut a l)) := Lib.hid (by
   rw [HCU.out]
   refine ⟨o2, fun x hx => ((R1.out.ok x ?_).keep (only_byt HGB.out f2))⟩
   rcases List.mem_append.1 hx with h | h
   ·exact List.mem_of_mem_take h
   ·exact List.mem_of_mem_drop h)
  have K2 : Hid (KeepM B w w2) := Lib.hid (K1.out.trans (KeepM.only HGB.out rfl f2 hg (by have := K1.out.below.size; have := HH.out.lt; have := HBp.out; omega)))
  have q2 : ∃ u, w2.cell? ⟨p, 5, none⟩ = some u := ⟨_, by rw [X2.out.cell, H5.out]⟩
  obtain ⟨u5, q2⟩ := q2
  have q3 : w2.frozen? ⟨p, 5, none⟩ = false := X2.out.frozen 5
  clear o2 f2 HD q1
  go_wp2_with fail
  first | go_end0 | (simp only [Exit.inBlock, Exit.then]; refine bodyPost_ret (results_none rfl _ _ _) rfl ?_) | refine bodyPost_ret (results_none rfl _ _ _) rfl ?_
  have hgs := grown_set w2 p 5 (.slice (some ⟨g, 0, none⟩) (n - 1) c)
  refine ⟨rfl, _, X2.out.set_ 5 _, R2.out.keep (fun g' hg' => ?_) (fun k cur fr hk => ?_), K2.out.trans (KeepM.only X2.out rfl hgs HBp.out (by have := X2.out.lt; have := HBp.out; omega))⟩
  ·injection hg' with hg'
   subst hg'
   exact Below.heap_setCell _ _ _ _ (fun e => hpg e.symm)
  ·refine (Below.heap_setCell _ _ _ _ (fun e => ?_)).trans hk
   have e : k = p := e
   subst e
   rw [show w2.heap[k]? = _ from X2.out] at hk
   injection hk with hk
   injection hk with _ hk
   exact absurd hk (by decide)
 ·have HPL : Hid (plc a l = -1) := Lib.hid (by unfold plc; rw [if_neg hi])
  rw [HPL.out]
  have HCU : Hid (cut a l = l) := Lib.hid (cut_none hi)
  clear hi
  go_wp2_with fail
  first | go_end0 | (simp only [Exit.inBlock, Exit.then]; refine bodyPost_ret (results_none rfl _ _ _) rfl ?_) | refine bodyPost_ret (results_none rfl _ _ _) rfl ?_
  refine ⟨rfl, v, ?_, ?_, K1.out⟩
  ·rw [set_same H5.out]; exact X1.out
  ·rw [HCU.out]; exact R1.out
end
end Sto
end Go.Proofs.YtgbehfkimchglaaGreatDoor
namespace Go.Proofs
open Go.Shelf
def YtgbehfkimchglaaGreatDoor.layPuClone_ren : Go.Shelf.Ren := ⟨fun | 25 => 172 | n => n, fun | 0 => 0 | 3 => 3 | 4 => 4 | 5 => 5 | 9 => 9 | 37 => 76 | 47 => 287 | n => n, fun | n => n⟩
theorem YtgbehfkimchglaaGreatDoor.layPuClone : Go.Proofs.LaysPu.n25 Tryz.prog YtgbehfkimchglaaGreatDoor.layPuClone_ren := {
 mixed := by kernel_rfl
 f25 := Tryz.func172.trans (congrArg some (by kernel_rfl))
 t0 := Tryz.underlying0
 a0 := Tryz.isAgg0
 z0 := Tryz.sizeOf0
 v0 := Tryz.zeroValue0
 i0 := by kernel_rfl
 t3 := Tryz.underlying3
 a3 := Tryz.isAgg3
 z3 := Tryz.sizeOf3
 v3 := Tryz.zeroValue3
 i3 := by kernel_rfl
 t4 := Tryz.underlying4
 a4 := Tryz.isAgg4
 z4 := Tryz.sizeOf4
 v4 := Tryz.zeroValue4
 i4 := by kernel_rfl
 t5 := Tryz.underlying5
 a5 := Tryz.isAgg5
 z5 := Tryz.sizeOf5
 v5 := Tryz.zeroValue5
 i5 := by kernel_rfl
 t9 := Tryz.underlying9
 a9 := Tryz.isAgg9
 z9 := Tryz.sizeOf9
 v9 := Tryz.zeroValue9
 i9 := by kernel_rfl
 t37 := Tryz.underlying76
 a37 := Tryz.isAgg76
 z37 := Tryz.sizeOf76
 v37 := Tryz.zeroValue76
 i37 := by kernel_rfl
 t47 := Tryz.underlying287
 a47 := Tryz.isAgg287
 z47 := Tryz.sizeOf287
 v47 := Tryz.zeroValue287
 i47 := by kernel_rfl
}
end Go.Proofs
namespace Go.Proofs.YtgbehfkimchglaaGreatDoor
open Go Go.RowKit
set_option maxRecDepth 100000
theorem clone_str (s : ByteArray) (w : World) (h : s.size ≤ 281474976710656) :
  Calls Tryz.prog 118 #[.string s] w fun e w' => e = .returned (.string s) ∧ Below w.heap.size w w' := by
 have HC : Hid (Calls Tryz.prog 172 #[.string s] w fun e w' => e = .returned (.string s) ∧ Below w.heap.size w w') := Lib.hid (AnyPu.stringslite_Clone layPuClone s w h)
 clear h
 go_enter Tryz.func118, Tryz.ntmps118
 go_wp2_with fail
 refine HC.out.mono ?_
 rintro e w1 ⟨rfl, b1⟩
 have B1 := Lib.hid b1
 clear b1 HC
 go_wp2_with fail
 go_ret
 exact ⟨rfl, B1.out⟩
end Go.Proofs.YtgbehfkimchglaaGreatDoor
