/-
  'intent.spell' by a contract. Conditions: the sums' table is laid; the piece has at most 56 bytes.
-/
import Derived.Test.YtikenhcglbfgpaaDoorItnSmallM
import Derived.Deep.DeepCutAuto
namespace Go.Proofs.YtikenhcglbfgpaaDoor
open Go Go.RowKit refRack
set_option maxRecDepth 100000
set_option linter.unusedVariables false
namespace Itn
theorem str_at {w : World} {g i : Nat} {x : ByteArray} (h : w.cell? ⟨g, i, none⟩ = some (.string x)) : (Instr.loadAt 9 (.pointer (some ⟨g, i, none⟩))).run Tryd.prog w = .ok (.string x) w :=
  load_one Tryd.underlying9 (by kernel_rfl) h
set_option maxHeartbeats 3200000 in
theorem spell_at (b k : Int) (p : Pc) (w : World) (h : OkI b k p) (hl : Laid w) :
    Calls Tryd.prog 30 #[.int .i64 b, .int .i64 k, .agg #[.bool p.l, .string p.s]] w fun e w' => (∃ v, e = .returned (.tuple #[v, .int .i64 0]) ∧ SecV w' w.heap.size v (pcL b k p)) ∧ Below w.heap.size w w' := by
  have hpos := hl.pos
  have HLD := Lib.hid hl
  have HG := Lib.hid (its_good h)
  have HS := Lib.hid (secE_its h)
  have HSL := Lib.hid (secL_its h)
  obtain ⟨l, s⟩ := p
  obtain ⟨lb, hlb⟩ : ∃ lb, lb = bit l := ⟨_, rfl⟩
  have HLB := Lib.hid hlb
  obtain ⟨W, hW⟩ : ∃ W, W = w.alloc (.cells #[.bool l, .string s] 59) := ⟨_, rfl⟩
  obtain ⟨gx, hgx⟩ : ∃ gx, gx = w.heap.size := ⟨_, rfl⟩
  have L0 : Hid (Below w.heap.size w W) := Lib.hid (by rw [hW]; exact (Below.refl _ _).alloc (Nat.le_refl _) _)
  have X0 : Hid (Blk W gx 59 #[.bool l, .string s]) := Lib.hid (by rw [hW, hgx]; exact Blk.new _ _ _)
  have HX := Lib.hid (⟨hW, hgx⟩ : _ ∧ _)
  have HB : Hid (∀ W', Below W.heap.size W W' → W'.cell? ⟨gx, 1, none⟩ = some (.string s)) := Lib.hid fun W' hb => (hb.cell (p := ⟨gx, 1, none⟩) X0.out.lt).trans (X0.out.cell 1)
  have d0 : W.cell? ⟨gx, 0, none⟩ = some (.bool l) := X0.out.cell 0
  have HT0 : Hid (Below W.heap.size W W.drew ∧ W.drew.cell? ⟨gx, 1, none⟩ = some (.string s)) := Lib.hid ⟨(Below.refl _ _).drew, X0.out.cell 1⟩
  clear h hl hW hgx hlb
  go_enter Tryd.func30, Tryd.ntmps30
  go_upto_region 2 with (fail)
  rw [← HX.out.1, ← HX.out.2]
  clear HX
  cases l with
  | true =>
    obtain rfl : lb = 1 := HLB.out
    go_upto_region 4 with (fail)
    refine region_anyZ (fun W' => Below W.heap.size W W' ∧ W'.cell? ⟨gx, 1, none⟩ = some (.string s)) 16 (by kernel_rfl) ?_
    refine takeG 1 (.move (.tmp 0)) (some 12) none (.int .i64 b) (by kernel_rfl) (by kernel_rfl) (by kernel_rfl) (fun _ _ _ h => h) (fun o wq e hS => exec_move wq e (by kernel_rfl)) HT0.out ?_
    refine takeG 3 (.move (.tmp 1)) (some 14) none (.int .i64 k) (by kernel_rfl) (by kernel_rfl) (by kernel_rfl) (fun _ _ _ h => h) (fun o wq e hS => exec_move wq e (by kernel_rfl)) HT0.out ?_
    refine takeG 5 (.move (.tmp 8)) (some 16) none (.int .i64 1) (by kernel_rfl) (by kernel_rfl) (by kernel_rfl) (fun _ _ _ h => h) (fun o wq e hS => exec_move wq e (by kernel_rfl)) HT0.out ?_
    refine takeG 7 (.fieldAddr 59 (.tmp 5) 1) (some 18) none (.pointer (some ⟨gx, 1, none⟩)) (by kernel_rfl) (by kernel_rfl) (by kernel_rfl) (fun _ _ _ h => h) (fun o wq e hS => exec_field (u := .pointer (some ⟨gx, 0, none⟩)) wq e (by kernel_rfl) (by kernel_rfl)) HT0.out ?_
    refine takeG 8 (.load 9 (.tmp 18)) (some 19) none (.string s) (by kernel_rfl) (by kernel_rfl) (by kernel_rfl) (fun _ _ _ h => h) (fun o wq e hS => exec_load (x := (.tmp 18)) e (by kernel_rfl) (str_at hS.2)) HT0.out ?_
    refine loneG 0 (.call ⟨.value (.func 36), #[(.const (.int .i64 55))], #[3]⟩) (some 11) none (by kernel_rfl) (by kernel_rfl) (by kernel_rfl) ?_
    intro o ho hod
    refine wp_callC (f := 36) (args := #[.int .i64 55]) (by cases o; cases ho; kernel_rfl) (number_at 55 _) ?_
    rintro e w1 ⟨rfl, b1⟩
    refine ⟨_, rfl, ?_⟩
    rw [hod]
    clear hod ho
    have lx1 := HT0.out.1.trans (b1.mono HT0.out.1.size)
    have HT1 : Hid (Below W.heap.size W w1 ∧ w1.cell? ⟨gx, 1, none⟩ = some (.string s)) := Lib.hid ⟨lx1, HB.out _ lx1⟩
    clear b1 lx1
    refine ⟨fun _ => HT1.out, ?_⟩
    refine loneG 2 (.call ⟨.value (.func 36), #[(.tmp 12)], #[3]⟩) (some 13) none (by kernel_rfl) (by kernel_rfl) (by kernel_rfl) ?_
    intro o ho hod
    refine wp_callC (f := 36) (args := #[.int .i64 b]) (by cases o; cases ho; kernel_rfl) (number_at b _) ?_
    rintro e w2 ⟨rfl, b2⟩
    refine ⟨_, rfl, ?_⟩
    rw [hod]
    clear hod ho
    have lx2 := HT1.out.1.trans (b2.mono HT1.out.1.size)
    have HT2 : Hid (Below W.heap.size W w2 ∧ w2.cell? ⟨gx, 1, none⟩ = some (.string s)) := Lib.hid ⟨lx2, HB.out _ lx2⟩
    clear b2 lx2
    refine ⟨fun _ => HT2.out, ?_⟩
    refine loneG 4 (.call ⟨.value (.func 36), #[(.tmp 14)], #[3]⟩) (some 15) none (by kernel_rfl) (by kernel_rfl) (by kernel_rfl) ?_
    intro o ho hod
    refine wp_callC (f := 36) (args := #[.int .i64 k]) (by cases o; cases ho; kernel_rfl) (number_at k _) ?_
    rintro e w3 ⟨rfl, b3⟩
    refine ⟨_, rfl, ?_⟩
    rw [hod]
    clear hod ho
    have lx3 := HT2.out.1.trans (b3.mono HT2.out.1.size)
    have HT3 : Hid (Below W.heap.size W w3 ∧ w3.cell? ⟨gx, 1, none⟩ = some (.string s)) := Lib.hid ⟨lx3, HB.out _ lx3⟩
    clear b3 lx3
    refine ⟨fun _ => HT3.out, ?_⟩
    refine loneG 6 (.call ⟨.value (.func 36), #[(.tmp 16)], #[3]⟩) (some 17) none (by kernel_rfl) (by kernel_rfl) (by kernel_rfl) ?_
    intro o ho hod
    refine wp_callC (f := 36) (args := #[.int .i64 1]) (by cases o; cases ho; kernel_rfl) (number_at 1 _) ?_
    rintro e w4 ⟨rfl, b4⟩
    refine ⟨_, rfl, ?_⟩
    rw [hod]
    clear hod ho
    have lx4 := HT3.out.1.trans (b4.mono HT3.out.1.size)
    have HT4 : Hid (Below W.heap.size W w4 ∧ w4.cell? ⟨gx, 1, none⟩ = some (.string s)) := Lib.hid ⟨lx4, HB.out _ lx4⟩
    clear b4 lx4
    refine ⟨fun _ => HT4.out, ?_⟩
    refine loneG 9 (.call ⟨.value (.func 37), #[(.tmp 19)], #[9]⟩) (some 20) none (by kernel_rfl) (by kernel_rfl) (by kernel_rfl) ?_
    intro o ho hod
    refine wp_callC (f := 37) (args := #[.string s]) (by cases o; cases ho; kernel_rfl) (text_at s _) ?_
    rintro e w5 ⟨rfl, b5⟩
    refine ⟨_, rfl, ?_⟩
    rw [hod]
    clear hod ho
    have lx5 := HT4.out.1.trans (b5.mono HT4.out.1.size)
    have HT5 : Hid (Below W.heap.size W w5 ∧ w5.cell? ⟨gx, 1, none⟩ = some (.string s)) := Lib.hid ⟨lx5, HB.out _ lx5⟩
    clear b5 lx5
    refine ⟨fun _ => HT5.out, ?_⟩
    refine loneG 10 (.buildSlice 84 5 #[(0, (.tmp 11)), (1, (.tmp 13)), (2, (.tmp 15)), (3, (.tmp 17)), (4, (.tmp 20))]) (some 21) none (by kernel_rfl) (by kernel_rfl) (by kernel_rfl) ?_
    intro o ho hod
    refine wp_val (exec_bs5 ho (by kernel_rfl) (by kernel_rfl) (by kernel_rfl) (by kernel_rfl) (by kernel_rfl) (bs_items b k 1 s _)) ?_
    rw [hod]
    clear hod ho
    have lA : Below W.heap.size W (w5.alloc (.cells #[.int .i64 1, .int .i64 55, .string ⟨#[]⟩, .int .i64 1, .int .i64 b, .string ⟨#[]⟩, .int .i64 1, .int .i64 k, .string ⟨#[]⟩, .int .i64 1, .int .i64 1, .string ⟨#[]⟩, .int .i64 2, .int .i64 0, .string s] 81)) := HT5.out.1.alloc HT5.out.1.size _
    have HT7 : Hid (Below W.heap.size W (w5.alloc (.cells #[.int .i64 1, .int .i64 55, .string ⟨#[]⟩, .int .i64 1, .int .i64 b, .string ⟨#[]⟩, .int .i64 1, .int .i64 k, .string ⟨#[]⟩, .int .i64 1, .int .i64 1, .string ⟨#[]⟩, .int .i64 2, .int .i64 0, .string s] 81)) ∧ ((w5.alloc (.cells #[.int .i64 1, .int .i64 55, .string ⟨#[]⟩, .int .i64 1, .int .i64 b, .string ⟨#[]⟩, .int .i64 1, .int .i64 k, .string ⟨#[]⟩, .int .i64 1, .int .i64 1, .string ⟨#[]⟩, .int .i64 2, .int .i64 0, .string s] 81))).cell? ⟨gx, 1, none⟩ = some (.string s)) := Lib.hid ⟨lA, HB.out _ lA⟩
    refine ⟨fun _ => HT7.out, ?_⟩
    have RN : RdT (w5.alloc (.cells #[.int .i64 1, .int .i64 55, .string ⟨#[]⟩, .int .i64 1, .int .i64 b, .string ⟨#[]⟩, .int .i64 1, .int .i64 k, .string ⟨#[]⟩, .int .i64 1, .int .i64 1, .string ⟨#[]⟩, .int .i64 2, .int .i64 0, .string s] 81)) (w5.heap.size + 1) (some ⟨w5.heap.size, 0, none⟩) (itsI b k ⟨true, s⟩) := rdi_new w5 (itsI b k ⟨true, s⟩)
    have lW : Below w.heap.size w (w5.alloc (.cells #[.int .i64 1, .int .i64 55, .string ⟨#[]⟩, .int .i64 1, .int .i64 b, .string ⟨#[]⟩, .int .i64 1, .int .i64 k, .string ⟨#[]⟩, .int .i64 1, .int .i64 1, .string ⟨#[]⟩, .int .i64 2, .int .i64 0, .string s] 81)) := L0.out.trans (lA.mono L0.out.size)
    refine loneG 11 (.call ⟨.value (.func 35), #[(.tmp 21)], #[84]⟩) (some 22) none (by kernel_rfl) (by kernel_rfl) (by kernel_rfl) ?_
    intro o ho hod
    refine wp_callC (f := 35) (args := #[.slice (some ⟨w5.heap.size, 0, none⟩) 5 5]) (by cases o; cases ho; kernel_rfl) (sector_blk (some ⟨w5.heap.size, 0, none⟩) (itsI b k ⟨true, s⟩) 5 (w5.heap.size + 1) (w5.alloc (.cells #[.int .i64 1, .int .i64 55, .string ⟨#[]⟩, .int .i64 1, .int .i64 b, .string ⟨#[]⟩, .int .i64 1, .int .i64 k, .string ⟨#[]⟩, .int .i64 1, .int .i64 1, .string ⟨#[]⟩, .int .i64 2, .int .i64 0, .string s] 81)) RN (by simp) HG.out (Nat.le_refl _) (by unfold maxLen; omega) (HLD.out.below lW hpos)) ?_
    rintro e w4 ⟨⟨v4, rfl, ho4⟩, hl4⟩
    refine ⟨_, rfl, ?_⟩
    rw [hod]
    clear hod ho
    have L4 := Lib.hid (lW.trans (hl4.mono lW.size))
    rw [HSL.out] at ho4
    have O4 : Hid (SecV w4 w.heap.size v4 (pcL b k ⟨true, s⟩)) := Lib.hid (by
      rcases ho4 with h | ⟨h1, g, h2, h3, h4⟩
      · exact .inl h
      · exact .inr ⟨h1, g, h2, by have := lW.size; omega, h4⟩)
    have l4 := lA.trans (hl4.mono lA.size)
    have HT8 : Hid (Below W.heap.size W w4 ∧ w4.cell? ⟨gx, 1, none⟩ = some (.string s)) := Lib.hid ⟨l4, HB.out _ l4⟩
    refine ⟨fun _ => HT8.out, ?_⟩
    rw [HS.out]
    refine takeG 12 (.extract (.tmp 22) 0) (some 23) none (v4) (by kernel_rfl) (by kernel_rfl) (by kernel_rfl) (fun _ _ _ h => h) (fun o wq e hS => exec_ext (vs := #[v4, .int .i64 0]) wq e (by kernel_rfl) (by rfl)) HT8.out ?_
    refine takeG 13 (.extract (.tmp 22) 1) (some 24) none (.int .i64 0) (by kernel_rfl) (by kernel_rfl) (by kernel_rfl) (fun _ _ _ h => h) (fun o wq e hS => exec_ext (vs := #[v4, .int .i64 0]) wq e (by kernel_rfl) (by rfl)) HT8.out ?_
    refine takeG 14 (.assign (.tmp 23)) (some 6) none (v4) (by kernel_rfl) (by kernel_rfl) (by kernel_rfl) (fun _ _ _ h => h) (fun o wq e hS => exec_assign wq e (by kernel_rfl)) HT8.out ?_
    refine lastS 15 (.assign (.tmp 24)) (some 7) (.int .i64 0) (by kernel_rfl) (by kernel_rfl) (by kernel_rfl) HT8.out (fun o e => exec_assign _ e (by kernel_rfl)) ?_
    simp only [put_some, put_none, List.setIfInBounds_toArray, List.set_cons_succ, List.set_cons_zero]
    clear lA RN lW ho4 hl4 l4 HT0 HT1 HT2 HT3 HT4 HT5 HT7 HT8 HB d0
    go_wp2_with fail
    go_ret2
    exact ⟨⟨_, rfl, O4.out⟩, L4.out⟩
  | false =>
    obtain rfl : lb = 0 := HLB.out
    go_upto_region 4 with (fail)
    refine region_anyZ (fun W' => Below W.heap.size W W' ∧ W'.cell? ⟨gx, 1, none⟩ = some (.string s)) 16 (by kernel_rfl) ?_
    refine takeG 1 (.move (.tmp 0)) (some 12) none (.int .i64 b) (by kernel_rfl) (by kernel_rfl) (by kernel_rfl) (fun _ _ _ h => h) (fun o wq e hS => exec_move wq e (by kernel_rfl)) HT0.out ?_
    refine takeG 3 (.move (.tmp 1)) (some 14) none (.int .i64 k) (by kernel_rfl) (by kernel_rfl) (by kernel_rfl) (fun _ _ _ h => h) (fun o wq e hS => exec_move wq e (by kernel_rfl)) HT0.out ?_
    refine takeG 5 (.move (.tmp 8)) (some 16) none (.int .i64 0) (by kernel_rfl) (by kernel_rfl) (by kernel_rfl) (fun _ _ _ h => h) (fun o wq e hS => exec_move wq e (by kernel_rfl)) HT0.out ?_
    refine takeG 7 (.fieldAddr 59 (.tmp 5) 1) (some 18) none (.pointer (some ⟨gx, 1, none⟩)) (by kernel_rfl) (by kernel_rfl) (by kernel_rfl) (fun _ _ _ h => h) (fun o wq e hS => exec_field (u := .pointer (some ⟨gx, 0, none⟩)) wq e (by kernel_rfl) (by kernel_rfl)) HT0.out ?_
    refine takeG 8 (.load 9 (.tmp 18)) (some 19) none (.string s) (by kernel_rfl) (by kernel_rfl) (by kernel_rfl) (fun _ _ _ h => h) (fun o wq e hS => exec_load (x := (.tmp 18)) e (by kernel_rfl) (str_at hS.2)) HT0.out ?_
    refine loneG 0 (.call ⟨.value (.func 36), #[(.const (.int .i64 55))], #[3]⟩) (some 11) none (by kernel_rfl) (by kernel_rfl) (by kernel_rfl) ?_
    intro o ho hod
    refine wp_callC (f := 36) (args := #[.int .i64 55]) (by cases o; cases ho; kernel_rfl) (number_at 55 _) ?_
    rintro e w1 ⟨rfl, b1⟩
    refine ⟨_, rfl, ?_⟩
    rw [hod]
    clear hod ho
    have lx1 := HT0.out.1.trans (b1.mono HT0.out.1.size)
    have HT1 : Hid (Below W.heap.size W w1 ∧ w1.cell? ⟨gx, 1, none⟩ = some (.string s)) := Lib.hid ⟨lx1, HB.out _ lx1⟩
    clear b1 lx1
    refine ⟨fun _ => HT1.out, ?_⟩
    refine loneG 2 (.call ⟨.value (.func 36), #[(.tmp 12)], #[3]⟩) (some 13) none (by kernel_rfl) (by kernel_rfl) (by kernel_rfl) ?_
    intro o ho hod
    refine wp_callC (f := 36) (args := #[.int .i64 b]) (by cases o; cases ho; kernel_rfl) (number_at b _) ?_
    rintro e w2 ⟨rfl, b2⟩
    refine ⟨_, rfl, ?_⟩
    rw [hod]
    clear hod ho
    have lx2 := HT1.out.1.trans (b2.mono HT1.out.1.size)
    have HT2 : Hid (Below W.heap.size W w2 ∧ w2.cell? ⟨gx, 1, none⟩ = some (.string s)) := Lib.hid ⟨lx2, HB.out _ lx2⟩
    clear b2 lx2
    refine ⟨fun _ => HT2.out, ?_⟩
    refine loneG 4 (.call ⟨.value (.func 36), #[(.tmp 14)], #[3]⟩) (some 15) none (by kernel_rfl) (by kernel_rfl) (by kernel_rfl) ?_
    intro o ho hod
    refine wp_callC (f := 36) (args := #[.int .i64 k]) (by cases o; cases ho; kernel_rfl) (number_at k _) ?_
    rintro e w3 ⟨rfl, b3⟩
    refine ⟨_, rfl, ?_⟩
    rw [hod]
    clear hod ho
    have lx3 := HT2.out.1.trans (b3.mono HT2.out.1.size)
    have HT3 : Hid (Below W.heap.size W w3 ∧ w3.cell? ⟨gx, 1, none⟩ = some (.string s)) := Lib.hid ⟨lx3, HB.out _ lx3⟩
    clear b3 lx3
    refine ⟨fun _ => HT3.out, ?_⟩
    refine loneG 6 (.call ⟨.value (.func 36), #[(.tmp 16)], #[3]⟩) (some 17) none (by kernel_rfl) (by kernel_rfl) (by kernel_rfl) ?_
    intro o ho hod
    refine wp_callC (f := 36) (args := #[.int .i64 0]) (by cases o; cases ho; kernel_rfl) (number_at 0 _) ?_
    rintro e w4 ⟨rfl, b4⟩
    refine ⟨_, rfl, ?_⟩
    rw [hod]
    clear hod ho
    have lx4 := HT3.out.1.trans (b4.mono HT3.out.1.size)
    have HT4 : Hid (Below W.heap.size W w4 ∧ w4.cell? ⟨gx, 1, none⟩ = some (.string s)) := Lib.hid ⟨lx4, HB.out _ lx4⟩
    clear b4 lx4
    refine ⟨fun _ => HT4.out, ?_⟩
    refine loneG 9 (.call ⟨.value (.func 37), #[(.tmp 19)], #[9]⟩) (some 20) none (by kernel_rfl) (by kernel_rfl) (by kernel_rfl) ?_
    intro o ho hod
    refine wp_callC (f := 37) (args := #[.string s]) (by cases o; cases ho; kernel_rfl) (text_at s _) ?_
    rintro e w5 ⟨rfl, b5⟩
    refine ⟨_, rfl, ?_⟩
    rw [hod]
    clear hod ho
    have lx5 := HT4.out.1.trans (b5.mono HT4.out.1.size)
    have HT5 : Hid (Below W.heap.size W w5 ∧ w5.cell? ⟨gx, 1, none⟩ = some (.string s)) := Lib.hid ⟨lx5, HB.out _ lx5⟩
    clear b5 lx5
    refine ⟨fun _ => HT5.out, ?_⟩
    refine loneG 10 (.buildSlice 84 5 #[(0, (.tmp 11)), (1, (.tmp 13)), (2, (.tmp 15)), (3, (.tmp 17)), (4, (.tmp 20))]) (some 21) none (by kernel_rfl) (by kernel_rfl) (by kernel_rfl) ?_
    intro o ho hod
    refine wp_val (exec_bs5 ho (by kernel_rfl) (by kernel_rfl) (by kernel_rfl) (by kernel_rfl) (by kernel_rfl) (bs_items b k 0 s _)) ?_
    rw [hod]
    clear hod ho
    have lA : Below W.heap.size W (w5.alloc (.cells #[.int .i64 1, .int .i64 55, .string ⟨#[]⟩, .int .i64 1, .int .i64 b, .string ⟨#[]⟩, .int .i64 1, .int .i64 k, .string ⟨#[]⟩, .int .i64 1, .int .i64 0, .string ⟨#[]⟩, .int .i64 2, .int .i64 0, .string s] 81)) := HT5.out.1.alloc HT5.out.1.size _
    have HT7 : Hid (Below W.heap.size W (w5.alloc (.cells #[.int .i64 1, .int .i64 55, .string ⟨#[]⟩, .int .i64 1, .int .i64 b, .string ⟨#[]⟩, .int .i64 1, .int .i64 k, .string ⟨#[]⟩, .int .i64 1, .int .i64 0, .string ⟨#[]⟩, .int .i64 2, .int .i64 0, .string s] 81)) ∧ ((w5.alloc (.cells #[.int .i64 1, .int .i64 55, .string ⟨#[]⟩, .int .i64 1, .int .i64 b, .string ⟨#[]⟩, .int .i64 1, .int .i64 k, .string ⟨#[]⟩, .int .i64 1, .int .i64 0, .string ⟨#[]⟩, .int .i64 2, .int .i64 0, .string s] 81))).cell? ⟨gx, 1, none⟩ = some (.string s)) := Lib.hid ⟨lA, HB.out _ lA⟩
    refine ⟨fun _ => HT7.out, ?_⟩
    have RN : RdT (w5.alloc (.cells #[.int .i64 1, .int .i64 55, .string ⟨#[]⟩, .int .i64 1, .int .i64 b, .string ⟨#[]⟩, .int .i64 1, .int .i64 k, .string ⟨#[]⟩, .int .i64 1, .int .i64 0, .string ⟨#[]⟩, .int .i64 2, .int .i64 0, .string s] 81)) (w5.heap.size + 1) (some ⟨w5.heap.size, 0, none⟩) (itsI b k ⟨false, s⟩) := rdi_new w5 (itsI b k ⟨false, s⟩)
    have lW : Below w.heap.size w (w5.alloc (.cells #[.int .i64 1, .int .i64 55, .string ⟨#[]⟩, .int .i64 1, .int .i64 b, .string ⟨#[]⟩, .int .i64 1, .int .i64 k, .string ⟨#[]⟩, .int .i64 1, .int .i64 0, .string ⟨#[]⟩, .int .i64 2, .int .i64 0, .string s] 81)) := L0.out.trans (lA.mono L0.out.size)
    refine loneG 11 (.call ⟨.value (.func 35), #[(.tmp 21)], #[84]⟩) (some 22) none (by kernel_rfl) (by kernel_rfl) (by kernel_rfl) ?_
    intro o ho hod
    refine wp_callC (f := 35) (args := #[.slice (some ⟨w5.heap.size, 0, none⟩) 5 5]) (by cases o; cases ho; kernel_rfl) (sector_blk (some ⟨w5.heap.size, 0, none⟩) (itsI b k ⟨false, s⟩) 5 (w5.heap.size + 1) (w5.alloc (.cells #[.int .i64 1, .int .i64 55, .string ⟨#[]⟩, .int .i64 1, .int .i64 b, .string ⟨#[]⟩, .int .i64 1, .int .i64 k, .string ⟨#[]⟩, .int .i64 1, .int .i64 0, .string ⟨#[]⟩, .int .i64 2, .int .i64 0, .string s] 81)) RN (by simp) HG.out (Nat.le_refl _) (by unfold maxLen; omega) (HLD.out.below lW hpos)) ?_
    rintro e w4 ⟨⟨v4, rfl, ho4⟩, hl4⟩
    refine ⟨_, rfl, ?_⟩
    rw [hod]
    clear hod ho
    have L4 := Lib.hid (lW.trans (hl4.mono lW.size))
    rw [HSL.out] at ho4
    have O4 : Hid (SecV w4 w.heap.size v4 (pcL b k ⟨false, s⟩)) := Lib.hid (by
      rcases ho4 with h | ⟨h1, g, h2, h3, h4⟩
      · exact .inl h
      · exact .inr ⟨h1, g, h2, by have := lW.size; omega, h4⟩)
    have l4 := lA.trans (hl4.mono lA.size)
    have HT8 : Hid (Below W.heap.size W w4 ∧ w4.cell? ⟨gx, 1, none⟩ = some (.string s)) := Lib.hid ⟨l4, HB.out _ l4⟩
    refine ⟨fun _ => HT8.out, ?_⟩
    rw [HS.out]
    refine takeG 12 (.extract (.tmp 22) 0) (some 23) none (v4) (by kernel_rfl) (by kernel_rfl) (by kernel_rfl) (fun _ _ _ h => h) (fun o wq e hS => exec_ext (vs := #[v4, .int .i64 0]) wq e (by kernel_rfl) (by rfl)) HT8.out ?_
    refine takeG 13 (.extract (.tmp 22) 1) (some 24) none (.int .i64 0) (by kernel_rfl) (by kernel_rfl) (by kernel_rfl) (fun _ _ _ h => h) (fun o wq e hS => exec_ext (vs := #[v4, .int .i64 0]) wq e (by kernel_rfl) (by rfl)) HT8.out ?_
    refine takeG 14 (.assign (.tmp 23)) (some 6) none (v4) (by kernel_rfl) (by kernel_rfl) (by kernel_rfl) (fun _ _ _ h => h) (fun o wq e hS => exec_assign wq e (by kernel_rfl)) HT8.out ?_
    refine lastS 15 (.assign (.tmp 24)) (some 7) (.int .i64 0) (by kernel_rfl) (by kernel_rfl) (by kernel_rfl) HT8.out (fun o e => exec_assign _ e (by kernel_rfl)) ?_
    simp only [put_some, put_none, List.setIfInBounds_toArray, List.set_cons_succ, List.set_cons_zero]
    clear lA RN lW ho4 hl4 l4 HT0 HT1 HT2 HT3 HT4 HT5 HT7 HT8 HB d0
    go_wp2_with fail
    go_ret2
    exact ⟨⟨_, rfl, O4.out⟩, L4.out⟩
end Itn
end Go.Proofs.YtikenhcglbfgpaaDoor
