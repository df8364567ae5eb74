/-
  'blank' by contracts: a space whose cells are all free.
-/
import Derived.Test.YtpbojhjbjnoihaaSpcRes
namespace Go.Proofs.Ytpbojhjbjnoihaa
open Go Go.RowKit
set_option maxRecDepth 100000
set_option linter.unusedVariables false
namespace Sp
theorem exec_bld2 {P : Program} {a : Act} {o : Oper} {ty : TypeId} {i j : Nat} {x y : Operand} {u0 u1 r : Value} (w : World) (e : o.op = .build ty #[(i, x), (j, y)]) (hx : a.eval x = u0) (hy : a.eval y = u1)
    (hl : (Instr.build ty #[(i, u0), (j, u1)]).run P w = .ok r w) : (execOp a.eval o).run P w = .ok (.value r) w := by
  unfold execOp; simp only [e, List.map_toArray, List.map_cons, List.map_nil, hx, hy, hl, Sem.run_bind, Sem.run_pure, Result.andThen_ok]
theorem blank_no (w : World) (k : Int) (hk : k < 1 ∨ 40000 < k) :
    Calls Try.prog 31 #[.int .i64 k] w fun er w' => er = .returned (.tuple #[.pointer none, .int .i64 1]) ∧ w' = w := by
  by_cases e1 : k < 1
  · clear hk
    go_enter Try.func31, Try.ntmps31
    go_wp2_with fail
    go_ret2
    exact ⟨rfl, rfl⟩
  · have e2 : 40000 < k := by omega
    clear hk
    go_enter Try.func31, Try.ntmps31
    go_wp2_with fail
    go_ret2
    exact ⟨rfl, rfl⟩
/-- all free -/
def allFree (C : Nat) : SS := ⟨C, 0, fun k => if k = 0 then [(0, C)] else []⟩
theorem mem_one (a e c : Nat) : mem [(a, e)] c ↔ a ≤ c ∧ c < e := by
  rw [mem_cons]
  exact ⟨fun h => h.elim id (fun h => absurd h (mem_nil c)), .inl⟩
theorem allFree_mem (C : Nat) {k : Nat} (c : Nat) : mem ((allFree C).S k) c ↔ k = 0 ∧ c < C := by
  show mem (if k = 0 then [(0, C)] else []) c ↔ _
  by_cases e : k = 0
  · rw [if_pos e, mem_one]
    exact ⟨fun h => ⟨e, h.2⟩, fun h => ⟨Nat.zero_le _, h.2⟩⟩
  · rw [if_neg e]
    exact ⟨fun h => absurd h (mem_nil c), fun h => absurd h.1 e⟩
theorem allFree_good {C : Nat} (h1 : 1 ≤ C) (h2 : C ≤ 40000) : Good (allFree C) := by
  refine ⟨⟨h1, h2⟩, fun k _ => ?_, fun k _ c hc => ((allFree_mem C c).1 hc).2, fun k j c _ _ hk hj => (((allFree_mem C c).1 hk).1).trans (((allFree_mem C c).1 hj).1).symm, fun c hc => ⟨0, by omega, (allFree_mem C c).2 ⟨rfl, hc⟩⟩, Nat.zero_le _⟩
  show Ris 0 (if k = 0 then [(0, C)] else [])
  by_cases e : k = 0
  · rw [if_pos e]; exact ⟨Nat.zero_le _, h1, trivial⟩
  · rw [if_neg e]; trivial
set_option maxHeartbeats 3200000 in
theorem blank_yes (w : World) (C : Nat) (h1 : 1 ≤ C) (h2 : C ≤ 40000) :
    Calls Try.prog 31 #[.int .i64 (C : Int)] w fun er w' => ∃ b m F V, er = .returned (.tuple #[.pointer (some ⟨b, 0, none⟩), .int .i64 0]) ∧ Spc w' w.heap.size b m 1 F V (allFree C) ∧ Below w.heap.size w w' := by
  have hmk : ∀ w : World, (Instr.makeMap 61 none).run Try.prog w = .ok (.map (some w.heap.size)) (w.alloc (.map #[] 0)) := fun w => by kernel_rfl
  obtain ⟨m, hm⟩ : ∃ m, m = w.heap.size := ⟨_, rfl⟩
  obtain ⟨b, hb⟩ : ∃ b, b = (w.alloc (.map #[] 0)).heap.size := ⟨_, rfl⟩
  have hbm : b = m + 1 := by rw [hb, hm]; simp
  obtain ⟨W, hW⟩ : ∃ W, W = (w.alloc (.map #[] 0)).alloc (.cells #[.int .i64 (C : Int), .int .i64 0, .map (some m)] 63) := ⟨_, rfl⟩
  have hB : Blk W b 63 #[.int .i64 (C : Int), .int .i64 0, .map (some m)] := by rw [hW, hb]; exact Blk.new _ _ _
  have hM : MapI W m 0 (fun _ => none) := by rw [hW, hm]; exact (MapI.made w).alloc _
  have hL : Below w.heap.size w W := by rw [hW]; exact ((Below.refl _ _).alloc (Nat.le_refl _) _).alloc (by rw [← hb, hbm, hm]; exact Nat.le_succ _) _
  have L1 := Lib.hid hL
  have HBM := Lib.hid hbm
  have HM0 := Lib.hid hm
  have HLK : Hid (∀ w1, MapI w1 m 0 (fun _ => none) → (Instr.lookup 61 (.map (some m)) (.int .i64 0) false).run Try.prog w1 = .ok (.agg #[.slice none 0 0, .int .i64 0]) w1) := Lib.hid fun w1 h => h.look Try.underlying61 (zero_part w1) (show 0 < 4611686018427387904 by omega) false
  have hwi := with_rg W.drew w.heap.size (.slice none 0 0) [] 0 0 C (Own.nil _ _) hL.size (by simp) (by omega) (by omega) (by omega) (lo0 := 0) trivial
  have hwl : withL 0 C [] = [(0, C)] := rfl
  rw [hwl, Nat.zero_add, Nat.sub_zero] at hwi
  have HWI := Lib.hid hwi
  have HS6 := Lib.hid (⟨hB.drew, hM.drew⟩ : Blk W.drew b 63 #[.int .i64 (C : Int), .int .i64 0, .map (some m)] ∧ MapI W.drew m 0 (fun _ => none))
  have HB0 := Lib.hid hB
  have HMM := Lib.hid hM
  clear hB hM hL hwi hbm
  go_enter Try.func31, Try.ntmps31
  go_upto_region 4 with (fail)
  rw [← hm]
  rw [← HBM.out, ← hW]
  clear hW hb hm
  refine region_anyZ (fun w' => Blk w' b 63 #[.int .i64 (C : Int), .int .i64 0, .map (some m)] ∧ MapI w' m 0 (fun _ => none)) 12 (by kernel_rfl) ?_
  refine takeG 0 (.move (.tmp 4)) (some 15) none (.pointer (some ⟨b, 0, none⟩)) (by kernel_rfl) (by kernel_rfl) (by kernel_rfl) (fun _ _ _ h => h) (fun o wq e hS => exec_move wq e (by kernel_rfl)) HS6.out ?_
  refine takeG 1 (.nilCheck (.tmp 15)) (some 16) none (.pointer (some ⟨b, 0, none⟩)) (by kernel_rfl) (by kernel_rfl) (by kernel_rfl) (fun _ _ _ h => h) (fun o wq e hS => exec_nil wq e (by kernel_rfl)) HS6.out ?_
  refine takeG 2 (.fieldAddr 63 (.tmp 16) 2) (some 17) none (.pointer (some ⟨b, 2, none⟩)) (by kernel_rfl) (by kernel_rfl) (by kernel_rfl) (fun _ _ _ h => h) (fun o wq e hS => exec_field (u := .pointer (some ⟨b, 0, none⟩)) wq e (by kernel_rfl) (by kernel_rfl)) HS6.out ?_
  refine takeG 3 (.load 61 (.tmp 17)) (some 18) none (.map (some m)) (by kernel_rfl) (by kernel_rfl) (by kernel_rfl) (fun _ _ _ h => h) (fun o wq e hS => exec_load (x := (.tmp 17)) e (by kernel_rfl) (load_one Try.underlying61 (by kernel_rfl) (hS.1.cell 2))) HS6.out ?_
  refine takeG 4 (.move (.tmp 4)) (some 19) none (.pointer (some ⟨b, 0, none⟩)) (by kernel_rfl) (by kernel_rfl) (by kernel_rfl) (fun _ _ _ h => h) (fun o wq e hS => exec_move wq e (by kernel_rfl)) HS6.out ?_
  refine takeG 5 (.nilCheck (.tmp 19)) (some 20) none (.pointer (some ⟨b, 0, none⟩)) (by kernel_rfl) (by kernel_rfl) (by kernel_rfl) (fun _ _ _ h => h) (fun o wq e hS => exec_nil wq e (by kernel_rfl)) HS6.out ?_
  refine takeG 6 (.fieldAddr 63 (.tmp 20) 2) (some 21) none (.pointer (some ⟨b, 2, none⟩)) (by kernel_rfl) (by kernel_rfl) (by kernel_rfl) (fun _ _ _ h => h) (fun o wq e hS => exec_field (u := .pointer (some ⟨b, 0, none⟩)) wq e (by kernel_rfl) (by kernel_rfl)) HS6.out ?_
  refine takeG 7 (.load 61 (.tmp 21)) (some 22) none (.map (some m)) (by kernel_rfl) (by kernel_rfl) (by kernel_rfl) (fun _ _ _ h => h) (fun o wq e hS => exec_load (x := (.tmp 21)) e (by kernel_rfl) (load_one Try.underlying61 (by kernel_rfl) (hS.1.cell 2))) HS6.out ?_
  refine takeG 8 (.lookup 61 (.tmp 22) (.const (.int .i64 0)) false) (some 23) none (.agg #[.slice none 0 0, .int .i64 0]) (by kernel_rfl) (by kernel_rfl) (by kernel_rfl) (fun _ _ _ h => h) (fun o wq e hS => exec_look (u1 := .map (some m)) (u2 := (.int .i64 0)) wq e (by kernel_rfl) (by kernel_rfl) (HLK.out _ hS.2)) HS6.out ?_
  refine takeG 9 (.move (.tmp 0)) (some 24) none (.int .i64 (C : Int)) (by kernel_rfl) (by kernel_rfl) (by kernel_rfl) (fun _ _ _ h => h) (fun o wq e hS => exec_move wq e (by kernel_rfl)) HS6.out ?_
  refine takeG 10 (.build 34 #[(0, (.const (.int .i64 0))), (1, (.tmp 24))]) (some 25) none (.agg #[.int .i64 0, .int .i64 (C : Int)]) (by kernel_rfl) (by kernel_rfl) (by kernel_rfl) (fun _ _ _ h => h) (fun o wq e hS => exec_bld2 (u0 := (.int .i64 0)) (u1 := .int .i64 (C : Int)) wq e (by kernel_rfl) (by kernel_rfl) (by kernel_rfl)) HS6.out ?_
  refine loneG 11 (.call ⟨.value (.func 30), #[(.tmp 23), (.tmp 25)], #[60, 34]⟩) (some 26) none (by kernel_rfl) (by kernel_rfl) (by kernel_rfl) ?_
  intro o ho hod
  refine wp_callC (f := 30) (args := #[.agg #[.slice none 0 0, .int .i64 0], .agg #[.int .i64 0, .int .i64 (C : Int)]]) (by cases o; cases ho; kernel_rfl) HWI.out ?_
  rintro ee W7 ⟨v2, rfl, hp7⟩
  refine ⟨.agg #[v2, .int .i64 (C : Int)], rfl, ?_⟩
  rw [hod]
  clear hod ho
  have HP7 := Lib.hid hp7
  have HS7 : Hid (Blk W7 b 63 #[.int .i64 (C : Int), .int .i64 0, .map (some m)] ∧ MapI W7 m 0 (fun _ => none)) := Lib.hid ⟨Blk_grown HS6.out.1 hp7.2.1 (fun e => by cases e), HS6.out.2.grown hp7.2.1 (fun e => by cases e)⟩
  clear hp7 HS6 HWI
  refine ⟨fun _ => HS7.out, ?_⟩
  refine lastOp 12 (.mapUpdate 61 (.tmp 18) (.const (.int .i64 0)) (.tmp 26)) none (by kernel_rfl) (by kernel_rfl) (by kernel_rfl) rfl ?_
  intro o ho hod
  obtain ⟨W8, hrun, m8, g8, s8⟩ := HS7.out.2.put Try.underlying61 (show 0 < maxLen by decide) (show 0 < 3 by omega) (.agg #[v2, .int .i64 (C : Int)])
  refine wp_put ho (by kernel_rfl) (by kernel_rfl) (by kernel_rfl) hrun ?_
  rw [hod]
  clear hod ho
  simp only [put_some, put_none, List.setIfInBounds_toArray, List.set_cons_succ, List.set_cons_zero]
  have hst := Mem.step (w := W.drew) (base := w.heap.size) (b := b) (m := m) (n := 0) (F := fun _ => none) (V := fun _ => .slice none 0 0) (s := ⟨C, 0, fun _ => []⟩) (k := 0) (r := [(0, C)]) ⟨HB0.out.drew, HMM.out.drew, fun k _ => rfl, fun k _ => Own.nil _ _, (fun k j _ _ _ g hg => by cases hg), ⟨by rw [HBM.out, HM0.out]; exact Nat.le_succ _, by rw [HM0.out]; exact Nat.le_refl _⟩⟩ (by omega) HP7.out m8 (by rw [show cnt [(0, C)] = C from by simp [cnt]]) g8
  have HST := Lib.hid hst
  clear hst m8 g8 s8 hrun
  go_wp2_with fail
  go_ret2
  have hc := HST.out.2
  have hl := L1.out.drew
  refine ⟨b, m, _, _, rfl, ⟨HST.out.1, allFree_good h1 h2⟩, ?_⟩
  exact { os := hc.os.trans hl.os, tape := hc.tape.trans hl.tape, output := hc.output.trans hl.output, size := Nat.le_trans hl.size hc.size, block := fun g hg => (hc.block g (Nat.lt_of_lt_of_le hg hl.size) (by rw [HBM.out, HM0.out]; omega) (by rw [HM0.out]; omega) (fun k _ e => by cases e)).trans (hl.block g hg) }
end Sp
end Go.Proofs.Ytpbojhjbjnoihaa
