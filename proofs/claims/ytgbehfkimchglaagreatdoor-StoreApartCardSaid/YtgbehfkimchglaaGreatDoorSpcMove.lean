/-
 '(*Space).move' by a contract.
-/
import Derived.Test.YtgbehfkimchglaaGreatDoorSpcSpaceM
namespace Go.Proofs.YtgbehfkimchglaaGreatDoor
open Go Go.RowKit
set_option maxRecDepth 100000
set_option linter.unusedVariables false
namespace Sp
theorem exec_look {P : Program} {a : Act} {o : Oper} {t : TypeId} {x y : Operand} {c : Bool} {u1 u2 v : Value} (w : World) (e : o.op = .lookup t x y c) (hx : a.eval x = u1) (hy : a.eval y = u2) (hf : (Instr.lookup t u1 u2 c).run P w = .ok v w) : (execOp a.eval o).run P w = .ok (.value v) w := by
 unfold execOp; simp only [e, hx, hy, hf, Sem.run_bind, Sem.run_pure, Result.andThen_ok]
theorem wp_put {P : Program} {o : Oper} {a : Act} {w w' : World} {K : Act → World → Prop} {Q : Exit → Act → World → Prop} {t : TypeId} {m x v : Operand} {um ux uv : Value} (ho : o.op = .mapUpdate t m x v) (hm : a.eval m = um) (hx : a.eval x = ux) (hv : a.eval v = uv) (hrun : (Instr.mapUpdate t um ux uv).run P w = .ok () w') (hK : K (a.put o.dst undef) w') : o.wp P a w K Q := by
 unfold Oper.wp
 simp [execOp, ho, hm, hx, hv, hrun, Result.andThen]
 exact hK
theorem Blk_grown {w w' : World} {row : Option Nat} {g : Nat} {t : TypeId} {cs : Array Value} (h : Blk w g t cs) (hg : w.grownBy w' row) (hne : some g ≠ row) : Blk w' g t cs := (hg.block g h.lt hne).trans h
set_option maxHeartbeats 6400000 in
theorem move_rg {w : World} {base b m n : Nat} {F : Nat → Option Value} {V : Nat → Value} {s : SS} (h : Spc w base b m n F V s) (hbs : base ≤ w.heap.size) (hnm : n + 2 < maxLen) {a e f t : Nat} (hf : f < 3) (ht : t < 3) (hft : f ≠ t) (hae : a < e) (hes : e ≤ 1000000) :
  Calls Tryz.prog 104 #[.pointer (some ⟨b, 0, none⟩), .agg #[.int .i64 (a : Int), .int .i64 (e : Int)], .int .i64 (f : Int), .int .i64 (t : Int)] w fun er w' =>
   (hasL a e (s.S f) = false → er = .returned (.bool false) ∧ Below w.heap.size w w') ∧
   (hasL a e (s.S f) = true → er = .returned (.bool true) ∧ ∃ F' V', Mem w' base b m (n + 2) F' V' ((s.upd f (outL a e (s.S f))).upd t (withL a e (s.S t))) ∧ Chg w w' b m V V') := by
 obtain ⟨r5, hr5⟩ : ∃ r5, r5 = w.heap.size := ⟨_, rfl⟩
 obtain ⟨W, hW⟩ : ∃ W, W = w.alloc (.cells #[.int .i64 (a : Int), .int .i64 (e : Int)] 61) := ⟨_, rfl⟩
 have hb : Below w.heap.size w W := by rw [hW]; exact (Below.refl _ _).alloc (Nat.le_refl _) _
 have hMW : Mem W base b m n F V s := h.mem.below hb (Nat.le_refl _)
 have X5 : Blk W r5 61 #[.int .i64 (a : Int), .int .i64 (e : Int)] := by rw [hW, hr5]; exact Blk.new _ _ _
 obtain ⟨A, c, hv, hRd, _, _, _⟩ := (h.mem.own f hf).shape
 have hlen := h.len hf
 have hval := h.mem.val f hf
 rw [hv] at hval
 have hhas : ∀ w1, Below w.heap.size w w1 → Calls Tryz.prog 162 #[.agg #[.slice A (s.S f).length c, .int .i64 (cnt (s.S f) : Int)], .agg #[.int .i64 (a : Int), .int .i64 (e : Int)]] w1 fun er w' => er = .returned (.bool (hasL a e (s.S f))) ∧ Below w1.heap.size w1 w' := fun w1 h1 => has_rg w1 A (s.S f) c a e _ (hRd.below h1) hlen (h.good.ris f hf)
 have hlk : ∀ w1, MapI w1 m n F → (Instr.lookup 148 (.map (some m)) (.int .i64 (f : Int)) false).run Tryz.prog w1 = .ok (.agg #[.slice A (s.S f).length c, .int .i64 (cnt (s.S f) : Int)]) w1 := fun w1 h1 => by
  have h2 := h1.look Tryz.underlying148 (zero_part w1) (show f < 4611686018427387904 by omega) false
  have h3 := hval
  unfold zp at h3
  rw [h3] at h2
  exact h2
 have HSP := Lib.hid h
 have HM := Lib.hid hMW
 have hblk := hMW.blk
 have hmap := hMW.map
 obtain ⟨C, hC⟩ : ∃ C, C = s.cells := ⟨_, rfl⟩
 obtain ⟨K, hK⟩ : ∃ K, K = s.kept := ⟨_, rfl⟩
 obtain ⟨n1, hn1⟩ : ∃ n1, n1 = (s.S f).length := ⟨_, rfl⟩
 obtain ⟨c1, hc1⟩ : ∃ c1, c1 = cnt (s.S f) := ⟨_, rfl⟩
 obtain ⟨ans, hans⟩ : ∃ ans, ans = hasL a e (s.S f) := ⟨_, rfl⟩
 rw [← hn1, ← hc1] at hlk hhas
 rw [← hans] at hhas ⊢
 rw [← hC, ← hK] at hblk
 have HHAS := Lib.hid hhas
 have HLK := Lib.hid hlk
 have L1 := Lib.hid hb
 have HS := Lib.hid (⟨hblk.drew, hmap.drew, X5.drew⟩ : Blk W.drew b 150 #[.int .i64 (C : Int), .int .i64 (K : Int), .map (some m)] ∧ MapI W.drew m n F ∧ Blk W.drew r5 61 #[.int .i64 (a : Int), .int .i64 (e : Int)])
 have HQ := Lib.hid (⟨hC, hK, hn1, hc1, hans⟩ : C = s.cells ∧ K = s.kept ∧ n1 = (s.S f).length ∧ c1 = cnt (s.S f) ∧ ans = hasL a e (s.S f))
 have HR5 := Lib.hid hr5
 have HV := Lib.hid hv
 clear hC hK hn1 hc1 hans hhas hlk hb hblk hmap X5 hval hlen hv hRd h hMW
 go_enter Tryz.func104, Tryz.ntmps104
 go_upto_region 1 with (fail)
 rw [← hW, ← HR5.out]
 clear hW hr5
 refine region_anyZ (fun w' => Blk w' b 150 #[.int .i64 (C : Int), .int .i64 (K : Int), .map (some m)] ∧ MapI w' m n F ∧ Blk w' r5 61 #[.int .i64 (a : Int), .int .i64 (e : Int)]) 9 (by kernel_rfl) ?_
 refine takeG 0 (.move (.tmp 0)) (some 9) none (.pointer (some ⟨b, 0, none⟩)) (by kernel_rfl) (by kernel_rfl) (by kernel_rfl) (fun _ _ _ h => h) (fun o wq e hS => exec_move wq e (by kernel_rfl)) HS.out ?_
 refine takeG 1 (.nilCheck (.tmp 9)) (some 10) none (.pointer (some ⟨b, 0, none⟩)) (by kernel_rfl) (by kernel_rfl) (by kernel_rfl) (fun _ _ _ h => h) (fun o wq e hS => exec_nil wq e (by kernel_rfl)) HS.out ?_
 refine takeG 2 (.fieldAddr 150 (.tmp 10) 2) (some 11) none (.pointer (some ⟨b, 2, none⟩)) (by kernel_rfl) (by kernel_rfl) (by kernel_rfl) (fun _ _ _ h => h) (fun o wq e hS => exec_field (u := .pointer (some ⟨b, 0, none⟩)) wq e (by kernel_rfl) (by kernel_rfl)) HS.out ?_
 refine takeG 3 (.load 148 (.tmp 11)) (some 12) none (.map (some m)) (by kernel_rfl) (by kernel_rfl) (by kernel_rfl) (fun _ _ _ h => h) (fun o wq e hS => exec_load (x := (.tmp 11)) e (by kernel_rfl) (load_one Tryz.underlying148 (by kernel_rfl) (hS.1.cell 2))) HS.out ?_
 refine takeG 4 (.move (.tmp 2)) (some 13) none (.int .i64 (f : Int)) (by kernel_rfl) (by kernel_rfl) (by kernel_rfl) (fun _ _ _ h => h) (fun o wq e hS => exec_move wq e (by kernel_rfl)) HS.out ?_
 refine takeG 5 (.lookup 148 (.tmp 12) (.tmp 13) false) (some 14) none (.agg #[.slice A n1 c, .int .i64 (c1 : Int)]) (by kernel_rfl) (by kernel_rfl) (by kernel_rfl) (fun _ _ _ h => h) (fun o wq e hS => exec_look (u1 := .map (some m)) (u2 := .int .i64 (f : Int)) wq e (by kernel_rfl) (by kernel_rfl) (HLK.out _ hS.2.1)) HS.out ?_
 refine takeG 6 (.load 61 (.tmp 5)) (some 15) none (.agg #[.int .i64 (a : Int), .int .i64 (e : Int)]) (by kernel_rfl) (by kernel_rfl) (by kernel_rfl) (fun _ _ _ h => h) (fun o wq e hS => exec_load (x := (.tmp 5)) e (by kernel_rfl) (load_range hS.2.2)) HS.out ?_
 refine loneG 7 (.call ⟨.value (.func 162), #[(.tmp 14), (.tmp 15)], #[147, 61]⟩) (some 16) none (by kernel_rfl) (by kernel_rfl) (by kernel_rfl) ?_
 intro o ho hod
 refine wp_callC (f := 162) (args := #[.agg #[.slice A n1 c, .int .i64 (c1 : Int)], .agg #[.int .i64 (a : Int), .int .i64 (e : Int)]]) (by cases o; cases ho; kernel_rfl) (HHAS.out _ L1.out.drew) ?_
 rintro ee W4 ⟨rfl, b4⟩
 refine ⟨.bool ans, rfl, ?_⟩
 rw [hod]
 clear hod ho
 have HS9 : Hid (Blk W4 b 150 #[.int .i64 (C : Int), .int .i64 (K : Int), .map (some m)] ∧ MapI W4 m n F ∧ Blk W4 r5 61 #[.int .i64 (a : Int), .int .i64 (e : Int)]) := Lib.hid ⟨Blk_new HS.out.1 b4, HS.out.2.1.below b4 HS.out.2.1.lt, Blk_new HS.out.2.2 b4⟩
 have L4 := Lib.hid (L1.out.drew.trans (b4.mono L1.out.drew.size))
 clear b4 L1 HS
 refine ⟨fun _ => HS9.out, ?_⟩
 refine lastS 8 (.unOp .not 4 (.tmp 16)) (some 17) (.bool (!ans)) (by kernel_rfl) (by kernel_rfl) (by kernel_rfl) HS9.out (fun o e => exec_un (u := .bool ans) _ e (by kernel_rfl) (by kernel_rfl)) ?_
 simp only [put_some, put_none, List.setIfInBounds_toArray, List.set_cons_succ, List.set_cons_zero]
 cases ans with
 | false =>
  go_wp2_with fail
  go_ret
  exact ⟨rfl, L4.out⟩
 | true =>
  have hm4 := HSP.out.mem.below L4.out (Nat.le_refl _)
  have hne4 := HSP.out.mem.own_ne hf
  have HNE : Hid (some b ≠ (V f).ownBlock ∧ some m ≠ (V f).ownBlock ∧ some r5 ≠ (V f).ownBlock) := Lib.hid ⟨fun e => hne4.1 e.symm, fun e => hne4.2 e.symm, fun e => by
   have := ((HSP.out.mem.own f hf).lt e.symm).1
   rw [HR5.out] at this
   omega⟩
  have hcw : e - a ≤ cnt (s.S f) := by
   have := ((HSP.out.good.ris f hf).out_ hae HQ.out.2.2.2.2.symm).2.2
   omega
  have hends : ∀ r ∈ s.S f, r.2 ≤ 1000000 := fun r hr => by
   have h1 := HSP.out.good.hc
   have h2 := ((HSP.out.good.ris f hf).in_ (HSP.out.good.in_ f hf) r hr).2
   omega
  have hwo := without_rg W4.drew base (V f) (s.S f) (cnt (s.S f)) a e (hm4.drew.own f hf) (Nat.le_trans hbs L4.out.size) (HSP.out.len hf) (HSP.out.cnt_le hf) hcw hae hes (HSP.out.good.ris f hf) HQ.out.2.2.2.2.symm hends
  rw [HV.out, ← HQ.out.2.2.1, ← HQ.out.2.2.2.1] at hwo
  have HVF : Hid (V f = .slice A n1 c) := Lib.hid (by rw [HV.out, HQ.out.2.2.1])
  have HWO := Lib.hid hwo
  have HM4 := Lib.hid hm4
  have HS3 := Lib.hid (⟨HS9.out.1.drew, HS9.out.2.1.drew, HS9.out.2.2.drew⟩ : Blk W4.drew b 150 #[.int .i64 (C : Int), .int .i64 (K : Int), .map (some m)] ∧ MapI W4.drew m n F ∧ Blk W4.drew r5 61 #[.int .i64 (a : Int), .int .i64 (e : Int)])
  rw [HVF.out] at HNE
  clear hm4 hne4 hcw hends hwo HS9 HHAS HM
  go_upto_region 3 with (fail)
  refine region_anyZ (fun w' => Blk w' b 150 #[.int .i64 (C : Int), .int .i64 (K : Int), .map (some m)] ∧ MapI w' m n F ∧ Blk w' r5 61 #[.int .i64 (a : Int), .int .i64 (e : Int)]) 13 (by kernel_rfl) ?_
  refine takeG 0 (.move (.tmp 0)) (some 18) none (.pointer (some ⟨b, 0, none⟩)) (by kernel_rfl) (by kernel_rfl) (by kernel_rfl) (fun _ _ _ h => h) (fun o wq e hS => exec_move wq e (by kernel_rfl)) HS3.out ?_
  refine takeG 1 (.nilCheck (.tmp 18)) (some 19) none (.pointer (some ⟨b, 0, none⟩)) (by kernel_rfl) (by kernel_rfl) (by kernel_rfl) (fun _ _ _ h => h) (fun o wq e hS => exec_nil wq e (by kernel_rfl)) HS3.out ?_
  refine takeG 2 (.fieldAddr 150 (.tmp 19) 2) (some 20) none (.pointer (some ⟨b, 2, none⟩)) (by kernel_rfl) (by kernel_rfl) (by kernel_rfl) (fun _ _ _ h => h) (fun o wq e hS => exec_field (u := .pointer (some ⟨b, 0, none⟩)) wq e (by kernel_rfl) (by kernel_rfl)) HS3.out ?_
  refine takeG 3 (.load 148 (.tmp 20)) (some 21) none (.map (some m)) (by kernel_rfl) (by kernel_rfl) (by kernel_rfl) (fun _ _ _ h => h) (fun o wq e hS => exec_load (x := (.tmp 20)) e (by kernel_rfl) (load_one Tryz.underlying148 (by kernel_rfl) (hS.1.cell 2))) HS3.out ?_
  refine takeG 4 (.move (.tmp 2)) (some 22) none (.int .i64 (f : Int)) (by kernel_rfl) (by kernel_rfl) (by kernel_rfl) (fun _ _ _ h => h) (fun o wq e hS => exec_move wq e (by kernel_rfl)) HS3.out ?_
  refine takeG 5 (.move (.tmp 0)) (some 23) none (.pointer (some ⟨b, 0, none⟩)) (by kernel_rfl) (by kernel_rfl) (by kernel_rfl) (fun _ _ _ h => h) (fun o wq e hS => exec_move wq e (by kernel_rfl)) HS3.out ?_
  refine takeG 6 (.nilCheck (.tmp 23)) (some 24) none (.pointer (some ⟨b, 0, none⟩)) (by kernel_rfl) (by kernel_rfl) (by kernel_rfl) (fun _ _ _ h => h) (fun o wq e hS => exec_nil wq e (by kernel_rfl)) HS3.out ?_
  refine takeG 7 (.fieldAddr 150 (.tmp 24) 2) (some 25) none (.pointer (some ⟨b, 2, none⟩)) (by kernel_rfl) (by kernel_rfl) (by kernel_rfl) (fun _ _ _ h => h) (fun o wq e hS => exec_field (u := .pointer (some ⟨b, 0, none⟩)) wq e (by kernel_rfl) (by kernel_rfl)) HS3.out ?_
  refine takeG 8 (.load 148 (.tmp 25)) (some 26) none (.map (some m)) (by kernel_rfl) (by kernel_rfl) (by kernel_rfl) (fun _ _ _ h => h) (fun o wq e hS => exec_load (x := (.tmp 25)) e (by kernel_rfl) (load_one Tryz.underlying148 (by kernel_rfl) (hS.1.cell 2))) HS3.out ?_
  refine takeG 9 (.move (.tmp 2)) (some 27) none (.int .i64 (f : Int)) (by kernel_rfl) (by kernel_rfl) (by kernel_rfl) (fun _ _ _ h => h) (fun o wq e hS => exec_move wq e (by kernel_rfl)) HS3.out ?_
  refine takeG 10 (.lookup 148 (.tmp 26) (.tmp 27) false) (some 28) none (.agg #[.slice A n1 c, .int .i64 (c1 : Int)]) (by kernel_rfl) (by kernel_rfl) (by kernel_rfl) (fun _ _ _ h => h) (fun o wq e hS => exec_look (u1 := .map (some m)) (u2 := .int .i64 (f : Int)) wq e (by kernel_rfl) (by kernel_rfl) (HLK.out _ hS.2.1)) HS3.out ?_
  refine takeG 11 (.load 61 (.tmp 5)) (some 29) none (.agg #[.int .i64 (a : Int), .int .i64 (e : Int)]) (by kernel_rfl) (by kernel_rfl) (by kernel_rfl) (fun _ _ _ h => h) (fun o wq e hS => exec_load (x := (.tmp 5)) e (by kernel_rfl) (load_range hS.2.2)) HS3.out ?_
  refine loneG 12 (.call ⟨.value (.func 163), #[(.tmp 28), (.tmp 29)], #[147, 61]⟩) (some 30) none (by kernel_rfl) (by kernel_rfl) (by kernel_rfl) ?_
  intro o ho hod
  refine wp_callC (f := 163) (args := #[.agg #[.slice A n1 c, .int .i64 (c1 : Int)], .agg #[.int .i64 (a : Int), .int .i64 (e : Int)]]) (by cases o; cases ho; kernel_rfl) HWO.out ?_
  rintro ee W5 ⟨v', rfl, hp5⟩
  refine ⟨.agg #[v', .int .i64 ((c1 - (e - a) : Nat) : Int)], rfl, ?_⟩
  rw [hod]
  clear hod ho
  have HP5 := Lib.hid hp5
  have HS5 : Hid (Blk W5 b 150 #[.int .i64 (C : Int), .int .i64 (K : Int), .map (some m)] ∧ MapI W5 m n F ∧ Blk W5 r5 61 #[.int .i64 (a : Int), .int .i64 (e : Int)]) := Lib.hid ⟨Blk_grown HS3.out.1 hp5.2.1 HNE.out.1, HS3.out.2.1.grown hp5.2.1 HNE.out.2.1, Blk_grown HS3.out.2.2 hp5.2.1 HNE.out.2.2⟩
  clear hp5 HS3 HWO
  refine ⟨fun _ => HS5.out, ?_⟩
  refine lastOp 13 (.mapUpdate 148 (.tmp 21) (.tmp 22) (.tmp 30)) none (by kernel_rfl) (by kernel_rfl) (by kernel_rfl) rfl ?_
  intro o ho hod
  obtain ⟨W6, hrun, m6, g6, s6⟩ := HS5.out.2.1.put Tryz.underlying148 (Nat.lt_trans (Nat.lt_succ_of_lt (Nat.lt_succ_self n)) hnm) hf (.agg #[v', .int .i64 ((c1 - (e - a) : Nat) : Int)])
  refine wp_put ho (by kernel_rfl) (by kernel_rfl) (by kernel_rfl) hrun ?_
  rw [hod]
  clear hod ho
  simp only [put_some, put_none, List.setIfInBounds_toArray, List.set_cons_succ, List.set_cons_zero]
  have hout := (HSP.out.good.ris f hf).out_ hae HQ.out.2.2.2.2.symm
  have hcr : cnt (outL a e (s.S f)) = c1 - (e - a) := by have := hout.2.2; have := HQ.out.2.2.2.1; omega
  have hp5 := HP5.out
  rw [← HVF.out] at hp5
  have hst := HM4.out.drew.step hf hp5 m6 (by rw [hcr]) g6
  obtain ⟨F1, hF1⟩ : ∃ F1, F1 = putI F f (.agg #[v', .int .i64 ((c1 - (e - a) : Nat) : Int)]) := ⟨_, rfl⟩
  obtain ⟨V1, hV1⟩ : ∃ V1, V1 = updV V f v' := ⟨_, rfl⟩
  rw [← hF1] at m6 hst
  have hvt : V1 t = V t := by rw [hV1]; exact if_neg (fun e => hft e.symm)
  rw [← hV1] at hst
  obtain ⟨s1, hs1⟩ : ∃ s1, s1 = s.upd f (outL a e (s.S f)) := ⟨_, rfl⟩
  have hst1 : s1.S t = s.S t := by rw [hs1]; exact if_neg (fun e => hft e.symm)
  have hs1c : s1.cells = s.cells ∧ s1.kept = s.kept := by rw [hs1]; exact ⟨rfl, rfl⟩
  rw [← hs1] at hst
  have HS1 := Lib.hid hs1
  have hm6 := hst.1
  have HC6 := Lib.hid hst.2
  have hne6 := hm6.own_ne ht
  rw [hvt] at hne6
  have HNE60 : Hid (some b ≠ (V t).ownBlock ∧ some m ≠ (V t).ownBlock ∧ some r5 ≠ (V t).ownBlock) := Lib.hid ⟨fun e => hne6.1 e.symm, fun e => hne6.2 e.symm, fun e => by
   have := ((HSP.out.mem.own t ht).lt e.symm).1
   rw [HR5.out] at this
   omega⟩
  have hr5m : r5 ≠ m := by have := HSP.out.mem.map.lt; rw [HR5.out]; omega
  have hb6 := hm6.blk
  rw [hs1c.1, hs1c.2, ← HQ.out.1, ← HQ.out.2.1] at hb6
  have HS6 := Lib.hid (⟨hb6.drew, m6.drew, (Blk_grown HS5.out.2.2 g6 (fun e => by injection e with e; exact hr5m e)).drew⟩ : Blk W6.drew b 150 #[.int .i64 (C : Int), .int .i64 (K : Int), .map (some m)] ∧ MapI W6.drew m (n + 1) F1 ∧ Blk W6.drew r5 61 #[.int .i64 (a : Int), .int .i64 (e : Int)])
  obtain ⟨A2, c2, hv2, _, _, _, _⟩ := (HSP.out.mem.own t ht).shape
  have hval2 := hm6.val t ht
  rw [hvt, hst1, hv2] at hval2
  have hown2 := hm6.own t ht
  rw [hvt, hst1] at hown2
  have hbs6 : base ≤ W6.heap.size := by have := HC6.out.size; exact Nat.le_trans (Nat.le_trans hbs L4.out.size) this
  have hwi := with_rg W6.drew base (V t) (s.S t) (cnt (s.S t)) a e hown2.drew hbs6 (HSP.out.len ht) (HSP.out.cnt_le ht) hae hes (HSP.out.good.ris t ht)
  have hall := (Ris.has hae (HSP.out.good.ris f hf)).1 HQ.out.2.2.2.2.symm
  have hcw := ((HSP.out.good.ris t ht).with_ hae (Nat.zero_le _) (fun x h1 h2 hx => hft (HSP.out.good.one f t x hf ht (hall x h1 h2) hx))).2.2
  obtain ⟨n2, hn2⟩ : ∃ n2, n2 = (s.S t).length := ⟨_, rfl⟩
  obtain ⟨d1, hd1⟩ : ∃ d1, d1 = cnt (s.S t) := ⟨_, rfl⟩
  rw [← hn2] at hv2 hval2
  rw [← hd1] at hval2 hwi hcw
  rw [hv2] at hwi
  have HVT := Lib.hid hv2
  have HCW := Lib.hid hcw
  have HNE6 := HNE60
  rw [HVT.out] at HNE6
  have HWI := Lib.hid hwi
  have hlk2 : ∀ w1, MapI w1 m (n + 1) F1 → (Instr.lookup 148 (.map (some m)) (.int .i64 (t : Int)) false).run Tryz.prog w1 = .ok (.agg #[.slice A2 n2 c2, .int .i64 (d1 : Int)]) w1 := fun w1 h1 => by
   have h2 := h1.look Tryz.underlying148 (zero_part w1) (show t < 4611686018427387904 by omega) false
   have h3 := hval2
   unfold zp at h3
   rw [h3] at h2
   exact h2
  have HLK2 := Lib.hid hlk2
  have HM6 := Lib.hid hm6
  have HST := Lib.hid (⟨hvt, hst1⟩ : V1 t = V t ∧ s1.S t = s.S t)
  clear hm6 hst hne6 HNE60 hb6 hval2 hown2 hwi hall hcw hlk2 hF1 hV1 hs1 hs1c hvt hst1 hr5m hout hcr hp5 m6 g6 s6 hrun hn2 hd1 hv2 HS5 HP5 HNE HLK
  go_upto_region 4 with (fail)
  refine region_anyZ (fun w' => Blk w' b 150 #[.int .i64 (C : Int), .int .i64 (K : Int), .map (some m)] ∧ MapI w' m (n + 1) F1 ∧ Blk w' r5 61 #[.int .i64 (a : Int), .int .i64 (e : Int)]) 13 (by kernel_rfl) ?_
  refine takeG 0 (.move (.tmp 0)) (some 31) none (.pointer (some ⟨b, 0, none⟩)) (by kernel_rfl) (by kernel_rfl) (by kernel_rfl) (fun _ _ _ h => h) (fun o wq e hS => exec_move wq e (by kernel_rfl)) HS6.out ?_
  refine takeG 1 (.nilCheck (.tmp 31)) (some 32) none (.pointer (some ⟨b, 0, none⟩)) (by kernel_rfl) (by kernel_rfl) (by kernel_rfl) (fun _ _ _ h => h) (fun o wq e hS => exec_nil wq e (by kernel_rfl)) HS6.out ?_
  refine takeG 2 (.fieldAddr 150 (.tmp 32) 2) (some 33) none (.pointer (some ⟨b, 2, none⟩)) (by kernel_rfl) (by kernel_rfl) (by kernel_rfl) (fun _ _ _ h => h) (fun o wq e hS => exec_field (u := .pointer (some ⟨b, 0, none⟩)) wq e (by kernel_rfl) (by kernel_rfl)) HS6.out ?_
  refine takeG 3 (.load 148 (.tmp 33)) (some 34) none (.map (some m)) (by kernel_rfl) (by kernel_rfl) (by kernel_rfl) (fun _ _ _ h => h) (fun o wq e hS => exec_load (x := (.tmp 33)) e (by kernel_rfl) (load_one Tryz.underlying148 (by kernel_rfl) (hS.1.cell 2))) HS6.out ?_
  refine takeG 4 (.move (.tmp 3)) (some 35) none (.int .i64 (t : Int)) (by kernel_rfl) (by kernel_rfl) (by kernel_rfl) (fun _ _ _ h => h) (fun o wq e hS => exec_move wq e (by kernel_rfl)) HS6.out ?_
  refine takeG 5 (.move (.tmp 0)) (some 36) none (.pointer (some ⟨b, 0, none⟩)) (by kernel_rfl) (by kernel_rfl) (by kernel_rfl) (fun _ _ _ h => h) (fun o wq e hS => exec_move wq e (by kernel_rfl)) HS6.out ?_
  refine takeG 6 (.nilCheck (.tmp 36)) (some 37) none (.pointer (some ⟨b, 0, none⟩)) (by kernel_rfl) (by kernel_rfl) (by kernel_rfl) (fun _ _ _ h => h) (fun o wq e hS => exec_nil wq e (by kernel_rfl)) HS6.out ?_
  refine takeG 7 (.fieldAddr 150 (.tmp 37) 2) (some 38) none (.pointer (some ⟨b, 2, none⟩)) (by kernel_rfl) (by kernel_rfl) (by kernel_rfl) (fun _ _ _ h => h) (fun o wq e hS => exec_field (u := .pointer (some ⟨b, 0, none⟩)) wq e (by kernel_rfl) (by kernel_rfl)) HS6.out ?_
  refine takeG 8 (.load 148 (.tmp 38)) (some 39) none (.map (some m)) (by kernel_rfl) (by kernel_rfl) (by kernel_rfl) (fun _ _ _ h => h) (fun o wq e hS => exec_load (x := (.tmp 38)) e (by kernel_rfl) (load_one Tryz.underlying148 (by kernel_rfl) (hS.1.cell 2))) HS6.out ?_
  refine takeG 9 (.move (.tmp 3)) (some 40) none (.int .i64 (t : Int)) (by kernel_rfl) (by kernel_rfl) (by kernel_rfl) (fun _ _ _ h => h) (fun o wq e hS => exec_move wq e (by kernel_rfl)) HS6.out ?_
  refine takeG 10 (.lookup 148 (.tmp 39) (.tmp 40) false) (some 41) none (.agg #[.slice A2 n2 c2, .int .i64 (d1 : Int)]) (by kernel_rfl) (by kernel_rfl) (by kernel_rfl) (fun _ _ _ h => h) (fun o wq e hS => exec_look (u1 := .map (some m)) (u2 := .int .i64 (t : Int)) wq e (by kernel_rfl) (by kernel_rfl) (HLK2.out _ hS.2.1)) HS6.out ?_
  refine takeG 11 (.load 61 (.tmp 5)) (some 42) none (.agg #[.int .i64 (a : Int), .int .i64 (e : Int)]) (by kernel_rfl) (by kernel_rfl) (by kernel_rfl) (fun _ _ _ h => h) (fun o wq e hS => exec_load (x := (.tmp 5)) e (by kernel_rfl) (load_range hS.2.2)) HS6.out ?_
  refine loneG 12 (.call ⟨.value (.func 122), #[(.tmp 41), (.tmp 42)], #[147, 61]⟩) (some 43) none (by kernel_rfl) (by kernel_rfl) (by kernel_rfl) ?_
  intro o ho hod
  refine wp_callC (f := 122) (args := #[.agg #[.slice A2 n2 c2, .int .i64 (d1 : Int)], .agg #[.int .i64 (a : Int), .int .i64 (e : Int)]]) (by cases o; cases ho; kernel_rfl) HWI.out ?_
  rintro ee W7 ⟨v2, rfl, hp7⟩
  refine ⟨.agg #[v2, .int .i64 ((d1 + (e - a) : Nat) : Int)], rfl, ?_⟩
  rw [hod]
  clear hod ho
  have HP7 := Lib.hid hp7
  have HS7 : Hid (Blk W7 b 150 #[.int .i64 (C : Int), .int .i64 (K : Int), .map (some m)] ∧ MapI W7 m (n + 1) F1 ∧ Blk W7 r5 61 #[.int .i64 (a : Int), .int .i64 (e : Int)]) := Lib.hid ⟨Blk_grown HS6.out.1 hp7.2.1 HNE6.out.1, HS6.out.2.1.grown hp7.2.1 HNE6.out.2.1, Blk_grown HS6.out.2.2 hp7.2.1 HNE6.out.2.2⟩
  clear hp7 HS6 HWI
  refine ⟨fun _ => HS7.out, ?_⟩
  refine lastOp 13 (.mapUpdate 148 (.tmp 34) (.tmp 35) (.tmp 43)) none (by kernel_rfl) (by kernel_rfl) (by kernel_rfl) rfl ?_
  intro o ho hod
  obtain ⟨W8, hrun, m8, g8, s8⟩ := HS7.out.2.1.put Tryz.underlying148 (Nat.lt_trans (Nat.lt_succ_self (n + 1)) hnm) ht (.agg #[v2, .int .i64 ((d1 + (e - a) : Nat) : Int)])
  refine wp_put ho (by kernel_rfl) (by kernel_rfl) (by kernel_rfl) hrun ?_
  rw [hod]
  clear hod ho
  simp only [put_some, put_none, List.setIfInBounds_toArray, List.set_cons_succ, List.set_cons_zero]
  have hp7 := HP7.out
  rw [← HVT.out, ← HST.out.1, ← HST.out.2] at hp7
  have hst8 := HM6.out.drew.step ht hp7 m8 (by rw [HST.out.2, HCW.out]) g8
  rw [HST.out.2, HS1.out] at hst8
  have HST8 := Lib.hid hst8
  have HCC : Hid (Chg w W8 b m V (updV V1 t v2)) := Lib.hid ((Chg.of_below L4.out.drew).trans (HC6.out.trans ((Chg.of_below (Below.refl _ _).drew).trans hst8.2)))
  clear hst8 hp7 m8 g8 s8 hrun
  go_wp2_with fail
  go_ret
  exact ⟨rfl, _, _, HST8.out.1, HCC.out⟩
end Sp
end Go.Proofs.YtgbehfkimchglaaGreatDoor
