/-
 'slices.Replace' of ranges in the call's own row by contracts: more is put than is struck; at the end. Conditions: the rows are short; what is put lies in a block of its own.
-/
import Derived.Test.YtgbehfkimchglaaGreatDoorSpcRepM
namespace Go.Proofs.YtgbehfkimchglaaGreatDoor
open Go Go.RowKit
set_option maxRecDepth 100000
set_option linter.unusedVariables false
namespace Sp
set_option maxHeartbeats 1600000 in
theorem replace_more {w : World} {base g n c : Nat} {l d : List Rg} {vb m mc i j : Nat} (h : Own w base (.slice (some ⟨g, 0, none⟩) n c) l) (hl : l.length ≤ 100000)
  (hs : Pl w vb d) (hne : vb ≠ g) (hm : m = d.length) (hij : i < j) (hm2 : j < i + m) (hjn : j < n) (him : i + m ≤ n) (hc : i + m + (n - j) ≤ c) :
  Calls Tryz.prog 177 #[.slice (some ⟨g, 0, none⟩) n c, .int .i64 (i : Int), .int .i64 (j : Int), .slice (some ⟨vb, 0, none⟩) m mc] w fun e w' => ∃ v', e = .returned v' ∧ Own w' base v' (l.take i ++ (d ++ l.drop j)) ∧ w.grownBy w' (some g) ∧ v'.ownBlock = some g := by
 have hn := h.room.2.2.2.2.1
 have hnc := h.room.2.2.2.2.2.1
 have hcm := h.room.2.2.2.2.2.2.1
 unfold maxLen at hcm
 obtain ⟨q, rfl⟩ : ∃ q, n = j + q := ⟨n - j, by omega⟩
 rw [show j + q - j = q by omega] at hc
 have hti : (l.take i).length = i := by rw [List.length_take]; omega
 have htm : (l.take (i + m)).length = i + m := by rw [List.length_take]; omega
 have hdl : (l.drop j).length = q := by rw [List.length_drop]; omega
 obtain ⟨ca, hca, hcas⟩ := hs
 obtain ⟨cg, hcg, hcgs⟩ := h.blk
 have hca0 : ca.size ≠ 0 := fun e => by
  match d, hm, hcas with
  | [], hm, _ => simp at hm; omega
  | r :: d', _, hcas =>
   have := hcas 0 _ rfl
   rw [Array.getElem?_eq_none (by omega)] at this
   cases this
 have hov : ∀ lb cb, (callFunc 207 #[.slice (some ⟨g, (i + m) * 2, none⟩) lb cb, .slice (some ⟨vb, 0, none⟩) m mc]).run Tryz.prog w.drew = .ok (.value (.bool false)) w.drew := fun lb cb => overlaps_no hcg.drew hca.drew (fun e => hne e.symm) hca0 (hcg.drew.frozen _)
 have c1 : ∀ ty dc sc, (Builtin.copy_ #[49, 49] ty #[.slice (some ⟨g, (i + m) * 2, none⟩) q dc, .slice (some ⟨g, j * 2, none⟩) q sc]).run Tryz.prog w.drew.drew = .ok (goInt (l.drop j).length) (w.drew.drew.setCells g ((i + m) * 2) (rcells (l.drop j))) := fun ty dc sc =>
  copy_own h.drew.drew ty (own_cells h.drew.drew j) (by rw [hdl]; exact Nat.min_self _) (by rw [hdl]; omega)
 have hO1 := own_copy h.drew.drew (q := i + m) (l.drop j) (by omega) (by rw [hdl]; omega)
 rw [hdl] at hO1
 have hs1 := Pl.cs (w := w) (b := vb) (d := d) ⟨ca, hca, hcas⟩
 have hs2 := (hs1.drew.drew.set (g := g) (p := (i + m) * 2) (vs := rcells (l.drop j)) (.inl hne))
 have hG1 : w.grownBy (w.drew.drew.setCells g ((i + m) * 2) (rcells (l.drop j))) (some g) := by
  have h := grown_drew w.drew g ((i + m) * 2) (rcells (l.drop j))
  exact ⟨h.os, h.tape, h.output, h.size, h.block⟩
 obtain ⟨W1, hW1⟩ : ∃ W1, W1 = w.drew.drew.setCells g ((i + m) * 2) (rcells (l.drop j)) := ⟨_, rfl⟩
 rw [← hW1] at hO1 hs2 hG1 c1
 have c2 : ∀ ty dc, (Builtin.copy_ #[49, 49] ty #[.slice (some ⟨g, i * 2, none⟩) (i + m + q - i) dc, .slice (some ⟨vb, 0, none⟩) m mc]).run Tryz.prog W1 = .ok (goInt d.length) (W1.setCells g (i * 2) (rcells d)) := fun ty dc =>
  copy_own hO1 ty hs2.2 (by rw [← hm]; exact Nat.min_eq_left (by omega)) (by omega)
 have hO2 := own_put hO1 (q := i) d (by rw [List.length_append, htm, hdl]; omega)
 have e1 : (l.take (i + m) ++ l.drop j).take i = l.take i := by rw [List.take_append_of_le_length (by omega), List.take_take, Nat.min_eq_left (by omega)]
 have e2 : (l.take (i + m) ++ l.drop j).drop (i + d.length) = l.drop j := by rw [← hm, List.drop_append_of_le_length (by omega), List.drop_of_length_le (by omega), List.nil_append]
 rw [e1, e2] at hO2
 have hG2 := grown_tr hG1 (grown_setCells g (rcells d) (i * 2) W1)
 have C1 := Lib.hid c1
 have C2 := Lib.hid c2
 have HO := Lib.hid hO2
 have HG := Lib.hid hG2
 have hnb : j + q ≤ 100000 := by omega
 have hmb : m ≤ 100000 := by omega
 have hq0 : 0 < q := by omega
 have t1 : ¬ ((i : Int) = (j : Int)) := by omega
 have t2 : ¬ ((j : Int) = (j : Int) + (q : Int)) := by omega
 have t3 : ¬ (c = i) := by omega
 have t4 : ¬ (c = j) := by omega
 have t5 : ¬ (c = i + m) := by omega
 have t6 : ¬ ((i : Int) + (m : Int) ≤ (j : Int)) := by omega
 have hij' : i ≤ j := by omega
 have hjc : j + q ≤ c := hnc
 have htn : ((i : Int) + (m : Int)).toNat = i + m := by omega
 have htn2 : ((i : Int) + (m : Int) + (q : Int)).toNat = i + m + q := by omega
 have hb1 : (0 : Int) ≤ (i : Int) + (m : Int) := by omega
 have hb2 : (0 : Int) ≤ (i : Int) + (m : Int) + (q : Int) := by omega
 have t7 : ¬ ((c : Int) < (i : Int) + (m : Int) + (q : Int)) := by omega
 have t8 : (i : Int) + (m : Int) + (q : Int) ≤ (c : Int) := by omega
 have t9 : i + m ≤ i + m + q := by omega
 clear hO1 hO2 hG1 hG2 hs1 hs2 e1 e2 hti htm hdl hca hcg hcgs hca0 hcas c1 c2 h hn hm hW1 hm2
 go_enter Tryz.func177, Tryz.ntmps177
 go_upto_region 9 with (fail)
 go_region
 go_wp2_with (simp only [hov])
 have c1 := C1.out
 go_region
 clear c1
 go_wp2_with ((refine wpList_copy_rg _ rfl (.tmp 133) (.tmp 134) rfl _ _ rfl rfl (C2.out _ _) ?_); refine unhid ?_)
 refine Lib.hid ?_
 go_wp2_with fail
 go_ret
 exact ⟨_, rfl, HO.out, HG.out, rfl⟩
set_option maxHeartbeats 1600000 in
theorem replace_grow {w : World} {base g n c : Nat} {l d : List Rg} {vb m mc i j : Nat} (h : Own w base (.slice (some ⟨g, 0, none⟩) n c) l) (hb : base ≤ w.heap.size) (hl : l.length ≤ 100000)
  (hs : Pl w vb d) (hm : m = d.length) (hm2 : m ≤ 2) (hij : i < j) (hjn : j < n) (hc : c < i + m + (n - j)) :
  Calls Tryz.prog 177 #[.slice (some ⟨g, 0, none⟩) n c, .int .i64 (i : Int), .int .i64 (j : Int), .slice (some ⟨vb, 0, none⟩) m mc] w fun e w' => ∃ v', e = .returned v' ∧ Own w' base v' (l.take i ++ (d ++ l.drop j)) ∧ w.grownBy w' none ∧ v'.ownBlock = some w.heap.size := by
 have hn := h.room.2.2.2.2.1
 have hnc := h.room.2.2.2.2.2.1
 have hcm := h.room.2.2.2.2.2.2.1
 unfold maxLen at hcm
 obtain ⟨q, rfl⟩ : ∃ q, n = j + q := ⟨n - j, by omega⟩
 rw [show j + q - j = q by omega] at hc
 have hti : (l.take i).length = i := by rw [List.length_take]; omega
 have hdl : (l.drop j).length = q := by rw [List.length_drop]; omega
 obtain ⟨C, W1, hz, hO, hG⟩ := own_zeros h.drew i (m + q) (by omega) (by omega) (by omega) (by omega) (show base ≤ w.drew.heap.size from hb)
 have ekz : ((m + q : Nat) : Int) = (i : Int) + (m : Int) + (q : Int) - (i : Int) := by omega
 rw [ekz] at hz
 rw [show i + (m + q) = i + m + q by omega] at hz hO
 obtain ⟨G, hGG⟩ : ∃ G, G = w.heap.size := ⟨_, rfl⟩
 have hGd : w.drew.heap.size = G := hGG.symm
 rw [hGd] at hz hO
 have hlen1 : (l.take i ++ List.replicate (m + q) (0, 0) : List Rg).length = i + m + q := by rw [List.length_append, hti, List.length_replicate]; omega
 have hCn : i + m + q ≤ C := hO.room.2.2.2.2.2.1
 have hgl : g < w.heap.size := h.room.2.2.1
 have hs1 := hs.cs.drew.far hG (by simp)
 have c1 : ∀ ty dc, (Builtin.copy_ #[49, 49] ty #[.slice (some ⟨G, i * 2, none⟩) (i + m + q - i) dc, .slice (some ⟨vb, 0, none⟩) m mc]).run Tryz.prog W1 = .ok (goInt d.length) (W1.setCells G (i * 2) (rcells d)) := fun ty dc =>
  copy_own hO ty hs1.2 (by rw [← hm]; exact Nat.min_eq_left (by omega)) (by omega)
 have hO2 := own_put hO (q := i) d (by rw [hlen1]; omega)
 obtain ⟨L1, hL1⟩ : ∃ L1, L1 = (l.take i ++ List.replicate (m + q) (0, 0) : List Rg).take i ++ (d ++ (l.take i ++ List.replicate (m + q) (0, 0) : List Rg).drop (i + d.length)) := ⟨_, rfl⟩
 rw [← hL1] at hO2
 have htk : L1.take (i + m) = l.take i ++ d := by
  have hA : (l.take i ++ List.replicate (m + q) (0, 0) : List Rg).take i = l.take i := by rw [List.take_append_of_le_length (by omega), List.take_take, Nat.min_self]
  have hAd : (l.take i ++ d).length = i + m := by rw [List.length_append, hti, ← hm]
  rw [hL1, hA, ← List.append_assoc, List.take_append_of_le_length (by omega), List.take_of_length_le (by omega)]
 have hgne : G ≠ g := by omega
 have hs2 := ((own_cs h.drew j).far hG (by simp)).far (grown_setCells G (rcells d) (i * 2) W1) (fun e => by injection e with e; omega)
 have hG2 : w.grownBy (W1.setCells G (i * 2) (rcells d)) none := ⟨(grown_setCells G (rcells d) (i * 2) W1).os.trans hG.os, (grown_setCells G (rcells d) (i * 2) W1).tape.trans hG.tape, (grown_setCells G (rcells d) (i * 2) W1).output.trans hG.output, Nat.le_trans hG.size (grown_setCells G (rcells d) (i * 2) W1).size, fun k hk hne => ((grown_setCells G (rcells d) (i * 2) W1).block k (Nat.lt_of_lt_of_le hk hG.size) (fun e => by injection e with e; omega)).trans (hG.block k hk hne)⟩
 obtain ⟨W2, hW2⟩ : ∃ W2, W2 = W1.setCells G (i * 2) (rcells d) := ⟨_, rfl⟩
 rw [← hW2] at c1 hO2 hs2 hG2
 have hL1l : i + m ≤ L1.length := by
  have := hO2.room.2.2.2.2.1
  omega
 have c2 : ∀ ty dc sc, (Builtin.copy_ #[49, 49] ty #[.slice (some ⟨G, (i + m) * 2, none⟩) q dc, .slice (some ⟨g, j * 2, none⟩) q sc]).run Tryz.prog W2.drew = .ok (goInt (l.drop j).length) (W2.drew.setCells G ((i + m) * 2) (rcells (l.drop j))) := fun ty dc sc =>
  copy_own hO2.drew ty hs2.drew.2 (by rw [hdl]; exact Nat.min_self _) (by rw [hdl]; omega)
 have hO3 := own_copy hO2.drew (q := i + m) (l.drop j) hL1l (by rw [hdl]; omega)
 rw [htk, hdl, List.append_assoc] at hO3
 have hG3 : w.grownBy (W2.drew.setCells G ((i + m) * 2) (rcells (l.drop j))) none := ⟨(grown_setCells G (rcells (l.drop j)) ((i + m) * 2) W2.drew).os.trans hG2.os, (grown_setCells G (rcells (l.drop j)) ((i + m) * 2) W2.drew).tape.trans hG2.tape, (grown_setCells G (rcells (l.drop j)) ((i + m) * 2) W2.drew).output.trans hG2.output, Nat.le_trans hG2.size (grown_setCells G (rcells (l.drop j)) ((i + m) * 2) W2.drew).size, fun k hk hne => ((grown_setCells G (rcells (l.drop j)) ((i + m) * 2) W2.drew).block k (Nat.lt_of_lt_of_le hk hG2.size) (fun e => by injection e with e; omega)).trans (hG2.block k hk hne)⟩
 have HZ := Lib.hid hz
 have C1 := Lib.hid c1
 have C2 := Lib.hid c2
 have HO3 := Lib.hid hO3
 have HG3 := Lib.hid hG3
 have HGG := Lib.hid hGG
 have hnb : j + q ≤ 100000 := by omega
 have hmb : m ≤ 100000 := by omega
 have hq0 : 0 < q := by omega
 have t1 : ¬ ((i : Int) = (j : Int)) := by omega
 have t2 : ¬ ((j : Int) = (j : Int) + (q : Int)) := by omega
 have t3 : ¬ (c = i) := by omega
 have t4 : ¬ (c = j) := by omega
 have t5 : ¬ (C = i + m) := by omega
 have t6 : ¬ (C = i) := by omega
 have hij' : i ≤ j := by omega
 have hjc : j + q ≤ c := hnc
 have htn : ((i : Int) + (m : Int)).toNat = i + m := by omega
 have hb1 : (0 : Int) ≤ (i : Int) + (m : Int) := by omega
 have t7 : (c : Int) < (i : Int) + (m : Int) + (q : Int) := by omega
 have t9 : i + m ≤ i + m + q := by omega
 have HSUB : Hid ((i : Int) + (m : Int) + (q : Int) - (i : Int) = (m : Int) + (q : Int)) := Lib.hid (by omega)
 have HL1 := Lib.hid hL1
 clear hz c1 c2 hO hO2 hO3 hG hG2 hG3 hs hs1 hs2 hL1 hL1l htk hlen1 h ekz hgne hdl hti hGG hGd hm hn hW2 hgl
 go_enter Tryz.func177, Tryz.ntmps177
 go_upto_region 9 with (fail)
 go_region
 go_upto_region 11 with (fail)
 go_wp2_with (at_builtin; go_loud (refine wpList_appz_rg _ rfl (.tmp 63) (.tmp 66) rfl _ _ rfl rfl (HZ.out _) ?_); refine unhid ?_)
 refine Lib.hid ?_
 go_wp2_with ((refine wpList_copy_rg _ rfl (.tmp 70) (.tmp 71) rfl _ _ rfl rfl (C1.out _ _) ?_); refine unhid ?_)
 refine Lib.hid ?_
 go_upto_region 13 with (fail)
 have c2 := C2.out
 go_region
 clear c2
 go_wp2_with fail
 go_ret
 exact ⟨_, rfl, HO3.out, HG3.out, congrArg some HGG.out⟩
end Sp
end Go.Proofs.YtgbehfkimchglaaGreatDoor
namespace Go.Proofs.YtgbehfkimchglaaGreatDoor
open Go Go.RowKit
set_option maxRecDepth 100000
set_option linter.unusedVariables false
namespace Sp
theorem run_append_room2 {w : World} {base g n c m : Nat} {x : Value} {l d : List Rg} (h : Own w base (.slice (some ⟨g, 0, none⟩) n c) l) (hs : Sr w x d) (hm : m = d.length) {i : Nat} (hi : i + m ≤ c) (ty : TypeId) :
  (Builtin.append_ #[49, 49] ty #[.slice (some ⟨g, 0, none⟩) i c, x]).run Tryz.prog w = .ok (.slice (some ⟨g, 0, none⟩) (i + m) c) (w.setCells g (i * 2) (rcells d)) := by
 obtain ⟨i0, hi0, hz0, hz1, hz2⟩ := info_parts infoR
 have r1 := h.room.1
 have r2 := h.room.2.1
 have hr := run_append_room_src (P := Tryz.prog) w 49 49 ty 61 i0 Tryz.underlying49 hi0 g 0 i c x d.length (rcells d) (by rw [hz1]; exact hs) (by omega)
  (fun j hj => by rw [hz1, Nat.zero_add]; rw [rcells_length] at hj; exact r1 _ (by omega)) (fun j _ => r2 _)
 rw [hz1, Nat.zero_add, ← hm] at hr
 exact hr
theorem wpList_app_rg (w : World) {ops : Array Oper} {rest : List Oper} {o : Oper} {a : Act} {Q : Exit → Act → World → Prop} (hgd : o.guard = none) (s y : Operand)
  (ho : o.op = .call { callee := .builtin .append, args := #[s, y], argTypes := #[49, 49] }) (v u : Value) (hd : a.eval s = v) (hs : a.eval y = u) {v' : Value} {w' : World}
  (hr : (Builtin.append_ #[49, 49] o.type #[v, u]).run Tryz.prog w = .ok v' w') (h : wpList Tryz.prog ops Q rest (a.put o.dst v') w') : wpList Tryz.prog ops Q (o :: rest) a w := by
 refine wpList_plain hgd fun K hK' => ?_
 unfold Oper.wp execOp
 simp only [ho, resolve, invoke, builtin, Sem.run_bind, Sem.run_pure, Result.andThen_ok, List.map_toArray, List.map_cons, List.map_nil, hd, hs, hr]
 exact hK' _ _ h
set_option maxHeartbeats 1600000 in
theorem replace_end_less {w : World} {base g n c : Nat} {l d : List Rg} {x : Value} {m i : Nat} (h : Own w base (.slice (some ⟨g, 0, none⟩) n c) l) (hl : l.length ≤ 100000)
  (hx : Put w g x m d) (hij : i + m < n) :
  Calls Tryz.prog 177 #[.slice (some ⟨g, 0, none⟩) n c, .int .i64 (i : Int), .int .i64 (n : Int), x] w fun e w' => ∃ v', e = .returned v' ∧ Own w' base v' (l.take i ++ d) ∧ w.grownBy w' (some g) ∧ v'.ownBlock = some g := by
 have hn := h.room.2.2.2.2.1
 have hnc := h.room.2.2.2.2.2.1
 have hcm := h.room.2.2.2.2.2.2.1
 unfold maxLen at hcm
 have hm := hx.1
 obtain ⟨A, mc, rfl⟩ := hx.shape
 have c1 := run_append_room2 h hx.sr hm (i := i) (by omega)
 have hO1 := own_copy h (q := i) d (by omega) (by omega)
 rw [← hm] at hO1
 have hG1 := grown_setCells g (rcells d) (i * 2) w
 obtain ⟨W1, hW1⟩ : ∃ W1, W1 = w.setCells g (i * 2) (rcells d) := ⟨_, rfl⟩
 rw [← hW1] at c1 hO1 hG1
 have r1 := hO1.room.1
 have r2 := hO1.room.2.1
 have c3 : ∀ ty dc, (Builtin.clear_ #[49] ty #[.slice (some ⟨g, (i + m) * 2, none⟩) (n - (i + m)) dc]).run Tryz.prog W1 = .ok (.tuple #[]) (W1.setCells g ((i + m) * 2) (List.replicate ((n - (i + m)) * 2) (.int .i64 0))) := fun ty dc =>
  run_clear2 W1 ty g ((i + m) * 2) (n - (i + m)) dc (fun k hk => r1 _ (by omega)) (fun k hk => r2 _)
 have hO2 := own_behind hO1 (o := (i + m) * 2) (List.replicate ((n - (i + m)) * 2) (.int .i64 0)) (by rw [List.length_append, List.length_take]; omega)
 have hG2 := grown_tr hG1 (grown_setCells g (List.replicate ((n - (i + m)) * 2) (.int .i64 0)) ((i + m) * 2) W1)
 have C1 := Lib.hid c1
 have C3 := Lib.hid c3
 have HO := Lib.hid hO2
 have HG := Lib.hid hG2
 have hnb : n ≤ 100000 := by omega
 have hmb : m ≤ 100000 := by omega
 have t1 : ¬ ((i : Int) = (n : Int)) := by omega
 have t3 : ¬ (c = i) := by omega
 have t5 : ¬ (c = i + m) := by omega
 have hin : i ≤ n := by omega
 have hic : i + m ≤ n := by omega
 have t6 : (i : Int) + (m : Int) < (n : Int) := by omega
 clear hO1 hO2 hG1 hG2 hx r1 r2 c1 c3 h hn hm hW1
 go_enter Tryz.func177, Tryz.ntmps177
 go_wp2_with (at_builtin; go_loud (refine wpList_app_rg _ rfl (.tmp 32) (.tmp 33) rfl _ _ rfl rfl (C1.out _) ?_); refine unhid ?_)
 refine Lib.hid ?_
 go_wp2_with ((refine wpList_clear_rg _ rfl (.tmp 43) rfl _ rfl (C3.out _ _) ?_); refine unhid ?_)
 refine Lib.hid ?_
 go_wp2_with fail
 go_ret
 exact ⟨_, rfl, HO.out, HG.out, rfl⟩
set_option maxHeartbeats 1600000 in
theorem replace_end_more {w : World} {base g n c : Nat} {l d : List Rg} {x : Value} {m i : Nat} (h : Own w base (.slice (some ⟨g, 0, none⟩) n c) l) (hb : base ≤ w.heap.size) (hl : l.length ≤ 100000)
  (hx : Put w g x m d) (hm2 : m ≤ 2) (hin : i < n) (hij : n ≤ i + m) :
  Calls Tryz.prog 177 #[.slice (some ⟨g, 0, none⟩) n c, .int .i64 (i : Int), .int .i64 (n : Int), x] w fun e w' => ∃ v', e = .returned v' ∧ Own w' base v' (l.take i ++ d) ∧ w.grownBy w' (some g) ∧ (v'.ownBlock = some g ∨ v'.ownBlock = some w.heap.size) := by
 have hn := h.room.2.2.2.2.1
 have hnc := h.room.2.2.2.2.2.1
 have hcm := h.room.2.2.2.2.2.2.1
 unfold maxLen at hcm
 have hm := hx.1
 obtain ⟨A, mc, rfl⟩ := hx.shape
 have HT := Lib.hid (h.take (i := i) (by omega))
 have HS := Lib.hid hx.sr
 have HB := Lib.hid hb
 have HSZ : Hid ((l.take i).length + d.length ≤ 1000000) := Lib.hid (by rw [List.length_take]; omega)
 have HLL : Hid ((l.take i ++ d).length = i + m) := Lib.hid (by rw [List.length_append, List.length_take]; omega)
 have hnb : n ≤ 100000 := by omega
 have hmb : m ≤ 100000 := by omega
 have t1 : ¬ ((i : Int) = (n : Int)) := by omega
 have t3 : ¬ (c = i) := by omega
 have hin' : i ≤ n := by omega
 have t6 : ¬ ((i : Int) + (m : Int) < (n : Int)) := by omega
 clear hx h hn hm hm2 hij
 go_enter Tryz.func177, Tryz.ntmps177
 go_wp2_with (at_builtin; refine wpList_append_rg rfl (.tmp 32) (.tmp 33) rfl rfl rfl HT.out HS.out HSZ.out HB.out ?_; intro v' w' ho hg hor; refine unhid ?_)
 refine Lib.hid ?_
 obtain ⟨A', c', rfl, _, _, _, _⟩ := ho.shape
 have O := Lib.hid (⟨ho, hg, hor⟩ : _ ∧ _ ∧ _)
 rw [HLL.out] at O ⊢
 clear ho hg hor
 go_wp2_with fail
 go_ret
 exact ⟨_, rfl, O.out⟩
set_option maxHeartbeats 1600000 in
theorem replace_ins {w : World} {base : Nat} {A : Option Addr} {n c i m : Nat} {x : Value} {R : Value → World → Prop} (hin : i ≤ n) (hnb : n ≤ 100000) (hnc : n ≤ c) (hcm : c ≤ maxLen) (hA : A = none → c = 0) (hx : ∃ X mc, x = .slice X m mc)
  (h : Calls Tryz.prog 206 #[.slice A n c, .int .i64 (i : Int), x] w fun e w' => ∃ v', e = .returned v' ∧ R v' w') :
  Calls Tryz.prog 177 #[.slice A n c, .int .i64 (i : Int), .int .i64 (i : Int), x] w fun e w' => ∃ v', e = .returned v' ∧ R v' w' := by
 have HH := Lib.hid h
 obtain ⟨X, mc, rfl⟩ := hx
 unfold maxLen at hcm
 clear h
 cases A with
 | none =>
  obtain rfl := hA rfl
  obtain rfl : n = 0 := by omega
  obtain rfl : i = 0 := by omega
  go_enter Tryz.func177, Tryz.ntmps177
  go_wp2_with fail
  refine HH.out.mono ?_
  rintro e w' ⟨v', rfl, hq⟩
  have HQ := Lib.hid hq
  clear hq
  go_wp2_with fail
  go_ret
  exact ⟨_, rfl, HQ.out⟩
 | some ad =>
  obtain ⟨ab, ao, asp⟩ := ad
  by_cases hci : c = i
  ·subst hci
   go_enter Tryz.func177, Tryz.ntmps177
   go_wp2_with fail
   refine HH.out.mono ?_
   rintro e w' ⟨v', rfl, hq⟩
   have HQ := Lib.hid hq
   clear hq
   go_wp2_with fail
   go_ret
   exact ⟨_, rfl, HQ.out⟩
  ·go_enter Tryz.func177, Tryz.ntmps177
   go_wp2_with fail
   refine HH.out.mono ?_
   rintro e w' ⟨v', rfl, hq⟩
   have HQ := Lib.hid hq
   clear hq
   go_wp2_with fail
   go_ret
   exact ⟨_, rfl, HQ.out⟩
end Sp
end Go.Proofs.YtgbehfkimchglaaGreatDoor
