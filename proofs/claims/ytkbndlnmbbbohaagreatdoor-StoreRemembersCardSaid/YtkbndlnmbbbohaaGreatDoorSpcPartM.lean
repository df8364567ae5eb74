/-
 'slices.Replace' of ranges in the call's own row by contracts: more is put than is struck; at the end. Conditions: the rows are short; what is put lies in a block of its own.
-/
import Derived.Test.YtkbndlnmbbbohaaGreatDoorSpcRepM
import Derived.Deep.LoopGhost
import Derived.Test.YtkbndlnmbbbohaaGreatDoorArrCallsM
namespace Go.Proofs.YtkbndlnmbbbohaaGreatDoor
open Go Go.RowKit
set_option maxRecDepth 100000
set_option linter.unusedVariables false
namespace Sp
set_option maxHeartbeats 1600000 in
theorem replace_more {w : World} {base g n c : Nat} {l d : List Rg} {vb m mc i j : Nat} (h : Own w base (.slice (some ⟨g, 0, none⟩) n c) l) (hl : l.length ≤ 100000)
  (hs : Pl w vb d) (hne : vb ≠ g) (hm : m = d.length) (hij : i < j) (hm2 : j < i + m) (hjn : j < n) (him : i + m ≤ n) (hc : i + m + (n - j) ≤ c) :
  Calls Tryz.prog 111 #[.slice (some ⟨g, 0, none⟩) n c, .int .i64 (i : Int), .int .i64 (j : Int), .slice (some ⟨vb, 0, none⟩) m mc] w fun e w' => ∃ v', e = .returned v' ∧ Own w' base v' (l.take i ++ (d ++ l.drop j)) ∧ w.grownBy w' (some g) ∧ v'.ownBlock = some g := by
 have hn := h.room.2.2.2.2.1
 have hnc := h.room.2.2.2.2.2.1
 have hcm := h.room.2.2.2.2.2.2.1
 unfold maxLen at hcm
 obtain ⟨q, rfl⟩ : ∃ q, n = j + q := ⟨n - j, by omega⟩
 rw [show j + q - j = q by omega] at hc
 have hti : (l.take i).length = i := by rw [List.length_take]; omega
 have htm : (l.take (i + m)).length = i + m := by rw [List.length_take]; omega
 have hdl : (l.drop j).length = q := by rw [List.length_drop]; omega
 obtain ⟨ca, hca, hcas⟩ := hs
 obtain ⟨cg, hcg, hcgs⟩ := h.blk
 have hca0 : ca.size ≠ 0 := fun e => by
  match d, hm, hcas with
  | [], hm, _ => simp at hm; omega
  | r :: d', _, hcas =>
   have := hcas 0 _ rfl
   rw [Array.getElem?_eq_none (by omega)] at this
   cases this
 have hov : ∀ lb cb, (callFunc 137 #[.slice (some ⟨g, (i + m) * 2, none⟩) lb cb, .slice (some ⟨vb, 0, none⟩) m mc]).run Tryz.prog w.drew = .ok (.value (.bool false)) w.drew := fun lb cb => overlaps_no hcg.drew hca.drew (fun e => hne e.symm) hca0 (hcg.drew.frozen _)
 have c1 : ∀ ty dc sc, (Builtin.copy_ #[46, 46] ty #[.slice (some ⟨g, (i + m) * 2, none⟩) q dc, .slice (some ⟨g, j * 2, none⟩) q sc]).run Tryz.prog w.drew.drew = .ok (goInt (l.drop j).length) (w.drew.drew.setCells g ((i + m) * 2) (rcells (l.drop j))) := fun ty dc sc =>
  copy_own h.drew.drew ty (own_cells h.drew.drew j) (by rw [hdl]; exact Nat.min_self _) (by rw [hdl]; omega)
 have hO1 := own_copy h.drew.drew (q := i + m) (l.drop j) (by omega) (by rw [hdl]; omega)
 rw [hdl] at hO1
 have hs1 := Pl.cs (w := w) (b := vb) (d := d) ⟨ca, hca, hcas⟩
 have hs2 := (hs1.drew.drew.set (g := g) (p := (i + m) * 2) (vs := rcells (l.drop j)) (.inl hne))
 have hG1 : w.grownBy (w.drew.drew.setCells g ((i + m) * 2) (rcells (l.drop j))) (some g) := by
  have h := grown_drew w.drew g ((i + m) * 2) (rcells (l.drop j))
  exact ⟨h.os, h.tape, h.output, h.size, h.block⟩
 obtain ⟨W1, hW1⟩ : ∃ W1, W1 = w.drew.drew.setCells g ((i + m) * 2) (rcells (l.drop j)) := ⟨_, rfl⟩
 rw [← hW1] at hO1 hs2 hG1 c1
 have c2 : ∀ ty dc, (Builtin.copy_ #[46, 46] ty #[.slice (some ⟨g, i * 2, none⟩) (i + m + q - i) dc, .slice (some ⟨vb, 0, none⟩) m mc]).run Tryz.prog W1 = .ok (goInt d.length) (W1.setCells g (i * 2) (rcells d)) := fun ty dc =>
  copy_own hO1 ty hs2.2 (by rw [← hm]; exact Nat.min_eq_left (by omega)) (by omega)
 have hO2 := own_put hO1 (q := i) d (by rw [List.length_append, htm, hdl]; omega)
 have e1 : (l.take (i + m) ++ l.drop j).take i = l.take i := by rw [List.take_append_of_le_length (by omega), List.take_take, Nat.min_eq_left (by omega)]
 have e2 : (l.take (i + m) ++ l.drop j).drop (i + d.length) = l.drop j := by rw [← hm, List.drop_append_of_le_length (by omega), List.drop_of_length_le (by omega), List.nil_append]
 rw [e1, e2] at hO2
 have hG2 := grown_tr hG1 (grown_setCells g (rcells d) (i * 2) W1)
 have C1 := Lib.hid c1
 have C2 := Lib.hid c2
 have HO := Lib.hid hO2
 have HG := Lib.hid hG2
 have hnb : j + q ≤ 100000 := by omega
 have hmb : m ≤ 100000 := by omega
 have hq0 : 0 < q := by omega
 have t1 : ¬ ((i : Int) = (j : Int)) := by omega
 have t2 : ¬ ((j : Int) = (j : Int) + (q : Int)) := by omega
 have t3 : ¬ (c = i) := by omega
 have t4 : ¬ (c = j) := by omega
 have t5 : ¬ (c = i + m) := by omega
 have t6 : ¬ ((i : Int) + (m : Int) ≤ (j : Int)) := by omega
 have hij' : i ≤ j := by omega
 have hjc : j + q ≤ c := hnc
 have htn : ((i : Int) + (m : Int)).toNat = i + m := by omega
 have htn2 : ((i : Int) + (m : Int) + (q : Int)).toNat = i + m + q := by omega
 have hb1 : (0 : Int) ≤ (i : Int) + (m : Int) := by omega
 have hb2 : (0 : Int) ≤ (i : Int) + (m : Int) + (q : Int) := by omega
 have t7 : ¬ ((c : Int) < (i : Int) + (m : Int) + (q : Int)) := by omega
 have t8 : (i : Int) + (m : Int) + (q : Int) ≤ (c : Int) := by omega
 have t9 : i + m ≤ i + m + q := by omega
 clear hO1 hO2 hG1 hG2 hs1 hs2 e1 e2 hti htm hdl hca hcg hcgs hca0 hcas c1 c2 h hn hm hW1 hm2
 go_enter Tryz.func111, Tryz.ntmps111
 go_upto_region 9 with (fail)
 go_region
 go_wp2_with (simp only [hov])
 have c1 := C1.out
 go_region
 clear c1
 go_wp2_with ((refine wpList_copy_rg _ rfl (.tmp 133) (.tmp 134) rfl _ _ rfl rfl (C2.out _ _) ?_); refine unhid ?_)
 refine Lib.hid ?_
 go_wp2_with fail
 go_ret
 exact ⟨_, rfl, HO.out, HG.out, rfl⟩
set_option maxHeartbeats 1600000 in
theorem replace_grow {w : World} {base g n c : Nat} {l d : List Rg} {vb m mc i j : Nat} (h : Own w base (.slice (some ⟨g, 0, none⟩) n c) l) (hb : base ≤ w.heap.size) (hl : l.length ≤ 100000)
  (hs : Pl w vb d) (hm : m = d.length) (hm2 : m ≤ 2) (hij : i < j) (hjn : j < n) (hc : c < i + m + (n - j)) :
  Calls Tryz.prog 111 #[.slice (some ⟨g, 0, none⟩) n c, .int .i64 (i : Int), .int .i64 (j : Int), .slice (some ⟨vb, 0, none⟩) m mc] w fun e w' => ∃ v', e = .returned v' ∧ Own w' base v' (l.take i ++ (d ++ l.drop j)) ∧ w.grownBy w' none ∧ v'.ownBlock = some w.heap.size := by
 have hn := h.room.2.2.2.2.1
 have hnc := h.room.2.2.2.2.2.1
 have hcm := h.room.2.2.2.2.2.2.1
 unfold maxLen at hcm
 obtain ⟨q, rfl⟩ : ∃ q, n = j + q := ⟨n - j, by omega⟩
 rw [show j + q - j = q by omega] at hc
 have hti : (l.take i).length = i := by rw [List.length_take]; omega
 have hdl : (l.drop j).length = q := by rw [List.length_drop]; omega
 obtain ⟨C, W1, hz, hO, hG⟩ := own_zeros h.drew i (m + q) (by omega) (by omega) (by omega) (by omega) (show base ≤ w.drew.heap.size from hb)
 have ekz : ((m + q : Nat) : Int) = (i : Int) + (m : Int) + (q : Int) - (i : Int) := by omega
 rw [ekz] at hz
 rw [show i + (m + q) = i + m + q by omega] at hz hO
 obtain ⟨G, hGG⟩ : ∃ G, G = w.heap.size := ⟨_, rfl⟩
 have hGd : w.drew.heap.size = G := hGG.symm
 rw [hGd] at hz hO
 have hlen1 : (l.take i ++ List.replicate (m + q) (0, 0) : List Rg).length = i + m + q := by rw [List.length_append, hti, List.length_replicate]; omega
 have hCn : i + m + q ≤ C := hO.room.2.2.2.2.2.1
 have hgl : g < w.heap.size := h.room.2.2.1
 have hs1 := hs.cs.drew.far hG (by simp)
 have c1 : ∀ ty dc, (Builtin.copy_ #[46, 46] ty #[.slice (some ⟨G, i * 2, none⟩) (i + m + q - i) dc, .slice (some ⟨vb, 0, none⟩) m mc]).run Tryz.prog W1 = .ok (goInt d.length) (W1.setCells G (i * 2) (rcells d)) := fun ty dc =>
  copy_own hO ty hs1.2 (by rw [← hm]; exact Nat.min_eq_left (by omega)) (by omega)
 have hO2 := own_put hO (q := i) d (by rw [hlen1]; omega)
 obtain ⟨L1, hL1⟩ : ∃ L1, L1 = (l.take i ++ List.replicate (m + q) (0, 0) : List Rg).take i ++ (d ++ (l.take i ++ List.replicate (m + q) (0, 0) : List Rg).drop (i + d.length)) := ⟨_, rfl⟩
 rw [← hL1] at hO2
 have htk : L1.take (i + m) = l.take i ++ d := by
  have hA : (l.take i ++ List.replicate (m + q) (0, 0) : List Rg).take i = l.take i := by rw [List.take_append_of_le_length (by omega), List.take_take, Nat.min_self]
  have hAd : (l.take i ++ d).length = i + m := by rw [List.length_append, hti, ← hm]
  rw [hL1, hA, ← List.append_assoc, List.take_append_of_le_length (by omega), List.take_of_length_le (by omega)]
 have hgne : G ≠ g := by omega
 have hs2 := ((own_cs h.drew j).far hG (by simp)).far (grown_setCells G (rcells d) (i * 2) W1) (fun e => by injection e with e; omega)
 have hG2 : w.grownBy (W1.setCells G (i * 2) (rcells d)) none := ⟨(grown_setCells G (rcells d) (i * 2) W1).os.trans hG.os, (grown_setCells G (rcells d) (i * 2) W1).tape.trans hG.tape, (grown_setCells G (rcells d) (i * 2) W1).output.trans hG.output, Nat.le_trans hG.size (grown_setCells G (rcells d) (i * 2) W1).size, fun k hk hne => ((grown_setCells G (rcells d) (i * 2) W1).block k (Nat.lt_of_lt_of_le hk hG.size) (fun e => by injection e with e; omega)).trans (hG.block k hk hne)⟩
 obtain ⟨W2, hW2⟩ : ∃ W2, W2 = W1.setCells G (i * 2) (rcells d) := ⟨_, rfl⟩
 rw [← hW2] at c1 hO2 hs2 hG2
 have hL1l : i + m ≤ L1.length := by
  have := hO2.room.2.2.2.2.1
  omega
 have c2 : ∀ ty dc sc, (Builtin.copy_ #[46, 46] ty #[.slice (some ⟨G, (i + m) * 2, none⟩) q dc, .slice (some ⟨g, j * 2, none⟩) q sc]).run Tryz.prog W2.drew = .ok (goInt (l.drop j).length) (W2.drew.setCells G ((i + m) * 2) (rcells (l.drop j))) := fun ty dc sc =>
  copy_own hO2.drew ty hs2.drew.2 (by rw [hdl]; exact Nat.min_self _) (by rw [hdl]; omega)
 have hO3 := own_copy hO2.drew (q := i + m) (l.drop j) hL1l (by rw [hdl]; omega)
 rw [htk, hdl, List.append_assoc] at hO3
 have hG3 : w.grownBy (W2.drew.setCells G ((i + m) * 2) (rcells (l.drop j))) none := ⟨(grown_setCells G (rcells (l.drop j)) ((i + m) * 2) W2.drew).os.trans hG2.os, (grown_setCells G (rcells (l.drop j)) ((i + m) * 2) W2.drew).tape.trans hG2.tape, (grown_setCells G (rcells (l.drop j)) ((i + m) * 2) W2.drew).output.trans hG2.output, Nat.le_trans hG2.size (grown_setCells G (rcells (l.drop j)) ((i + m) * 2) W2.drew).size, fun k hk hne => ((grown_setCells G (rcells (l.drop j)) ((i + m) * 2) W2.drew).block k (Nat.lt_of_lt_of_le hk hG2.size) (fun e => by injection e with e; omega)).trans (hG2.block k hk hne)⟩
 have HZ := Lib.hid hz
 have C1 := Lib.hid c1
 have C2 := Lib.hid c2
 have HO3 := Lib.hid hO3
 have HG3 := Lib.hid hG3
 have HGG := Lib.hid hGG
 have hnb : j + q ≤ 100000 := by omega
 have hmb : m ≤ 100000 := by omega
 have hq0 : 0 < q := by omega
 have t1 : ¬ ((i : Int) = (j : Int)) := by omega
 have t2 : ¬ ((j : Int) = (j : Int) + (q : Int)) := by omega
 have t3 : ¬ (c = i) := by omega
 have t4 : ¬ (c = j) := by omega
 have t5 : ¬ (C = i + m) := by omega
 have t6 : ¬ (C = i) := by omega
 have hij' : i ≤ j := by omega
 have hjc : j + q ≤ c := hnc
 have htn : ((i : Int) + (m : Int)).toNat = i + m := by omega
 have hb1 : (0 : Int) ≤ (i : Int) + (m : Int) := by omega
 have t7 : (c : Int) < (i : Int) + (m : Int) + (q : Int) := by omega
 have t9 : i + m ≤ i + m + q := by omega
 have HSUB : Hid ((i : Int) + (m : Int) + (q : Int) - (i : Int) = (m : Int) + (q : Int)) := Lib.hid (by omega)
 have HL1 := Lib.hid hL1
 clear hz c1 c2 hO hO2 hO3 hG hG2 hG3 hs hs1 hs2 hL1 hL1l htk hlen1 h ekz hgne hdl hti hGG hGd hm hn hW2 hgl
 go_enter Tryz.func111, Tryz.ntmps111
 go_upto_region 9 with (fail)
 go_region
 go_upto_region 11 with (fail)
 go_wp2_with (at_builtin; go_loud (refine wpList_appz_rg _ rfl (.tmp 63) (.tmp 66) rfl _ _ rfl rfl (HZ.out _) ?_); refine unhid ?_)
 refine Lib.hid ?_
 go_wp2_with ((refine wpList_copy_rg _ rfl (.tmp 70) (.tmp 71) rfl _ _ rfl rfl (C1.out _ _) ?_); refine unhid ?_)
 refine Lib.hid ?_
 go_upto_region 13 with (fail)
 have c2 := C2.out
 go_region
 clear c2
 go_wp2_with fail
 go_ret
 exact ⟨_, rfl, HO3.out, HG3.out, congrArg some HGG.out⟩
end Sp
end Go.Proofs.YtkbndlnmbbbohaaGreatDoor
namespace Go.Proofs.YtkbndlnmbbbohaaGreatDoor
open Go Go.RowKit
set_option maxRecDepth 100000
set_option linter.unusedVariables false
namespace Sp
theorem run_append_room2 {w : World} {base g n c m : Nat} {x : Value} {l d : List Rg} (h : Own w base (.slice (some ⟨g, 0, none⟩) n c) l) (hs : Sr w x d) (hm : m = d.length) {i : Nat} (hi : i + m ≤ c) (ty : TypeId) :
  (Builtin.append_ #[46, 46] ty #[.slice (some ⟨g, 0, none⟩) i c, x]).run Tryz.prog w = .ok (.slice (some ⟨g, 0, none⟩) (i + m) c) (w.setCells g (i * 2) (rcells d)) := by
 obtain ⟨i0, hi0, hz0, hz1, hz2⟩ := info_parts infoR
 have r1 := h.room.1
 have r2 := h.room.2.1
 have hr := run_append_room_src (P := Tryz.prog) w 46 46 ty 115 i0 Tryz.underlying46 hi0 g 0 i c x d.length (rcells d) (by rw [hz1]; exact hs) (by omega)
  (fun j hj => by rw [hz1, Nat.zero_add]; rw [rcells_length] at hj; exact r1 _ (by omega)) (fun j _ => r2 _)
 rw [hz1, Nat.zero_add, ← hm] at hr
 exact hr
theorem wpList_app_rg (w : World) {ops : Array Oper} {rest : List Oper} {o : Oper} {a : Act} {Q : Exit → Act → World → Prop} (hgd : o.guard = none) (s y : Operand)
  (ho : o.op = .call { callee := .builtin .append, args := #[s, y], argTypes := #[46, 46] }) (v u : Value) (hd : a.eval s = v) (hs : a.eval y = u) {v' : Value} {w' : World}
  (hr : (Builtin.append_ #[46, 46] o.type #[v, u]).run Tryz.prog w = .ok v' w') (h : wpList Tryz.prog ops Q rest (a.put o.dst v') w') : wpList Tryz.prog ops Q (o :: rest) a w := by
 refine wpList_plain hgd fun K hK' => ?_
 unfold Oper.wp execOp
 simp only [ho, resolve, invoke, builtin, Sem.run_bind, Sem.run_pure, Result.andThen_ok, List.map_toArray, List.map_cons, List.map_nil, hd, hs, hr]
 exact hK' _ _ h
set_option maxHeartbeats 1600000 in
theorem replace_end_less {w : World} {base g n c : Nat} {l d : List Rg} {x : Value} {m i : Nat} (h : Own w base (.slice (some ⟨g, 0, none⟩) n c) l) (hl : l.length ≤ 100000)
  (hx : Put w g x m d) (hij : i + m < n) :
  Calls Tryz.prog 111 #[.slice (some ⟨g, 0, none⟩) n c, .int .i64 (i : Int), .int .i64 (n : Int), x] w fun e w' => ∃ v', e = .returned v' ∧ Own w' base v' (l.take i ++ d) ∧ w.grownBy w' (some g) ∧ v'.ownBlock = some g := by
 have hn := h.room.2.2.2.2.1
 have hnc := h.room.2.2.2.2.2.1
 have hcm := h.room.2.2.2.2.2.2.1
 unfold maxLen at hcm
 have hm := hx.1
 obtain ⟨A, mc, rfl⟩ := hx.shape
 have c1 := run_append_room2 h hx.sr hm (i := i) (by omega)
 have hO1 := own_copy h (q := i) d (by omega) (by omega)
 rw [← hm] at hO1
 have hG1 := grown_setCells g (rcells d) (i * 2) w
 obtain ⟨W1, hW1⟩ : ∃ W1, W1 = w.setCells g (i * 2) (rcells d) := ⟨_, rfl⟩
 rw [← hW1] at c1 hO1 hG1
 have r1 := hO1.room.1
 have r2 := hO1.room.2.1
 have c3 : ∀ ty dc, (Builtin.clear_ #[46] ty #[.slice (some ⟨g, (i + m) * 2, none⟩) (n - (i + m)) dc]).run Tryz.prog W1 = .ok (.tuple #[]) (W1.setCells g ((i + m) * 2) (List.replicate ((n - (i + m)) * 2) (.int .i64 0))) := fun ty dc =>
  run_clear2 W1 ty g ((i + m) * 2) (n - (i + m)) dc (fun k hk => r1 _ (by omega)) (fun k hk => r2 _)
 have hO2 := own_behind hO1 (o := (i + m) * 2) (List.replicate ((n - (i + m)) * 2) (.int .i64 0)) (by rw [List.length_append, List.length_take]; omega)
 have hG2 := grown_tr hG1 (grown_setCells g (List.replicate ((n - (i + m)) * 2) (.int .i64 0)) ((i + m) * 2) W1)
 have C1 := Lib.hid c1
 have C3 := Lib.hid c3
 have HO := Lib.hid hO2
 have HG := Lib.hid hG2
 have hnb : n ≤ 100000 := by omega
 have hmb : m ≤ 100000 := by omega
 have t1 : ¬ ((i : Int) = (n : Int)) := by omega
 have t3 : ¬ (c = i) := by omega
 have t5 : ¬ (c = i + m) := by omega
 have hin : i ≤ n := by omega
 have hic : i + m ≤ n := by omega
 have t6 : (i : Int) + (m : Int) < (n : Int) := by omega
 clear hO1 hO2 hG1 hG2 hx r1 r2 c1 c3 h hn hm hW1
 go_enter Tryz.func111, Tryz.ntmps111
 go_wp2_with (at_builtin; go_loud (refine wpList_app_rg _ rfl (.tmp 32) (.tmp 33) rfl _ _ rfl rfl (C1.out _) ?_); refine unhid ?_)
 refine Lib.hid ?_
 go_wp2_with ((refine wpList_clear_rg _ rfl (.tmp 43) rfl _ rfl (C3.out _ _) ?_); refine unhid ?_)
 refine Lib.hid ?_
 go_wp2_with fail
 go_ret
 exact ⟨_, rfl, HO.out, HG.out, rfl⟩
set_option maxHeartbeats 1600000 in
theorem replace_end_more {w : World} {base g n c : Nat} {l d : List Rg} {x : Value} {m i : Nat} (h : Own w base (.slice (some ⟨g, 0, none⟩) n c) l) (hb : base ≤ w.heap.size) (hl : l.length ≤ 100000)
  (hx : Put w g x m d) (hm2 : m ≤ 2) (hin : i < n) (hij : n ≤ i + m) :
  Calls Tryz.prog 111 #[.slice (some ⟨g, 0, none⟩) n c, .int .i64 (i : Int), .int .i64 (n : Int), x] w fun e w' => ∃ v', e = .returned v' ∧ Own w' base v' (l.take i ++ d) ∧ w.grownBy w' (some g) ∧ (v'.ownBlock = some g ∨ v'.ownBlock = some w.heap.size) := by
 have hn := h.room.2.2.2.2.1
 have hnc := h.room.2.2.2.2.2.1
 have hcm := h.room.2.2.2.2.2.2.1
 unfold maxLen at hcm
 have hm := hx.1
 obtain ⟨A, mc, rfl⟩ := hx.shape
 have HT := Lib.hid (h.take (i := i) (by omega))
 have HS := Lib.hid hx.sr
 have HB := Lib.hid hb
 have HSZ : Hid ((l.take i).length + d.length ≤ 1000000) := Lib.hid (by rw [List.length_take]; omega)
 have HLL : Hid ((l.take i ++ d).length = i + m) := Lib.hid (by rw [List.length_append, List.length_take]; omega)
 have hnb : n ≤ 100000 := by omega
 have hmb : m ≤ 100000 := by omega
 have t1 : ¬ ((i : Int) = (n : Int)) := by omega
 have t3 : ¬ (c = i) := by omega
 have hin' : i ≤ n := by omega
 have t6 : ¬ ((i : Int) + (m : Int) < (n : Int)) := by omega
 clear hx h hn hm hm2 hij
 go_enter Tryz.func111, Tryz.ntmps111
 go_wp2_with (at_builtin; refine wpList_append_rg rfl (.tmp 32) (.tmp 33) rfl rfl rfl HT.out HS.out HSZ.out HB.out ?_; intro v' w' ho hg hor; refine unhid ?_)
 refine Lib.hid ?_
 obtain ⟨A', c', rfl, _, _, _, _⟩ := ho.shape
 have O := Lib.hid (⟨ho, hg, hor⟩ : _ ∧ _ ∧ _)
 rw [HLL.out] at O ⊢
 clear ho hg hor
 go_wp2_with fail
 go_ret
 exact ⟨_, rfl, O.out⟩
set_option maxHeartbeats 1600000 in
theorem replace_ins {w : World} {base : Nat} {A : Option Addr} {n c i m : Nat} {x : Value} {R : Value → World → Prop} (hin : i ≤ n) (hnb : n ≤ 100000) (hnc : n ≤ c) (hcm : c ≤ maxLen) (hA : A = none → c = 0) (hx : ∃ X mc, x = .slice X m mc)
  (h : Calls Tryz.prog 136 #[.slice A n c, .int .i64 (i : Int), x] w fun e w' => ∃ v', e = .returned v' ∧ R v' w') :
  Calls Tryz.prog 111 #[.slice A n c, .int .i64 (i : Int), .int .i64 (i : Int), x] w fun e w' => ∃ v', e = .returned v' ∧ R v' w' := by
 have HH := Lib.hid h
 obtain ⟨X, mc, rfl⟩ := hx
 unfold maxLen at hcm
 clear h
 cases A with
 | none =>
  obtain rfl := hA rfl
  obtain rfl : n = 0 := by omega
  obtain rfl : i = 0 := by omega
  go_enter Tryz.func111, Tryz.ntmps111
  go_wp2_with fail
  refine HH.out.mono ?_
  rintro e w' ⟨v', rfl, hq⟩
  have HQ := Lib.hid hq
  clear hq
  go_wp2_with fail
  go_ret
  exact ⟨_, rfl, HQ.out⟩
 | some ad =>
  obtain ⟨ab, ao, asp⟩ := ad
  by_cases hci : c = i
  ·subst hci
   go_enter Tryz.func111, Tryz.ntmps111
   go_wp2_with fail
   refine HH.out.mono ?_
   rintro e w' ⟨v', rfl, hq⟩
   have HQ := Lib.hid hq
   clear hq
   go_wp2_with fail
   go_ret
   exact ⟨_, rfl, HQ.out⟩
  ·go_enter Tryz.func111, Tryz.ntmps111
   go_wp2_with fail
   refine HH.out.mono ?_
   rintro e w' ⟨v', rfl, hq⟩
   have HQ := Lib.hid hq
   clear hq
   go_wp2_with fail
   go_ret
   exact ⟨_, rfl, HQ.out⟩
end Sp
end Go.Proofs.YtkbndlnmbbbohaaGreatDoor
namespace Go.Proofs.YtkbndlnmbbbohaaGreatDoor
open Go Go.RowKit
set_option maxRecDepth 100000
set_option linter.unusedVariables false
namespace Sp
theorem grown_any {a c : World} (h : a.grownBy c none) (row : Option Nat) : a.grownBy c row := ⟨h.os, h.tape, h.output, h.size, fun i hi _ => h.block i hi (by simp)⟩
def RepPost (w : World) (base : Nat) (v : Value) (r : List Rg) (v' : Value) (w' : World) : Prop := Own w' base v' r ∧ w.grownBy w' v.ownBlock ∧ (v'.ownBlock = v.ownBlock ∨ v'.ownBlock = some w.heap.size)
theorem Put.of {w : World} {g vb m c : Nat} {d : List Rg} (h : Pl w vb d) (hne : vb ≠ g) (hm : m = d.length) : Put w g (.slice (some ⟨vb, 0, none⟩) m c) m d := ⟨hm, .inr ⟨vb, c, rfl, hne, h⟩⟩
theorem replace_one {w : World} {base : Nat} {v : Value} {l : List Rg} {r : Rg} {vb mc i j : Nat} (h : Own w base v l) (hb : base ≤ w.heap.size) (hl : l.length ≤ 100000) (hs : Pl w vb [r]) (hne : v.ownBlock ≠ some vb) (hij : i ≤ j) (hj : j ≤ l.length) :
  Calls Tryz.prog 111 #[v, .int .i64 (i : Int), .int .i64 (j : Int), .slice (some ⟨vb, 0, none⟩) 1 mc] w fun e w' => ∃ v', e = .returned v' ∧ RepPost w base v (l.take i ++ ([r] ++ l.drop j)) v' w' := by
 obtain ⟨A, c, hv, _, hlc, hcm, hA⟩ := h.shape
 by_cases e : i = j
 ·subst e
  subst hv
  refine replace_ins (base := base) (R := RepPost w base (.slice A l.length c) (l.take i ++ ([r] ++ l.drop i))) hj hl hlc hcm hA ⟨_, _, rfl⟩ ?_
  by_cases e2 : i = l.length
  ·subst e2
   rw [List.take_of_length_le (Nat.le_refl _), List.drop_of_length_le (Nat.le_refl _), List.append_nil]
   exact insert_end h hb hl hlc hcm (hs.sr (m := 1) rfl) rfl (by omega) (by omega)
  ·have hlt : i < l.length := by omega
   rcases h with ⟨_, e3⟩ | ⟨g, cap, cur, e3, hrest⟩
   ·rw [e3] at hlt; simp at hlt
   ·injection e3 with e4 _ e5
    subst e4 e5
    have h' : Own w base (.slice (some ⟨g, 0, none⟩) l.length c) l := .inr ⟨g, c, cur, rfl, hrest⟩
    by_cases hc : c < l.length + 1
    ·exact (insert_grow h' hb hl hs.cs (m := 1) rfl (by omega) (by omega) hlt hc).mono fun e w' ⟨v', h1, h2, h3, h4⟩ => ⟨v', h1, h2, grown_any h3 _, .inr h4⟩
    ·exact (insert_shift h' hl hs (fun e => hne (congrArg some e.symm)) (m := 1) rfl (by omega) (by omega) (by omega)).mono fun e w' ⟨v', h1, h2, h3, h4⟩ => ⟨v', h1, h2, h3, .inl h4⟩
 ·have hlt : i < l.length := by omega
  rcases h with ⟨_, e3⟩ | ⟨g, cap, cur, e3, hrest⟩
  ·rw [e3] at hlt; simp at hlt
  ·rw [hv] at e3
   injection e3 with e4 _ e5
   subst hv e4 e5
   have h' : Own w base (.slice (some ⟨g, 0, none⟩) l.length c) l := .inr ⟨g, c, cur, rfl, hrest⟩
   have hp : Put w g (.slice (some ⟨vb, 0, none⟩) 1 mc) 1 [r] := Put.of hs (fun e => hne (congrArg some e.symm)) rfl
   by_cases e2 : j = l.length
   ·subst e2
    rw [List.drop_of_length_le (Nat.le_refl _), List.append_nil]
    by_cases hm : i + 1 < l.length
    ·exact (replace_end_less h' hl hp hm).mono fun e w' ⟨v', h1, h2, h3, h4⟩ => ⟨v', h1, h2, h3, .inl h4⟩
    ·exact (replace_end_more h' hb hl hp (by omega) hlt (by omega)).mono fun e w' ⟨v', h1, h2, h3, h4⟩ => ⟨v', h1, h2, h3, h4⟩
   ·exact (replace_less h' hl hp (by omega) (by omega) (by omega)).mono fun e w' ⟨v', h1, h2, h3, h4⟩ => ⟨v', h1, h2, h3, .inl h4⟩
theorem replace_out {w : World} {base : Nat} {v x : Value} {l d : List Rg} {m i : Nat} (h : Own w base v l) (hb : base ≤ w.heap.size) (hl : l.length ≤ 100000) (hx : ∀ g, v.ownBlock = some g → Put w g x m d) (hm2 : m ≤ 2) (hi : i < l.length) :
  Calls Tryz.prog 111 #[v, .int .i64 (i : Int), .int .i64 ((i + 1 : Nat) : Int), x] w fun e w' => ∃ v', e = .returned v' ∧ RepPost w base v (l.take i ++ (d ++ l.drop (i + 1))) v' w' := by
 rcases h with ⟨_, e3⟩ | ⟨g, c, cur, rfl, hrest⟩
 ·rw [e3] at hi; simp at hi
 ·have h' : Own w base (.slice (some ⟨g, 0, none⟩) l.length c) l := .inr ⟨g, c, cur, rfl, hrest⟩
  have hp := hx g rfl
  have hm := hp.1
  by_cases e2 : i + 1 = l.length
  ·rw [List.drop_of_length_le (by omega), List.append_nil, e2]
   by_cases hm : i + m < l.length
   ·exact (replace_end_less h' hl hp hm).mono fun e w' ⟨v', h1, h2, h3, h4⟩ => ⟨v', h1, h2, h3, .inl h4⟩
   ·exact (replace_end_more h' hb hl hp hm2 hi (by omega)).mono fun e w' ⟨v', h1, h2, h3, h4⟩ => ⟨v', h1, h2, h3, h4⟩
  ·by_cases h1m : m ≤ 1
   ·exact (replace_less h' hl hp (by omega) (by omega) (by omega)).mono fun e w' ⟨v', h1, h2, h3, h4⟩ => ⟨v', h1, h2, h3, .inl h4⟩
   ·obtain ⟨_, ⟨rfl, rfl⟩ | ⟨vb, mc, rfl, hne, hs⟩⟩ := hp
    ·simp at hm; omega
    ·by_cases hc : c < i + m + (l.length - (i + 1))
     ·exact (replace_grow h' hb hl hs hm hm2 (by omega) (by omega) hc).mono fun e w' ⟨v', h1, h2, h3, h4⟩ => ⟨v', h1, h2, grown_any h3 _, .inr h4⟩
     ·exact (replace_more h' hl hs hne hm (by omega) (by omega) (by omega) (by omega) (by omega)).mono fun e w' ⟨v', h1, h2, h3, h4⟩ => ⟨v', h1, h2, h3, .inl h4⟩
end Sp
end Go.Proofs.YtkbndlnmbbbohaaGreatDoor
namespace Go.Proofs.YtkbndlnmbbbohaaGreatDoor
open Go Go.RowKit
set_option maxRecDepth 100000
set_option linter.unusedVariables false
namespace Sp
set_option maxHeartbeats 800000 in
theorem ending1 (w : World) (b2 b3 g o n c i x y : Nat) (h2 : w.cell? ⟨b2, 0, none⟩ = some (.slice (some ⟨g, o, none⟩) n c)) (h3 : w.cell? ⟨b3, 0, none⟩ = some (.int .i64 (x : Int))) (hi : i < n) (hn : n ≤ 100000)
  (hc : w.cell? ⟨g, o + i * 2 + 1, none⟩ = some (.int .i64 (y : Int))) :
  Calls Tryz.prog 135 #[.int .i64 (i : Int), .pointer (some ⟨b2, 0, none⟩), .pointer (some ⟨b3, 0, none⟩)] w fun e w' => e = .returned (.bool (decide (x ≤ y))) ∧ w' = w.drew := by
 have i1 : (0 : Int) ≤ (i : Int) := by omega
 have i2 : (i : Int) < (n : Int) := by omega
 go_enter Tryz.func135, Tryz.ntmps135
 go_wp2_with fail
 go_region
 go_wp2_with fail
 go_ret
 exact ⟨rfl, rfl⟩
set_option maxHeartbeats 1600000 in
theorem search (w : World) (b2 b3 c x : Nat) (A : Option Addr) (l : List Rg) (h2 : w.cell? ⟨b2, 0, none⟩ = some (.slice A l.length c)) (h3 : w.cell? ⟨b3, 0, none⟩ = some (.int .i64 (x : Int))) (hn : l.length ≤ 100000)
  (hA : Rd w A l) {lo0 : Nat} (hr : Ris lo0 l) :
  Calls Tryz.prog 134 #[.int .i64 (l.length : Int), .func (.func 135) #[] #[.pointer (some ⟨b2, 0, none⟩), .pointer (some ⟨b3, 0, none⟩)]] w fun e w' => e = .returned (.int .i64 (pos x l : Int)) ∧ ∃ q, w' = w.drewN q := by
 obtain ⟨n, hnn⟩ : ∃ n, n = l.length := ⟨_, rfl⟩
 obtain ⟨P, hP⟩ : ∃ P, P = pos x l := ⟨_, rfl⟩
 have hPn : P ≤ n := by rw [hP, hnn]; exact pos_le x l
 have hnb : n ≤ 100000 := by omega
 rw [← hnn, ← hP]
 have HE : Hid (∀ q i, i < n → Calls Tryz.prog 135 #[.int .i64 (i : Int), .pointer (some ⟨b2, 0, none⟩), .pointer (some ⟨b3, 0, none⟩)] (w.drewN q) fun e w' => e = .returned (.bool (decide (P ≤ i))) ∧ w' = (w.drewN q).drew) := Lib.hid fun q i hi => by
  have hi' : i < l.length := by omega
  obtain ⟨g, o, hAe, hc⟩ : ∃ g o, A = some ⟨g, o, none⟩ ∧ ∀ j v, (rcells l)[j]? = some v → w.cell? ⟨g, o + j, none⟩ = some v := by
   rcases hA with e | ⟨g, o, e, _, hc⟩
   ·rw [e] at hi'; simp at hi'
   ·exact ⟨g, o, e, hc⟩
  subst hAe
  have hg := List.getElem?_eq_getElem hi'
  have h := ending1 (w.drewN q) b2 b3 g o l.length c i x l[i].2 h2 h3 hi' hn (by
   have := hc _ _ (rcells_get hg).2
   rw [← Nat.add_assoc] at this
   exact this)
  have e : decide (x ≤ l[i].2) = decide (P ≤ i) := by
   have hq := hr.pos_eq (x := x) i
   rw [hg, ← hP] at hq
   by_cases h1 : x ≤ l[i].2
   ·rw [decide_eq_true h1, decide_eq_true (hq.1 ⟨_, rfl, decide_eq_true h1⟩).2]
   ·rw [decide_eq_false h1, decide_eq_false (fun h2 => by
     obtain ⟨r, h3, h4⟩ := hq.2 ⟨hi', h2⟩
     injection h3 with h3
     rw [h3] at h1
     exact h1 (of_decide_eq_true h4))]
  rw [e] at h
  exact h
 clear hnn hP hn hA hr h2 h3
 go_enter Tryz.func134, Tryz.ntmps134
 go_wp2_with fail
 go_loopg [5, 6] n (fun kx s5 s6 wr => ∃ (lo hi q : Nat), s5 = .int .i64 lo ∧ s6 = .int .i64 hi ∧ lo ≤ P ∧ P ≤ hi ∧ hi ≤ n ∧ hi - lo ≤ kx ∧ wr = w.drewN q)
 case atStart => exact ⟨0, n, 0, rfl, rfl, Nat.zero_le _, hPn, Nat.le_refl _, by omega, rfl⟩
 case round =>
  obtain ⟨lo, hi, q, rfl, rfl, h1, h2, h3, hg, rfl⟩ := hrel
  by_cases hlt : lo < hi
  ·have hc := HE.out q ((lo + hi) / 2) (by omega)
   rw [show (((lo + hi) / 2 : Nat) : Int) = ((lo : Int) + (hi : Int)) / 2 by omega] at hc
   by_cases hp : P ≤ (lo + hi) / 2
   ·rw [decide_eq_true hp] at hc
    have HC := Lib.hid hc
    clear hc
    go_wp2_with fail
    refine HC.out.mono ?_
    rintro e w' ⟨rfl, rfl⟩
    go_wp2_with fail
    go_roundg ((lo + hi) / 2 - lo)
    case measure => omega
    case rel => exact ⟨lo, (lo + hi) / 2, q + 1, rfl, by rw [show ((lo : Int) + (hi : Int)) / 2 = (((lo + hi) / 2 : Nat) : Int) by omega], h1, hp, by omega, Nat.le_refl _, rfl⟩
   ·rw [decide_eq_false hp] at hc
    have HC := Lib.hid hc
    clear hc
    go_wp2_with fail
    refine HC.out.mono ?_
    rintro e w' ⟨rfl, rfl⟩
    go_wp2_with fail
    go_roundg (hi - ((lo + hi) / 2 + 1))
    case measure => omega
    case rel => exact ⟨(lo + hi) / 2 + 1, hi, q + 1, by rw [show ((lo : Int) + (hi : Int)) / 2 + 1 = (((lo + hi) / 2 + 1 : Nat) : Int) by omega], rfl, by omega, h2, h3, Nat.le_refl _, rfl⟩
  ·obtain rfl : hi = lo := by omega
   obtain rfl : P = hi := by omega
   go_wp2_with fail
   go_ret
   exact ⟨rfl, q, rfl⟩
end Sp
end Go.Proofs.YtkbndlnmbbbohaaGreatDoor
namespace Go.Proofs.YtkbndlnmbbbohaaGreatDoor
open Go Go.RowKit
set_option maxRecDepth 100000
set_option linter.unusedVariables false
namespace Sp
theorem Rd.below {w w' : World} {A : Option Addr} {l : List Rg} (h : Rd w A l) (hb : Below w.heap.size w w') : Rd w' A l := by
 rcases h with e | ⟨b, o, e, h1, h2⟩
 ·exact .inl e
 ·exact .inr ⟨b, o, e, Nat.lt_of_lt_of_le h1 hb.size, fun j v hj => (hb.cell (p := ⟨b, o + j, none⟩) h1).trans (h2 j v hj)⟩
theorem size_rg (w : World) (a b : Nat) (ha : a ≤ 1000000) (hb : b ≤ 1000000) :
  Calls Tryz.prog 97 #[.agg #[.int .i64 (a : Int), .int .i64 (b : Int)]] w fun e w' => e = .returned (.int .i64 ((b : Int) - (a : Int))) ∧ Below w.heap.size w w' := by
 have L1 : Hid (Below w.heap.size w (w.alloc (.cells #[.int .i64 (a : Int), .int .i64 (b : Int)] 115))) := Lib.hid ((Below.refl _ _).alloc (Nat.le_refl _) _)
 go_enter Tryz.func97, Tryz.ntmps97
 go_wp2_with fail
 go_ret
 exact ⟨rfl, L1.out⟩
set_option maxHeartbeats 800000 in
theorem ending_rg (w : World) (A : Option Addr) (l : List Rg) (c x : Nat) (cnt : Int) (h : Rd w A l) (hn : l.length ≤ 100000) {lo0 : Nat} (hr : Ris lo0 l) :
  Calls Tryz.prog 110 #[.agg #[.slice A l.length c, .int .i64 cnt], .int .i64 (x : Int)] w fun e w' => e = .returned (.int .i64 (pos x l : Int)) ∧ Below w.heap.size w w' := by
 obtain ⟨W, hW⟩ : ∃ W, W = (w.alloc (.cells #[.slice A l.length c, .int .i64 cnt] 131)).alloc (.cells #[.int .i64 (x : Int)] 3) := ⟨_, rfl⟩
 have hs1 : (w.alloc (.cells #[.slice A l.length c, .int .i64 cnt] 131)).heap.size = w.heap.size + 1 := by simp
 have hb : Below w.heap.size w W := by rw [hW]; exact ((Below.refl _ _).alloc (Nat.le_refl _) _).alloc (by simp) _
 have X2 : Blk W w.heap.size 131 #[.slice A l.length c, .int .i64 cnt] := by rw [hW]; exact (Blk.new _ _ _).alloc _
 have X3 : Blk W (w.heap.size + 1) 3 #[.int .i64 (x : Int)] := by
  have h := Blk.new (w.alloc (.cells #[.slice A l.length c, .int .i64 cnt] 131)) 3 #[.int .i64 (x : Int)]
  rw [hs1, ← hW] at h
  exact h
 have HS := Lib.hid (search W w.heap.size (w.heap.size + 1) c x A l (X2.cell 0) (X3.cell 0) hn (h.below hb) hr)
 have L1 := Lib.hid hb
 have d0 : W.cell? ⟨w.heap.size, 0, none⟩ = some (.slice A l.length c) := X2.cell 0
 clear hb X2 X3 h hr
 obtain ⟨n, hnn⟩ : ∃ n, n = l.length := ⟨_, rfl⟩
 rw [← hnn] at HS d0 hW ⊢
 clear hnn hn hs1
 go_enter Tryz.func110, Tryz.ntmps110
 go_upto_region 1 with (fail)
 rw [← hW]
 clear hW
 go_wp2_with fail
 refine HS.out.mono ?_
 rintro e w' ⟨rfl, q, rfl⟩
 go_wp2_with fail
 go_ret
 exact ⟨rfl, below_drewN L1.out q⟩
set_option maxHeartbeats 1600000 in
theorem has_rg (w : World) (A : Option Addr) (l : List Rg) (c a b : Nat) (cnt : Int) (h : Rd w A l) (hn : l.length ≤ 100000) {lo0 : Nat} (hr : Ris lo0 l) :
  Calls Tryz.prog 89 #[.agg #[.slice A l.length c, .int .i64 cnt], .agg #[.int .i64 (a : Int), .int .i64 (b : Int)]] w fun e w' => e = .returned (.bool (hasL a b l)) ∧ Below w.heap.size w w' := by
 obtain ⟨W, hW⟩ : ∃ W, W = (w.alloc (.cells #[.slice A l.length c, .int .i64 cnt] 131)).alloc (.cells #[.int .i64 (a : Int), .int .i64 (b : Int)] 115) := ⟨_, rfl⟩
 have hs1 : (w.alloc (.cells #[.slice A l.length c, .int .i64 cnt] 131)).heap.size = w.heap.size + 1 := by simp
 have hb : Below w.heap.size w W := by rw [hW]; exact ((Below.refl _ _).alloc (Nat.le_refl _) _).alloc (by simp) _
 have X2 : Blk W w.heap.size 131 #[.slice A l.length c, .int .i64 cnt] := by rw [hW]; exact (Blk.new _ _ _).alloc _
 have X3 : Blk W (w.heap.size + 1) 115 #[.int .i64 (a : Int), .int .i64 (b : Int)] := by
  have h := Blk.new (w.alloc (.cells #[.slice A l.length c, .int .i64 cnt] 131)) 115 #[.int .i64 (a : Int), .int .i64 (b : Int)]
  rw [hs1, ← hW] at h
  exact h
 have HE := Lib.hid (ending_rg W A l c b cnt (h.below hb) hn hr)
 have HR := Lib.hid (h.below hb)
 have L1 := Lib.hid hb
 have B2 := Lib.hid X2
 have B3 := Lib.hid X3
 have d0 : W.cell? ⟨w.heap.size, 0, none⟩ = some (.slice A l.length c) := X2.cell 0
 have d1 : W.cell? ⟨w.heap.size, 1, none⟩ = some (.int .i64 cnt) := X2.cell 1
 have f1 : W.cell? ⟨w.heap.size + 1, 1, none⟩ = some (.int .i64 (b : Int)) := X3.cell 1
 have hpn := pos_le b l
 have HL : Hid (hasL a b l = match l[pos b l]? with | some r => decide (r.1 ≤ a) | none => false) := Lib.hid rfl
 obtain ⟨P, hP⟩ : ∃ P, P = pos b l := ⟨_, rfl⟩
 obtain ⟨ans, hans⟩ : ∃ ans, ans = hasL a b l := ⟨_, rfl⟩
 rw [← hP] at HE HL hpn
 rw [← hans] at HL ⊢
 obtain ⟨n, hnn⟩ : ∃ n, n = l.length := ⟨_, rfl⟩
 rw [← hnn] at HE B2 d0 hW hpn hn ⊢
 have HN := Lib.hid hnn
 clear hb X2 X3 h hr hnn hs1 hP hans
 go_enter Tryz.func89, Tryz.ntmps89
 go_upto_region 1 with (fail)
 rw [← hW]
 clear hW
 go_wp2_with fail
 refine HE.out.mono ?_
 rintro e w' ⟨rfl, b1⟩
 have L2 := Lib.hid (L1.out.trans (b1.mono L1.out.size))
 have R2 := Lib.hid (HR.out.below b1)
 have g0 : w'.cell? ⟨w.heap.size, 0, none⟩ = some (.slice A n c) := (B2.out.below b1 B2.out.lt).cell 0
 have g1 : w'.cell? ⟨w.heap.size + 1, 0, none⟩ = some (.int .i64 (a : Int)) := (B3.out.below b1 B3.out.lt).cell 0
 clear b1 d0 d1 f1 L1 HR B2 B3 HE
 by_cases hlt : P < n
 ·have hlt' : P < l.length := by have := HN.out; omega
  have hg := List.getElem?_eq_getElem hlt'
  obtain ⟨r, hrr⟩ : ∃ r, r = l[P] := ⟨_, rfl⟩
  rw [← hrr] at hg
  obtain ⟨g, o, hA, hc⟩ : ∃ g o, A = some ⟨g, o, none⟩ ∧ w'.cell? ⟨g, o + P * 2, none⟩ = some (.int .i64 (r.1 : Int)) := by
   rcases R2.out with e | ⟨g, o, e, _, hc⟩
   ·rw [e] at hlt'; simp at hlt'
   ·exact ⟨g, o, e, hc _ _ (rcells_get hg).1⟩
  subst hA
  have ha : ans = decide (r.1 ≤ a) := by rw [HL.out, hg]
  obtain ⟨y, hy⟩ : ∃ y, y = r.1 := ⟨_, rfl⟩
  rw [← hy] at hc ha
  have t1 : (P : Int) < (n : Int) := by omega
  have i1 : (0 : Int) ≤ (P : Int) := by omega
  have HA := Lib.hid ha
  clear ha hg hrr hy hlt' HL R2
  go_wp2_with fail
  go_region
  go_wp2_with fail
  go_ret
  exact ⟨by rw [HA.out]; rfl, L2.out.drew⟩
 ·have t1 : ¬ ((P : Int) < (n : Int)) := by omega
  have ha : ans = false := by rw [HL.out, List.getElem?_eq_none (by have := HN.out; omega)]
  have HA := Lib.hid ha
  clear ha HL R2
  go_wp2_with fail
  go_region
  go_wp2_with fail
  go_ret
  exact ⟨by rw [HA.out]; rfl, L2.out.drew⟩
end Sp
end Go.Proofs.YtkbndlnmbbbohaaGreatDoor
