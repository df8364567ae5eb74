/-
  'slices.Replace' of ranges in the call's own row by contracts: more is put than is struck; at the end. Conditions: the rows are short; what is put lies in a block of its own.
-/
import Derived.Test.YtpbojhjbjnoihaaSpcRep
namespace Go.Proofs.Ytpbojhjbjnoihaa
open Go Go.RowKit
set_option maxRecDepth 100000
set_option linter.unusedVariables false
namespace Sp
set_option maxHeartbeats 1600000 in
/-- in place: more is put than is struck, there is room, and enough stands behind -/
theorem replace_more {w : World} {base g n c : Nat} {l d : List Rg} {vb m mc i j : Nat} (h : Own w base (.slice (some ⟨g, 0, none⟩) n c) l) (hl : l.length ≤ 100000)
    (hs : Pl w vb d) (hne : vb ≠ g) (hm : m = d.length) (hij : i < j) (hm2 : j < i + m) (hjn : j < n) (him : i + m ≤ n) (hc : i + m + (n - j) ≤ c) :
    Calls Try.prog 47 #[.slice (some ⟨g, 0, none⟩) n c, .int .i64 (i : Int), .int .i64 (j : Int), .slice (some ⟨vb, 0, none⟩) m mc] w fun e w' => ∃ v', e = .returned v' ∧ Own w' base v' (l.take i ++ (d ++ l.drop j)) ∧ w.grownBy w' (some g) ∧ v'.ownBlock = some g := by
  have hn := h.room.2.2.2.2.1
  have hnc := h.room.2.2.2.2.2.1
  have hcm := h.room.2.2.2.2.2.2.1
  unfold maxLen at hcm
  obtain ⟨q, rfl⟩ : ∃ q, n = j + q := ⟨n - j, by omega⟩
  rw [show j + q - j = q by omega] at hc
  have hti : (l.take i).length = i := by rw [List.length_take]; omega
  have htm : (l.take (i + m)).length = i + m := by rw [List.length_take]; omega
  have hdl : (l.drop j).length = q := by rw [List.length_drop]; omega
  obtain ⟨ca, hca, hcas⟩ := hs
  obtain ⟨cg, hcg, hcgs⟩ := h.blk
  have hca0 : ca.size ≠ 0 := fun e => by
    match d, hm, hcas with
    | [], hm, _ => simp at hm; omega
    | r :: d', _, hcas =>
      have := hcas 0 _ rfl
      rw [Array.getElem?_eq_none (by omega)] at this
      cases this
  have hov : ∀ lb cb, (callFunc 53 #[.slice (some ⟨g, (i + m) * 2, none⟩) lb cb, .slice (some ⟨vb, 0, none⟩) m mc]).run Try.prog w.drew = .ok (.value (.bool false)) w.drew := fun lb cb => overlaps_no hcg.drew hca.drew (fun e => hne e.symm) hca0 (hcg.drew.frozen _)
  have c1 : ∀ ty dc sc, (Builtin.copy_ #[31, 31] ty #[.slice (some ⟨g, (i + m) * 2, none⟩) q dc, .slice (some ⟨g, j * 2, none⟩) q sc]).run Try.prog w.drew.drew = .ok (goInt (l.drop j).length) (w.drew.drew.setCells g ((i + m) * 2) (rcells (l.drop j))) := fun ty dc sc =>
    copy_own h.drew.drew ty (own_cells h.drew.drew j) (by rw [hdl]; exact Nat.min_self _) (by rw [hdl]; omega)
  have hO1 := own_copy h.drew.drew (q := i + m) (l.drop j) (by omega) (by rw [hdl]; omega)
  rw [hdl] at hO1
  have hs1 := Pl.cs (w := w) (b := vb) (d := d) ⟨ca, hca, hcas⟩
  have hs2 := (hs1.drew.drew.set (g := g) (p := (i + m) * 2) (vs := rcells (l.drop j)) (.inl hne))
  have hG1 : w.grownBy (w.drew.drew.setCells g ((i + m) * 2) (rcells (l.drop j))) (some g) := by
    have h := grown_drew w.drew g ((i + m) * 2) (rcells (l.drop j))
    exact ⟨h.os, h.tape, h.output, h.size, h.block⟩
  obtain ⟨W1, hW1⟩ : ∃ W1, W1 = w.drew.drew.setCells g ((i + m) * 2) (rcells (l.drop j)) := ⟨_, rfl⟩
  rw [← hW1] at hO1 hs2 hG1 c1
  have c2 : ∀ ty dc, (Builtin.copy_ #[31, 31] ty #[.slice (some ⟨g, i * 2, none⟩) (i + m + q - i) dc, .slice (some ⟨vb, 0, none⟩) m mc]).run Try.prog W1 = .ok (goInt d.length) (W1.setCells g (i * 2) (rcells d)) := fun ty dc =>
    copy_own hO1 ty hs2.2 (by rw [← hm]; exact Nat.min_eq_left (by omega)) (by omega)
  have hO2 := own_put hO1 (q := i) d (by rw [List.length_append, htm, hdl]; omega)
  have e1 : (l.take (i + m) ++ l.drop j).take i = l.take i := by rw [List.take_append_of_le_length (by omega), List.take_take, Nat.min_eq_left (by omega)]
  have e2 : (l.take (i + m) ++ l.drop j).drop (i + d.length) = l.drop j := by rw [← hm, List.drop_append_of_le_length (by omega), List.drop_of_length_le (by omega), List.nil_append]
  rw [e1, e2] at hO2
  have hG2 := grown_tr hG1 (grown_setCells g (rcells d) (i * 2) W1)
  have C1 := Lib.hid c1
  have C2 := Lib.hid c2
  have HO := Lib.hid hO2
  have HG := Lib.hid hG2
  have hnb : j + q ≤ 100000 := by omega
  have hmb : m ≤ 100000 := by omega
  have hq0 : 0 < q := by omega
  have t1 : ¬ ((i : Int) = (j : Int)) := by omega
  have t2 : ¬ ((j : Int) = (j : Int) + (q : Int)) := by omega
  have t3 : ¬ (c = i) := by omega
  have t4 : ¬ (c = j) := by omega
  have t5 : ¬ (c = i + m) := by omega
  have t6 : ¬ ((i : Int) + (m : Int) ≤ (j : Int)) := by omega
  have hij' : i ≤ j := by omega
  have hjc : j + q ≤ c := hnc
  have htn : ((i : Int) + (m : Int)).toNat = i + m := by omega
  have htn2 : ((i : Int) + (m : Int) + (q : Int)).toNat = i + m + q := by omega
  have hb1 : (0 : Int) ≤ (i : Int) + (m : Int) := by omega
  have hb2 : (0 : Int) ≤ (i : Int) + (m : Int) + (q : Int) := by omega
  have t7 : ¬ ((c : Int) < (i : Int) + (m : Int) + (q : Int)) := by omega
  have t8 : (i : Int) + (m : Int) + (q : Int) ≤ (c : Int) := by omega
  have t9 : i + m ≤ i + m + q := by omega
  clear hO1 hO2 hG1 hG2 hs1 hs2 e1 e2 hti htm hdl hca hcg hcgs hca0 hcas c1 c2 h hn hm hW1 hm2
  go_enter Try.func47, Try.ntmps47
  go_upto_region 9 with (fail)
  go_region
  go_wp2_with (simp only [hov])
  have c1 := C1.out
  go_region
  clear c1
  go_wp2_with ((refine wpList_copy_rg _ rfl (.tmp 133) (.tmp 134) rfl _ _ rfl rfl (C2.out _ _) ?_); refine unhid ?_)
  refine Lib.hid ?_
  go_wp2_with fail
  go_ret
  exact ⟨_, rfl, HO.out, HG.out, rfl⟩
set_option maxHeartbeats 1600000 in
/-- a new row: there is no room, and something stands behind -/
theorem replace_grow {w : World} {base g n c : Nat} {l d : List Rg} {vb m mc i j : Nat} (h : Own w base (.slice (some ⟨g, 0, none⟩) n c) l) (hb : base ≤ w.heap.size) (hl : l.length ≤ 100000)
    (hs : Pl w vb d) (hm : m = d.length) (hm2 : m ≤ 2) (hij : i < j) (hjn : j < n) (hc : c < i + m + (n - j)) :
    Calls Try.prog 47 #[.slice (some ⟨g, 0, none⟩) n c, .int .i64 (i : Int), .int .i64 (j : Int), .slice (some ⟨vb, 0, none⟩) m mc] w fun e w' => ∃ v', e = .returned v' ∧ Own w' base v' (l.take i ++ (d ++ l.drop j)) ∧ w.grownBy w' none ∧ v'.ownBlock = some w.heap.size := by
  have hn := h.room.2.2.2.2.1
  have hnc := h.room.2.2.2.2.2.1
  have hcm := h.room.2.2.2.2.2.2.1
  unfold maxLen at hcm
  obtain ⟨q, rfl⟩ : ∃ q, n = j + q := ⟨n - j, by omega⟩
  rw [show j + q - j = q by omega] at hc
  have hti : (l.take i).length = i := by rw [List.length_take]; omega
  have hdl : (l.drop j).length = q := by rw [List.length_drop]; omega
  obtain ⟨C, W1, hz, hO, hG⟩ := own_zeros h.drew i (m + q) (by omega) (by omega) (by omega) (by omega) (show base ≤ w.drew.heap.size from hb)
  have ekz : ((m + q : Nat) : Int) = (i : Int) + (m : Int) + (q : Int) - (i : Int) := by omega
  rw [ekz] at hz
  rw [show i + (m + q) = i + m + q by omega] at hz hO
  obtain ⟨G, hGG⟩ : ∃ G, G = w.heap.size := ⟨_, rfl⟩
  have hGd : w.drew.heap.size = G := hGG.symm
  rw [hGd] at hz hO
  have hlen1 : (l.take i ++ List.replicate (m + q) (0, 0) : List Rg).length = i + m + q := by rw [List.length_append, hti, List.length_replicate]; omega
  have hCn : i + m + q ≤ C := hO.room.2.2.2.2.2.1
  have hgl : g < w.heap.size := h.room.2.2.1
  have hs1 := hs.cs.drew.far hG (by simp)
  have c1 : ∀ ty dc, (Builtin.copy_ #[31, 31] ty #[.slice (some ⟨G, i * 2, none⟩) (i + m + q - i) dc, .slice (some ⟨vb, 0, none⟩) m mc]).run Try.prog W1 = .ok (goInt d.length) (W1.setCells G (i * 2) (rcells d)) := fun ty dc =>
    copy_own hO ty hs1.2 (by rw [← hm]; exact Nat.min_eq_left (by omega)) (by omega)
  have hO2 := own_put hO (q := i) d (by rw [hlen1]; omega)
  obtain ⟨L1, hL1⟩ : ∃ L1, L1 = (l.take i ++ List.replicate (m + q) (0, 0) : List Rg).take i ++ (d ++ (l.take i ++ List.replicate (m + q) (0, 0) : List Rg).drop (i + d.length)) := ⟨_, rfl⟩
  rw [← hL1] at hO2
  have htk : L1.take (i + m) = l.take i ++ d := by
    have hA : (l.take i ++ List.replicate (m + q) (0, 0) : List Rg).take i = l.take i := by rw [List.take_append_of_le_length (by omega), List.take_take, Nat.min_self]
    have hAd : (l.take i ++ d).length = i + m := by rw [List.length_append, hti, ← hm]
    rw [hL1, hA, ← List.append_assoc, List.take_append_of_le_length (by omega), List.take_of_length_le (by omega)]
  have hgne : G ≠ g := by omega
  have hs2 := ((own_cs h.drew j).far hG (by simp)).far (grown_setCells G (rcells d) (i * 2) W1) (fun e => by injection e with e; omega)
  have hG2 : w.grownBy (W1.setCells G (i * 2) (rcells d)) none := ⟨(grown_setCells G (rcells d) (i * 2) W1).os.trans hG.os, (grown_setCells G (rcells d) (i * 2) W1).tape.trans hG.tape, (grown_setCells G (rcells d) (i * 2) W1).output.trans hG.output, Nat.le_trans hG.size (grown_setCells G (rcells d) (i * 2) W1).size, fun k hk hne => ((grown_setCells G (rcells d) (i * 2) W1).block k (Nat.lt_of_lt_of_le hk hG.size) (fun e => by injection e with e; omega)).trans (hG.block k hk hne)⟩
  obtain ⟨W2, hW2⟩ : ∃ W2, W2 = W1.setCells G (i * 2) (rcells d) := ⟨_, rfl⟩
  rw [← hW2] at c1 hO2 hs2 hG2
  have hL1l : i + m ≤ L1.length := by
    have := hO2.room.2.2.2.2.1
    omega
  have c2 : ∀ ty dc sc, (Builtin.copy_ #[31, 31] ty #[.slice (some ⟨G, (i + m) * 2, none⟩) q dc, .slice (some ⟨g, j * 2, none⟩) q sc]).run Try.prog W2.drew = .ok (goInt (l.drop j).length) (W2.drew.setCells G ((i + m) * 2) (rcells (l.drop j))) := fun ty dc sc =>
    copy_own hO2.drew ty hs2.drew.2 (by rw [hdl]; exact Nat.min_self _) (by rw [hdl]; omega)
  have hO3 := own_copy hO2.drew (q := i + m) (l.drop j) hL1l (by rw [hdl]; omega)
  rw [htk, hdl, List.append_assoc] at hO3
  have hG3 : w.grownBy (W2.drew.setCells G ((i + m) * 2) (rcells (l.drop j))) none := ⟨(grown_setCells G (rcells (l.drop j)) ((i + m) * 2) W2.drew).os.trans hG2.os, (grown_setCells G (rcells (l.drop j)) ((i + m) * 2) W2.drew).tape.trans hG2.tape, (grown_setCells G (rcells (l.drop j)) ((i + m) * 2) W2.drew).output.trans hG2.output, Nat.le_trans hG2.size (grown_setCells G (rcells (l.drop j)) ((i + m) * 2) W2.drew).size, fun k hk hne => ((grown_setCells G (rcells (l.drop j)) ((i + m) * 2) W2.drew).block k (Nat.lt_of_lt_of_le hk hG2.size) (fun e => by injection e with e; omega)).trans (hG2.block k hk hne)⟩
  have HZ := Lib.hid hz
  have C1 := Lib.hid c1
  have C2 := Lib.hid c2
  have HO3 := Lib.hid hO3
  have HG3 := Lib.hid hG3
  have HGG := Lib.hid hGG
  have hnb : j + q ≤ 100000 := by omega
  have hmb : m ≤ 100000 := by omega
  have hq0 : 0 < q := by omega
  have t1 : ¬ ((i : Int) = (j : Int)) := by omega
  have t2 : ¬ ((j : Int) = (j : Int) + (q : Int)) := by omega
  have t3 : ¬ (c = i) := by omega
  have t4 : ¬ (c = j) := by omega
  have t5 : ¬ (C = i + m) := by omega
  have t6 : ¬ (C = i) := by omega
  have hij' : i ≤ j := by omega
  have hjc : j + q ≤ c := hnc
  have htn : ((i : Int) + (m : Int)).toNat = i + m := by omega
  have hb1 : (0 : Int) ≤ (i : Int) + (m : Int) := by omega
  have t7 : (c : Int) < (i : Int) + (m : Int) + (q : Int) := by omega
  have t9 : i + m ≤ i + m + q := by omega
  have HSUB : Hid ((i : Int) + (m : Int) + (q : Int) - (i : Int) = (m : Int) + (q : Int)) := Lib.hid (by omega)
  have HL1 := Lib.hid hL1
  clear hz c1 c2 hO hO2 hO3 hG hG2 hG3 hs hs1 hs2 hL1 hL1l htk hlen1 h ekz hgne hdl hti hGG hGd hm hn hW2 hgl
  go_enter Try.func47, Try.ntmps47
  go_upto_region 9 with (fail)
  go_region
  go_upto_region 11 with (fail)
  go_wp2_with (at_builtin; go_loud (refine wpList_appz_rg _ rfl (.tmp 63) (.tmp 66) rfl _ _ rfl rfl (HZ.out _) ?_); refine unhid ?_)
  refine Lib.hid ?_
  go_wp2_with ((refine wpList_copy_rg _ rfl (.tmp 70) (.tmp 71) rfl _ _ rfl rfl (C1.out _ _) ?_); refine unhid ?_)
  refine Lib.hid ?_
  go_upto_region 13 with (fail)
  have c2 := C2.out
  go_region
  clear c2
  go_wp2_with fail
  go_ret
  exact ⟨_, rfl, HO3.out, HG3.out, congrArg some HGG.out⟩
end Sp
end Go.Proofs.Ytpbojhjbjnoihaa
