/-
 'slices.Insert' and 'slices.Replace' of one or two ranges in the call's own row by contracts. Conditions: the rows are short; what is put lies in a block of its own.
-/
import Derived.Test.YtgbehfkimchglaaGreatDoorSpcAppM
import Derived.Deep.RegionLaw
import Derived.Lib.Hide
import Derived.OwnWalk
import Derived.Deep.DeepCutAuto
import Derived.Laws.Externs
namespace Go.Proofs.YtgbehfkimchglaaGreatDoor
open Go Go.RowKit
set_option maxRecDepth 100000
set_option linter.unusedVariables false
namespace Sp
theorem unhid {p : Prop} (h : Hid p) : p := h.out
section
variable {w : World} {base g n c : Nat} {l : List Rg}
theorem own_copy (h : Own w base (.slice (some ⟨g, 0, none⟩) n c) l) {q : Nat} (d : List Rg) (hq : q ≤ l.length) (hc : q + d.length ≤ c) : Own (w.setCells g (q * 2) (rcells d)) base (.slice (some ⟨g, 0, none⟩) (q + d.length) c) (l.take q ++ d) := by
 have hl : (l.take q ++ d).length = q + d.length := by rw [List.length_append, List.length_take]; omega
 refine h.set hl.symm (by rw [hl]; exact hc) fun cur hs he j hj => ?_
 rw [hl] at hj
 rw [rcells_append, rcells_length]
 have hql : (rcells (l.take q)).length = q * 2 := by rw [rcells_length, List.length_take]; omega
 by_cases h1 : j < q * 2
 ·rw [if_neg (by omega), he j (by omega), List.getElem?_append_left (by omega), rcells_take, List.getElem?_take_of_lt h1]
 ·rw [if_pos ⟨by omega, by omega⟩, List.getElem?_append_right (by omega), hql]
theorem own_put (h : Own w base (.slice (some ⟨g, 0, none⟩) n c) l) {q : Nat} (d : List Rg) (hq : q + d.length ≤ l.length) : Own (w.setCells g (q * 2) (rcells d)) base (.slice (some ⟨g, 0, none⟩) n c) (l.take q ++ (d ++ l.drop (q + d.length))) := by
 obtain ⟨_, _, _, _, hn, hnc, _⟩ := h.room
 have hl : (l.take q ++ (d ++ l.drop (q + d.length))).length = n := by rw [List.length_append, List.length_append, List.length_take, List.length_drop]; omega
 refine h.set hl.symm (by rw [hl]; exact hnc) fun cur hs he j hj => ?_
 rw [hl] at hj
 rw [rcells_append, rcells_append, rcells_length]
 have hql : (rcells (l.take q)).length = q * 2 := by rw [rcells_length, List.length_take]; omega
 by_cases h1 : j < q * 2
 ·rw [if_neg (by omega), he j (by omega), List.getElem?_append_left (by omega), rcells_take, List.getElem?_take_of_lt h1]
 ·by_cases h2 : j < q * 2 + d.length * 2
  ·rw [if_pos ⟨by omega, h2⟩, List.getElem?_append_right (by omega), hql, List.getElem?_append_left (by rw [rcells_length]; omega)]
  ·rw [if_neg (by omega), he j (by omega), List.getElem?_append_right (by omega), hql, List.getElem?_append_right (by rw [rcells_length]; omega), rcells_length, rcells_drop, List.getElem?_drop]
   congr 1
   omega
theorem copy_own (h : Own w base (.slice (some ⟨g, 0, none⟩) n c) l) (ty : TypeId) {q dLen dCap sLen sCap b o : Nat} {d : List Rg} (hd : ∀ j v, (rcells d)[j]? = some v → w.cell? ⟨b, o + j, none⟩ = some v) (hm : Nat.min sLen dLen = d.length) (hc : q + d.length ≤ c) :
  (Builtin.copy_ #[49, 49] ty #[.slice (some ⟨g, q * 2, none⟩) dLen dCap, .slice (some ⟨b, o, none⟩) sLen sCap]).run Tryz.prog w = .ok (goInt d.length) (w.setCells g (q * 2) (rcells d)) := by
 obtain ⟨r1, r2, _⟩ := h.room
 have hr := run_copy2 w ty g (q * 2) dLen dCap ⟨b, o, none⟩ sLen sCap (rcells d) (by rw [rcells_length, hm]) (fun j v hj => by rw [add_plain]; exact hd j v hj) (fun j hj => r1 _ (by rw [rcells_length] at hj; omega)) (fun j hj => r2 _) (rcells_one d)
 rw [hm] at hr
 exact hr
theorem own_cells (h : Own w base (.slice (some ⟨g, 0, none⟩) n c) l) (q : Nat) : ∀ j v, (rcells (l.drop q))[j]? = some v → w.cell? ⟨g, q * 2 + j, none⟩ = some v := fun j v hj => by
 obtain ⟨_, _, _, _, _, _, _, r8, _⟩ := h.room
 rw [rcells_drop, List.getElem?_drop] at hj
 exact r8 _ _ hj
theorem own_zeros (h : Own w base (.slice (some ⟨g, 0, none⟩) n c) l) (i k : Nat) (hi : i ≤ l.length) (hk : 0 < k) (hg : c < i + k) (hl : i + k ≤ 1000000) (hb : base ≤ w.heap.size) :
  ∃ C W', (∀ ty, (Builtin.append_ #[49, 3] ty #[.slice (some ⟨g, 0, none⟩) i c, .int .i64 (k : Int)]).run Tryz.prog w = .ok (.slice (some ⟨w.heap.size, 0, none⟩) (i + k) C) W') ∧
   Own W' base (.slice (some ⟨w.heap.size, 0, none⟩) (i + k) C) (l.take i ++ List.replicate k (0, 0)) ∧ w.grownBy W' none := by
 obtain ⟨i0, hi0, hz0, hz1, hz2⟩ := info_parts infoR
 obtain ⟨_, _, _, _, _, _, _, r8, _⟩ := h.room
 have hold : (Builtin.firstCells i0.size i (.slice (some ⟨g, 0, none⟩) i c)).run Tryz.prog w.drew = .ok (rcells (l.take i)).toArray w.drew := by
  rw [hz1]
  refine run_firstCells_some (P := Tryz.prog) w.drew 2 i ⟨g, 0, none⟩ i c (rcells (l.take i)) (by rw [rcells_length, List.length_take]; omega) (fun j u hj => ?_)
  rw [add_plain, Nat.zero_add]
  rw [rcells_take, List.getElem?_take] at hj
  split at hj
  ·exact r8 j u hj
  ·cases hj
 have hr := fun ty => Lib.run_append_grow_zeros w 49 3 ty 61 i0 _ .i64 .i64 Tryz.underlying49 Tryz.underlying3 hi0 hz0 (some ⟨g, 0, none⟩) i c (rcells (l.take i)) hold k hk (by omega) hg (by omega) (by rw [hz2]; omega) (by rw [hz2]; exact growslice_fits hg (by omega))
 have hge := grownCap_ge w (i + k) c 61
 have hle : grownCap w (i + k) c 61 ≤ maxLen := grownCap_le_maxLen w (i + k) c 61 (by unfold maxLen; omega)
 obtain ⟨z, hz⟩ : ∃ z, grownCap w (i + k) c 61 = i + k + z := ⟨_, (Nat.add_sub_cancel' hge).symm⟩
 simp only [hz, show i + k + z - (i + k) = z by omega] at hr
 have hrep : ∀ k, rcells (List.replicate k (0, 0)) = List.replicate (k * 2) (.int .i64 0) := fun k => by
  induction k with
  | zero => rfl
  | succ k ih =>
   rw [List.replicate_succ, show (k + 1) * 2 = k * 2 + 1 + 1 by omega, List.replicate_succ, List.replicate_succ, ← ih]
   rfl
 have hx : (rcells (l.take i)).toArray ++ Builtin.zeroCells (Value.agg #[.int .i64 0, .int .i64 0]).cells k = (rcells (l.take i ++ List.replicate k (0, 0))).toArray := by
  apply Array.toList_inj.1
  rw [Array.toList_append, zcells, rcells_append, hrep]
 have hlen : (l.take i ++ List.replicate k (0, 0) : List Rg).length = i + k := by rw [List.length_append, List.length_take, List.length_replicate]; omega
 have ho := own_new (W := w.drew) (l := l.take i ++ List.replicate k (0, 0)) (k := z) (xs := (rcells (l.take i)).toArray ++ Builtin.zeroCells (Value.agg #[.int .i64 0, .int .i64 0]).cells k) hx (by rw [hlen]; omega)
 rw [hlen] at ho
 exact ⟨_, _, hr, ho.base_ hb, ⟨rfl, rfl, rfl, by simp, fun k hk _ => Below.heap_alloc w.drew _ k hk⟩⟩
end
set_option maxHeartbeats 1600000 in
theorem insert_end {w : World} {base : Nat} {A : Option Addr} {c : Nat} {l d : List Rg} {vb m mc : Nat} (h : Own w base (.slice A l.length c) l) (hb : base ≤ w.heap.size) (hl : l.length ≤ 100000) (hlc : l.length ≤ c) (hcm : c ≤ maxLen)
  (hs : Sr w (.slice (some ⟨vb, 0, none⟩) m mc) d) (hm : m = d.length) (hm0 : 0 < m) (hm2 : m ≤ 2) :
  Calls Tryz.prog 206 #[.slice A l.length c, .int .i64 (l.length : Int), .slice (some ⟨vb, 0, none⟩) m mc] w fun e w' => ∃ v', e = .returned v' ∧ Own w' base v' (l ++ d) ∧ w.grownBy w' (Value.slice A l.length c).ownBlock ∧ (v'.ownBlock = (Value.slice A l.length c).ownBlock ∨ v'.ownBlock = some w.heap.size) := by
 have HH := Lib.hid h
 have HS := Lib.hid hs
 have HSZ : Hid (l.length + d.length ≤ 1000000) := Lib.hid (by omega)
 have HB := Lib.hid hb
 have t0 : ¬ ((m : Int) = 0) := by omega
 obtain ⟨n, hn⟩ : ∃ n, n = l.length := ⟨_, rfl⟩
 unfold maxLen at hcm
 rw [← hn] at HH hlc hl ⊢
 have HN := Lib.hid hn
 have hA : (A = none ∧ c = 0 ∧ n = 0) ∨ ∃ g, A = some ⟨g, 0, none⟩ := by
  rcases h with ⟨e, e2⟩ | ⟨g, _, _, e, _⟩
  ·injection e with e1 e3 e4
   exact .inl ⟨e1, e4, by rw [hn, e2]; rfl⟩
  ·injection e with e1 _ _
   exact .inr ⟨g, e1⟩
 clear h hs hn hm hm0 hm2 hb
 go_enter Tryz.func206, Tryz.ntmps206
 rcases hA with ⟨rfl, rfl, rfl⟩ | ⟨g, rfl⟩
 ·skip
  go_wp2_with (at_builtin; refine wpList_append_rg rfl (.tmp 23) (.tmp 24) rfl rfl rfl HH.out HS.out HSZ.out HB.out ?_; intro v' w' ho hg hor; refine unhid ?_)
  refine Lib.hid ?_
  have O := Lib.hid (⟨ho, hg, hor⟩ : _ ∧ _ ∧ _)
  clear ho hg hor
  go_wp2_with fail
  go_ret
  exact ⟨_, rfl, O.out⟩
 ·by_cases hcn : c = n
  ·subst hcn
   go_wp2_with (at_builtin; refine wpList_append_rg rfl (.tmp 23) (.tmp 24) rfl rfl rfl HH.out HS.out HSZ.out HB.out ?_; intro v' w' ho hg hor; refine unhid ?_)
   refine Lib.hid ?_
   have O := Lib.hid (⟨ho, hg, hor⟩ : _ ∧ _ ∧ _)
   clear ho hg hor
   go_wp2_with fail
   go_ret
   exact ⟨_, rfl, O.out⟩
  ·have hcn' : ¬ n = c := fun e => hcn e.symm
   go_wp2_with (at_builtin; refine wpList_append_rg rfl (.tmp 23) (.tmp 24) rfl rfl rfl HH.out HS.out HSZ.out HB.out ?_; intro v' w' ho hg hor; refine unhid ?_)
   refine Lib.hid ?_
   have O := Lib.hid (⟨ho, hg, hor⟩ : _ ∧ _ ∧ _)
   clear ho hg hor
   go_wp2_with fail
   go_ret
   exact ⟨_, rfl, O.out⟩
theorem wpList_appz_rg (w : World) {ops : Array Oper} {rest : List Oper} {o : Oper} {a : Act} {Q : Exit → Act → World → Prop} (hgd : o.guard = none) (s y : Operand)
  (ho : o.op = .call { callee := .builtin .append, args := #[s, y], argTypes := #[49, 3] }) (v u : Value) (hd : a.eval s = v) (hs : a.eval y = u) {v' : Value} {w' : World}
  (hr : (Builtin.append_ #[49, 3] o.type #[v, u]).run Tryz.prog w = .ok v' w') (h : wpList Tryz.prog ops Q rest (a.put o.dst v') w') : wpList Tryz.prog ops Q (o :: rest) a w := by
 refine wpList_plain hgd fun K hK' => ?_
 unfold Oper.wp execOp
 simp only [ho, resolve, invoke, builtin, Sem.run_bind, Sem.run_pure, Result.andThen_ok, List.map_toArray, List.map_cons, List.map_nil, hd, hs, hr]
 exact hK' _ _ h
def Cs (w : World) (b o : Nat) (d : List Rg) : Prop := b < w.heap.size ∧ ∀ j v, (rcells d)[j]? = some v → w.cell? ⟨b, o + j, none⟩ = some v
theorem Cs.far {w w' : World} {b o : Nat} {d : List Rg} {row : Option Nat} (h : Cs w b o d) (hg : w.grownBy w' row) (hne : some b ≠ row) : Cs w' b o d :=
 ⟨Nat.lt_of_lt_of_le h.1 hg.size, fun j v hj => (World.cell?_of_block (hg.block b h.1 hne)).trans (h.2 j v hj)⟩
theorem Cs.drew {w : World} {b o : Nat} {d : List Rg} (h : Cs w b o d) : Cs w.drew b o d := h
theorem own_cs {w : World} {base g n c : Nat} {l : List Rg} (h : Own w base (.slice (some ⟨g, 0, none⟩) n c) l) (q : Nat) : Cs w g (q * 2) (l.drop q) := ⟨h.room.2.2.1, own_cells h q⟩
theorem Own.drew {w : World} {base : Nat} {v : Value} {l : List Rg} (h : Own w base v l) : Own w.drew base v l := h
set_option maxHeartbeats 1600000 in
theorem insert_grow {w : World} {base g n c : Nat} {l d : List Rg} {vb m mc i : Nat} (h : Own w base (.slice (some ⟨g, 0, none⟩) n c) l) (hb : base ≤ w.heap.size) (hl : l.length ≤ 100000)
  (hs : Cs w vb 0 d) (hm : m = d.length) (hm0 : 0 < m) (hm2 : m ≤ 2) (hin : i < n) (hc : c < n + m) :
  Calls Tryz.prog 206 #[.slice (some ⟨g, 0, none⟩) n c, .int .i64 (i : Int), .slice (some ⟨vb, 0, none⟩) m mc] w fun e w' => ∃ v', e = .returned v' ∧ Own w' base v' (l.take i ++ (d ++ l.drop i)) ∧ w.grownBy w' none ∧ v'.ownBlock = some w.heap.size := by
 obtain ⟨_, _, hgl, _, hn, hnc, hcm, _⟩ := h.room
 unfold maxLen at hcm
 obtain ⟨C, W1, hz, hO, hG⟩ := own_zeros h i (n + m - i) (by omega) (by omega) (by omega) (by omega) hb
 have ekz : ((n + m - i : Nat) : Int) = (n : Int) + (m : Int) - (i : Int) := by omega
 have enm : i + (n + m - i) = n + m := by omega
 rw [ekz, enm] at hz
 rw [enm] at hO
 obtain ⟨G, hGG⟩ : ∃ G, G = w.heap.size := ⟨_, rfl⟩
 rw [← hGG] at hz hO
 have hlen1 : (l.take i ++ List.replicate (n + m - i) (0, 0) : List Rg).length = n + m := by rw [List.length_append, List.length_take, List.length_replicate]; omega
 have hCn : n + m ≤ C := hO.room.2.2.2.2.2.1
 have hCm := hO.room.2.2.2.2.2.2.1
 unfold maxLen at hCm
 have hs1 := hs.far hG (by simp)
 have c1 : ∀ ty dc, (Builtin.copy_ #[49, 49] ty #[.slice (some ⟨G, i * 2, none⟩) (n + m - i) dc, .slice (some ⟨vb, 0, none⟩) m mc]).run Tryz.prog W1 = .ok (goInt d.length) (W1.setCells G (i * 2) (rcells d)) := fun ty dc =>
  copy_own hO ty hs1.2 (by rw [← hm]; exact Nat.min_eq_left (by omega)) (by omega)
 have hO2 := own_put hO (q := i) d (by rw [hlen1]; omega)
 obtain ⟨L1, hL1⟩ : ∃ L1, L1 = (l.take i ++ List.replicate (n + m - i) (0, 0) : List Rg).take i ++ (d ++ (l.take i ++ List.replicate (n + m - i) (0, 0) : List Rg).drop (i + d.length)) := ⟨_, rfl⟩
 rw [← hL1] at hO2
 have htk : L1.take (i + m) = l.take i ++ d := by
  have hti : (l.take i).length = i := by rw [List.length_take]; omega
  have hA : (l.take i ++ List.replicate (n + m - i) (0, 0) : List Rg).take i = l.take i := by rw [List.take_append_of_le_length (by omega), List.take_take, Nat.min_self]
  have hAd : (l.take i ++ d).length = i + m := by rw [List.length_append, hti, ← hm]
  rw [hL1, hA, ← List.append_assoc, List.take_append_of_le_length (by omega), List.take_of_length_le (by omega)]
 have hgne : G ≠ g := by omega
 have hs2 := ((own_cs h i).far hG (by simp)).far (grown_setCells G (rcells d) (i * 2) W1) (fun e => by injection e with e; omega)
 have hG2 : w.grownBy (W1.setCells G (i * 2) (rcells d)) none := ⟨(grown_setCells G (rcells d) (i * 2) W1).os.trans hG.os, (grown_setCells G (rcells d) (i * 2) W1).tape.trans hG.tape, (grown_setCells G (rcells d) (i * 2) W1).output.trans hG.output, Nat.le_trans hG.size (grown_setCells G (rcells d) (i * 2) W1).size, fun k hk hne => ((grown_setCells G (rcells d) (i * 2) W1).block k (Nat.lt_of_lt_of_le hk hG.size) (fun e => by injection e with e; omega)).trans (hG.block k hk hne)⟩
 obtain ⟨W2, hW2⟩ : ∃ W2, W2 = W1.setCells G (i * 2) (rcells d) := ⟨_, rfl⟩
 rw [← hW2] at c1 hO2 hs2 hG2
 have hdl : (l.drop i).length = n - i := by rw [List.length_drop]; omega
 have c2 : ∀ ty dc sc, (Builtin.copy_ #[49, 49] ty #[.slice (some ⟨G, (i + m) * 2, none⟩) (n + m - (i + m)) dc, .slice (some ⟨g, i * 2, none⟩) (n - i) sc]).run Tryz.prog W2.drew = .ok (goInt (l.drop i).length) (W2.drew.setCells G ((i + m) * 2) (rcells (l.drop i))) := fun ty dc sc =>
  copy_own hO2.drew ty hs2.drew.2 (by rw [hdl, show n + m - (i + m) = n - i by omega]; exact Nat.min_self _) (by rw [hdl]; omega)
 have hL1l : i + m ≤ L1.length := by
  have := hO2.room.2.2.2.2.1
  omega
 have hO3 := own_copy hO2.drew (q := i + m) (l.drop i) hL1l (by rw [hdl]; omega)
 rw [htk, hdl, show i + m + (n - i) = n + m by omega, List.append_assoc] at hO3
 have hG3 : w.grownBy (W2.drew.setCells G ((i + m) * 2) (rcells (l.drop i))) none := ⟨(grown_setCells G (rcells (l.drop i)) ((i + m) * 2) W2.drew).os.trans hG2.os, (grown_setCells G (rcells (l.drop i)) ((i + m) * 2) W2.drew).tape.trans hG2.tape, (grown_setCells G (rcells (l.drop i)) ((i + m) * 2) W2.drew).output.trans hG2.output, Nat.le_trans hG2.size (grown_setCells G (rcells (l.drop i)) ((i + m) * 2) W2.drew).size, fun k hk hne => ((grown_setCells G (rcells (l.drop i)) ((i + m) * 2) W2.drew).block k (Nat.lt_of_lt_of_le hk hG2.size) (fun e => by injection e with e; omega)).trans (hG2.block k hk hne)⟩
 have HZ := Lib.hid hz
 have C1 := Lib.hid c1
 have C2 := Lib.hid c2
 have HO3 := Lib.hid hO3
 have HG3 := Lib.hid hG3
 have HGG := Lib.hid hGG
 have hnb : n ≤ 100000 := by omega
 have t0 : ¬ ((m : Int) = 0) := by omega
 have t1 : ¬ ((i : Int) = (n : Int)) := by omega
 have t2 : (c : Int) < (n : Int) + (m : Int) := by omega
 have t3 : ¬ (c = i) := by omega
 have t4 : ¬ (C = i) := by omega
 have t5 : ¬ (C = i + m) := by omega
 have hin' : i ≤ n := by omega
 have hw1 : IntKind.i64.wrap ((i : Int) + (m : Int)) = (i : Int) + (m : Int) := by rw [IntKind.wrap_i64]; omega
 have hb1 : (0 : Int) ≤ (i : Int) + (m : Int) := by omega
 have htn : ((i : Int) + (m : Int)).toNat = i + m := by omega
 have HL1 := Lib.hid hL1
 have HW2 := Lib.hid hW2
 clear hz c1 c2 hO hO2 hO3 hG hG2 hG3 hs hs1 hs2 hL1 hL1l htk hlen1 h ekz enm hgne hdl hGG hm hn hW2 hCm
 go_enter Tryz.func206, Tryz.ntmps206
 go_wp2_with (at_builtin; go_loud (refine wpList_appz_rg _ rfl (.tmp 34) (.tmp 39) rfl _ _ rfl rfl (HZ.out _) ?_); refine unhid ?_)
 refine Lib.hid ?_
 go_wp2_with ((refine wpList_copy_rg _ rfl (.tmp 43) (.tmp 44) rfl _ _ rfl rfl (C1.out _ _) ?_); refine unhid ?_)
 refine Lib.hid ?_
 go_wp2_with fail
 have c2 := C2.out
 go_region
 clear c2
 go_wp2_with fail
 go_ret
 exact ⟨_, rfl, HO3.out, HG3.out, congrArg some HGG.out⟩
end Sp
end Go.Proofs.YtgbehfkimchglaaGreatDoor
namespace Go.Proofs.YtgbehfkimchglaaGreatDoor
open Go Go.RowKit
set_option maxRecDepth 100000
set_option linter.unusedVariables false
namespace Sp
def Pl (w : World) (b : Nat) (d : List Rg) : Prop := ∃ cur, Blk w b 61 cur ∧ ∀ (j : Nat) (v : Value), (rcells d)[j]? = some v → cur[j]? = some v
theorem Pl.cs {w : World} {b : Nat} {d : List Rg} (h : Pl w b d) : Cs w b 0 d := by
 obtain ⟨cur, h1, h2⟩ := h
 exact ⟨h1.lt, fun j v hj => by rw [Nat.zero_add, h1.cell]; exact h2 j v hj⟩
theorem Pl.sr {w : World} {b m c : Nat} {d : List Rg} (h : Pl w b d) (hm : m = d.length) : Sr w (.slice (some ⟨b, 0, none⟩) m c) d := by
 subst hm
 exact Sr.of h.cs.2
def Put (w : World) (g : Nat) (x : Value) (m : Nat) (d : List Rg) : Prop := m = d.length ∧ ((x = .slice none 0 0 ∧ d = []) ∨ ∃ vb c, x = .slice (some ⟨vb, 0, none⟩) m c ∧ vb ≠ g ∧ Pl w vb d)
theorem Put.sr {w : World} {g m : Nat} {x : Value} {d : List Rg} (h : Put w g x m d) : Sr w x d := by
 obtain ⟨hm, ⟨rfl, rfl⟩ | ⟨vb, c, rfl, _, hp⟩⟩ := h
 ·exact Sr.nil w
 ·exact hp.sr hm
theorem Put.shape {w : World} {g m : Nat} {x : Value} {d : List Rg} (h : Put w g x m d) : ∃ A c, x = .slice A m c := by
 obtain ⟨hm, ⟨rfl, rfl⟩ | ⟨vb, c, rfl, _, hp⟩⟩ := h
 ·exact ⟨none, 0, by rw [hm]; rfl⟩
 ·exact ⟨_, _, rfl⟩
theorem copy_put {w : World} {base g g0 n c m : Nat} {x : Value} {l d : List Rg} (hp : Put w g0 x m d) (h : Own w base (.slice (some ⟨g, 0, none⟩) n c) l) (ty : TypeId) {q dLen dCap : Nat} (hd : m ≤ dLen) (hc : q + m ≤ c) :
  (Builtin.copy_ #[49, 49] ty #[.slice (some ⟨g, q * 2, none⟩) dLen dCap, x]).run Tryz.prog w = .ok (goInt d.length) (w.setCells g (q * 2) (rcells d)) := by
 obtain ⟨hm, ⟨rfl, rfl⟩ | ⟨vb, c', rfl, _, hp⟩⟩ := hp
 ·exact run_copy2_none w ty _ _ _
 ·exact copy_own h ty hp.cs.2 (by rw [← hm]; exact Nat.min_eq_left hd) (by omega)
theorem overlaps_no {w : World} {va vb oa ob la ca lb cb : Nat} {ca' cb' : Array Value} (ha : Blk w va 61 ca') (hb : Blk w vb 61 cb') (hne : va ≠ vb) (h0 : cb'.size ≠ 0) (hfa : w.frozen? ⟨va, oa, none⟩ = false) :
  (callFunc 207 #[.slice (some ⟨va, oa, none⟩) la ca, .slice (some ⟨vb, ob, none⟩) lb cb]).run Tryz.prog w = .ok (.value (.bool false)) w := by
 have hsa : w.shape? va = some (61, ca'.size) := by unfold Blk at ha; simp [World.shape?, ha]
 have hsb : w.shape? vb = some (61, cb'.size) := by unfold Blk at hb; simp [World.shape?, hb]
 rw [run_callFunc_extern Tryz.func207 (by kernel_rfl) (by kernel_rfl) (by kernel_rfl) (e := Extern.SlicesOverlaps.overlaps #[49, 49] #[4]) (by kernel_rfl),
  Lib.run_overlaps_apart w 49 4 61 Tryz.underlying49 2 sizeR ⟨va, oa, none⟩ ⟨vb, ob, none⟩ la ca lb cb hne _ _ _ _ hsa hsb h0 hfa (ha.frozen _)]
 rfl
theorem Own.blk {w : World} {base g n c : Nat} {l : List Rg} (h : Own w base (.slice (some ⟨g, 0, none⟩) n c) l) : ∃ cur, Blk w g 61 cur ∧ cur.size = c * 2 := by
 rcases h with ⟨e, _⟩ | ⟨g', cap, cur, e, hg, hb, h1, h2, h3, h4⟩
 ·cases e
 ·injection e with e1 e2 e3
  injection e1 with e1
  injection e1 with e1 _ _
  subst e1 e3
  exact ⟨cur, hb, h3⟩
theorem Cs.set {w : World} {b o g p : Nat} {d : List Rg} {vs : List Value} (h : Cs w b o d) (hne : b ≠ g ∨ o + d.length * 2 ≤ p ∨ p + vs.length ≤ o) : Cs (w.setCells g p vs) b o d :=
 ⟨Nat.lt_of_lt_of_le h.1 (grown_setCells g vs p w).size, fun j v hj => by
  have hlt : j < d.length * 2 := by have := (List.getElem?_eq_some_iff.1 hj).1; rw [rcells_length] at this; exact this
  rw [World.cell?_setCells_out g vs p w ⟨b, o + j, none⟩ (fun e _ => by
   rcases hne with h1 | h1 | h1
   ·exact absurd e h1
   ·left; show o + j < p; omega
   ·right; show p + vs.length ≤ o + j; omega)]
  exact h.2 j v hj⟩
theorem grown_drew (w : World) (g o : Nat) (vs : List Value) : w.grownBy (w.drew.setCells g o vs) (some g) :=
 have h := grown_setCells g vs o w.drew
 ⟨h.os, h.tape, h.output, h.size, h.block⟩
theorem own_behind {w : World} {base g n c : Nat} {l : List Rg} (h : Own w base (.slice (some ⟨g, 0, none⟩) n c) l) {o : Nat} (vs : List Value) (ho : l.length * 2 ≤ o) : Own (w.setCells g o vs) base (.slice (some ⟨g, 0, none⟩) n c) l := by
 obtain ⟨_, _, _, _, hn, hnc, _⟩ := h.room
 refine h.set hn (by omega) fun cur hs he j hj => ?_
 rw [if_neg (by omega)]
 exact he j hj
set_option maxHeartbeats 1600000 in
theorem insert_shift {w : World} {base g n c : Nat} {l d : List Rg} {vb m mc i : Nat} (h : Own w base (.slice (some ⟨g, 0, none⟩) n c) l) (hl : l.length ≤ 100000)
  (hs : Pl w vb d) (hne : vb ≠ g) (hm : m = d.length) (hm0 : 0 < m) (hin : i + m ≤ n) (hc : n + m ≤ c) :
  Calls Tryz.prog 206 #[.slice (some ⟨g, 0, none⟩) n c, .int .i64 (i : Int), .slice (some ⟨vb, 0, none⟩) m mc] w fun e w' => ∃ v', e = .returned v' ∧ Own w' base v' (l.take i ++ (d ++ l.drop i)) ∧ w.grownBy w' (some g) ∧ v'.ownBlock = some g := by
 obtain ⟨_, _, hgl, _, hn, hnc, hcm, _⟩ := h.room
 unfold maxLen at hcm
 obtain ⟨ca, hca, _⟩ := hs
 obtain ⟨cg, hcg, hcgs⟩ := h.blk
 have hov : ∀ lb cb, (callFunc 207 #[.slice (some ⟨vb, 0, none⟩) m mc, .slice (some ⟨g, (i + m) * 2, none⟩) lb cb]).run Tryz.prog w = .ok (.value (.bool false)) w := fun lb cb => overlaps_no hca hcg hne (by rw [hcgs]; omega) (hca.frozen 0)
 have hdl : (l.drop i).length = n - i := by rw [List.length_drop]; omega
 have c1 : ∀ ty dc sc, (Builtin.copy_ #[49, 49] ty #[.slice (some ⟨g, (i + m) * 2, none⟩) (n + m - (i + m)) dc, .slice (some ⟨g, i * 2, none⟩) (n + m - i) sc]).run Tryz.prog w.drew = .ok (goInt (l.drop i).length) (w.drew.setCells g ((i + m) * 2) (rcells (l.drop i))) := fun ty dc sc =>
  copy_own h.drew ty (own_cells h.drew i) (by rw [hdl, show n + m - (i + m) = n - i by omega]; exact Nat.min_eq_right (by omega)) (by rw [hdl]; omega)
 have hO1 := own_copy h.drew (q := i + m) (l.drop i) (by omega) (by rw [hdl]; omega)
 rw [hdl, show i + m + (n - i) = n + m by omega] at hO1
 have hs1 := Pl.cs (w := w) (b := vb) (d := d) ⟨ca, hca, by assumption⟩
 have hs2 := (hs1.drew.set (g := g) (p := (i + m) * 2) (vs := rcells (l.drop i)) (.inl hne))
 have hG1 := grown_drew w g ((i + m) * 2) (rcells (l.drop i))
 obtain ⟨W1, hW1⟩ : ∃ W1, W1 = w.drew.setCells g ((i + m) * 2) (rcells (l.drop i)) := ⟨_, rfl⟩
 rw [← hW1] at hO1 hs2 hG1 c1
 have c2 : ∀ ty dc, (Builtin.copy_ #[49, 49] ty #[.slice (some ⟨g, i * 2, none⟩) (n + m - i) dc, .slice (some ⟨vb, 0, none⟩) m mc]).run Tryz.prog W1 = .ok (goInt d.length) (W1.setCells g (i * 2) (rcells d)) := fun ty dc =>
  copy_own hO1 ty hs2.2 (by rw [← hm]; exact Nat.min_eq_left (by omega)) (by omega)
 have hO2 := own_put hO1 (q := i) d (by rw [List.length_append, List.length_take, hdl]; omega)
 have hti : (l.take (i + m)).length = i + m := by rw [List.length_take]; omega
 have e1 : (l.take (i + m) ++ l.drop i).take i = l.take i := by rw [List.take_append_of_le_length (by omega), List.take_take, Nat.min_eq_left (by omega)]
 have e2 : (l.take (i + m) ++ l.drop i).drop (i + d.length) = l.drop i := by rw [← hm, List.drop_append_of_le_length (by omega), List.drop_of_length_le (by omega), List.nil_append]
 rw [e1, e2] at hO2
 have hG2 := grown_tr hG1 (grown_setCells g (rcells d) (i * 2) W1)
 have C1 := Lib.hid c1
 have C2 := Lib.hid c2
 have HO := Lib.hid hO2
 have HG := Lib.hid hG2
 have hnb : n ≤ 100000 := by omega
 have t0 : ¬ ((m : Int) = 0) := by omega
 have t1 : ¬ ((i : Int) = (n : Int)) := by omega
 have t2 : ¬ ((c : Int) < (n : Int) + (m : Int)) := by omega
 have t3 : ¬ (c = i) := by omega
 have t5 : ¬ (c = i + m) := by omega
 have hin' : i ≤ n := by omega
 have hin2 : (i : Int) ≤ (n : Int) + (m : Int) := by omega
 have hw1 : IntKind.i64.wrap ((i : Int) + (m : Int)) = (i : Int) + (m : Int) := by rw [IntKind.wrap_i64]; omega
 have hb1 : (0 : Int) ≤ (i : Int) + (m : Int) := by omega
 have htn : ((i : Int) + (m : Int)).toNat = i + m := by omega
 clear hO1 hO2 hG1 hG2 hs1 hs2 e1 e2 hti c1 c2 hdl hca hcg hcgs h hn hm hW1
 go_enter Tryz.func206, Tryz.ntmps206
 go_wp2_with (simp only [hov])
 have c1 := C1.out
 go_region
 clear c1
 go_wp2_with ((refine wpList_copy_rg _ rfl (.tmp 80) (.tmp 81) rfl _ _ rfl rfl (C2.out _ _) ?_); refine unhid ?_)
 refine Lib.hid ?_
 go_wp2_with fail
 go_ret
 exact ⟨_, rfl, HO.out, HG.out, rfl⟩
theorem run_clear_none (w : World) (ty : TypeId) (o : Option Addr) (dc : Nat) : (Builtin.clear_ #[49] ty #[.slice o 0 dc]).run Tryz.prog w = .ok (.tuple #[]) w := by
 cases o <;> simp [Builtin.clear_, run_underlying Tryz.underlying49]
/-! ### 'slices.Replace' -/
set_option maxHeartbeats 1600000 in
theorem replace_less {w : World} {base g n c : Nat} {l d : List Rg} {x : Value} {m i j : Nat} (h : Own w base (.slice (some ⟨g, 0, none⟩) n c) l) (hl : l.length ≤ 100000)
  (hx : Put w g x m d) (hij : i < j) (hm2 : i + m ≤ j) (hjn : j < n) :
  Calls Tryz.prog 177 #[.slice (some ⟨g, 0, none⟩) n c, .int .i64 (i : Int), .int .i64 (j : Int), x] w fun e w' => ∃ v', e = .returned v' ∧ Own w' base v' (l.take i ++ (d ++ l.drop j)) ∧ w.grownBy w' (some g) ∧ v'.ownBlock = some g := by
 have hn := h.room.2.2.2.2.1
 have hnc := h.room.2.2.2.2.2.1
 have hcm := h.room.2.2.2.2.2.2.1
 unfold maxLen at hcm
 obtain ⟨q, rfl⟩ : ∃ q, n = j + q := ⟨n - j, by omega⟩
 have hm := hx.1
 obtain ⟨A, mc, rfl⟩ := hx.shape
 have hti : (l.take i).length = i := by rw [List.length_take]; omega
 have hdl : (l.drop j).length = q := by rw [List.length_drop]; omega
 have hx0 : Put w.drew g (.slice A m mc) m d := hx
 have c1 : ∀ ty dc, (Builtin.copy_ #[49, 49] ty #[.slice (some ⟨g, i * 2, none⟩) (i + m + q - i) dc, .slice A m mc]).run Tryz.prog w.drew = .ok (goInt d.length) (w.drew.setCells g (i * 2) (rcells d)) := fun ty dc => copy_put hx0 h.drew ty (by omega) (by omega)
 have hO1 := own_put h.drew (q := i) d (by omega)
 have hG1 := grown_drew w g (i * 2) (rcells d)
 obtain ⟨W1, hW1⟩ : ∃ W1, W1 = w.drew.setCells g (i * 2) (rcells d) := ⟨_, rfl⟩
 obtain ⟨l1, hl1⟩ : ∃ l1, l1 = l.take i ++ (d ++ l.drop (i + d.length)) := ⟨_, rfl⟩
 rw [← hW1] at c1 hO1 hG1
 rw [← hl1] at hO1
 have hAd : (l.take i ++ d).length = i + m := by rw [List.length_append, hti, ← hm]
 have e1 : l1.take (i + m) = l.take i ++ d := by rw [hl1, ← List.append_assoc, List.take_append_of_le_length (by omega), List.take_of_length_le (by omega)]
 have e2 : l1.drop j = l.drop j := by
  rw [hl1, ← List.append_assoc, List.drop_append, hAd, List.drop_of_length_le (by omega), List.nil_append, List.drop_drop]
  congr 1
  omega
 have hl1l : l1.length = j + q := by have := hO1.room.2.2.2.2.1; omega
 have c2 : ∀ ty dc sc, (Builtin.copy_ #[49, 49] ty #[.slice (some ⟨g, (i + m) * 2, none⟩) q dc, .slice (some ⟨g, j * 2, none⟩) q sc]).run Tryz.prog W1.drew = .ok (goInt (l.drop j).length) (W1.drew.setCells g ((i + m) * 2) (rcells (l.drop j))) := fun ty dc sc =>
  copy_own hO1.drew ty (by rw [← e2]; exact own_cells hO1.drew j) (by rw [hdl]; exact Nat.min_self _) (by rw [hdl]; omega)
 have hO2 := own_copy hO1.drew (q := i + m) (l.drop j) (by omega) (by rw [hdl]; omega)
 rw [e1, hdl, List.append_assoc] at hO2
 have hG2 := grown_tr hG1 (grown_drew W1 g ((i + m) * 2) (rcells (l.drop j)))
 obtain ⟨W2, hW2⟩ : ∃ W2, W2 = W1.drew.setCells g ((i + m) * 2) (rcells (l.drop j)) := ⟨_, rfl⟩
 rw [← hW2] at c2 hO2 hG2
 have hOl : (l.take i ++ (d ++ l.drop j)).length = i + m + q := by rw [← List.append_assoc, List.length_append, hAd, hdl]
 have r1 := hO2.room.1
 have r2 := hO2.room.2.1
 have c3 : ∀ ty dc, (Builtin.clear_ #[49] ty #[.slice (some ⟨g, (i + m + q) * 2, none⟩) (j + q - (i + m + q)) dc]).run Tryz.prog W2 = .ok (.tuple #[]) (W2.setCells g ((i + m + q) * 2) (List.replicate ((j + q - (i + m + q)) * 2) (.int .i64 0))) := fun ty dc =>
  run_clear2 W2 ty g ((i + m + q) * 2) (j + q - (i + m + q)) dc (fun k hk => r1 _ (by omega)) (fun k hk => r2 _)
 have hO3 := own_behind hO2 (o := (i + m + q) * 2) (List.replicate ((j + q - (i + m + q)) * 2) (.int .i64 0)) (by rw [hOl]; exact Nat.le_refl _)
 have hG3 := grown_tr hG2 (grown_setCells g (List.replicate ((j + q - (i + m + q)) * 2) (.int .i64 0)) ((i + m + q) * 2) W2)
 have C1 := Lib.hid c1
 have C2 := Lib.hid c2
 have C3 := Lib.hid c3
 have C4 := Lib.hid (run_clear_none W2)
 have HO2 := Lib.hid hO2
 have HG2 := Lib.hid hG2
 have HO := Lib.hid hO3
 have HG := Lib.hid hG3
 have hnb : j + q ≤ 100000 := by omega
 have hmb : m ≤ 100000 := by omega
 have hq0 : 0 < q := by omega
 have t1 : ¬ ((i : Int) = (j : Int)) := by omega
 have t2 : ¬ ((j : Int) = (j : Int) + (q : Int)) := by omega
 have t3 : ¬ (c = i) := by omega
 have t4 : ¬ (c = j) := by omega
 have t5 : ¬ (c = i + m) := by omega
 have t6 : (i : Int) + (m : Int) ≤ (j : Int) := by omega
 have hij' : i ≤ j := by omega
 have hjc : j + q ≤ c := hnc
 have htn : ((i : Int) + (m : Int)).toNat = i + m := by omega
 have htn2 : ((i : Int) + (m : Int) + (q : Int)).toNat = i + m + q := by omega
 have hb1 : (0 : Int) ≤ (i : Int) + (m : Int) := by omega
 have hb2 : (0 : Int) ≤ (i : Int) + (m : Int) + (q : Int) := by omega
 have t7 : ¬ ((c : Int) < (i : Int) + (m : Int) + (q : Int)) := by omega
 have t8 : (i : Int) + (m : Int) + (q : Int) ≤ (c : Int) := by omega
 have t9 : i + m ≤ i + m + q := by omega
 have t10 : (i : Int) + (m : Int) + (q : Int) ≤ (j : Int) + (q : Int) := by omega
 clear hO1 hO2 hO3 hG1 hG2 hG3 hx hx0 e1 e2 hti hAd hl1 hl1l hOl r1 r2 c1 c2 c3 hdl h hn hm hW1 hW2
 by_cases hct : c = i + m + q
 ·obtain rfl : j = i + m := by omega
  subst hct
  clear t10 t8 t7 t6 t5
  go_enter Tryz.func177, Tryz.ntmps177
  go_upto_region 9 with (fail)
  go_region
  go_wp2_with ((refine wpList_copy_rg _ rfl (.tmp 95) (.tmp 96) rfl _ _ rfl rfl (C1.out _ _) ?_); refine unhid ?_)
  refine Lib.hid ?_
  go_upto_region 18 with (fail)
  have c2 := C2.out
  go_region
  clear c2
  go_wp2_with ((refine wpList_clear_rg _ rfl (.tmp 110) rfl _ rfl (C4.out _ _ _) ?_); refine unhid ?_)
  refine Lib.hid ?_
  go_wp2_with fail
  go_ret
  exact ⟨_, rfl, HO2.out, HG2.out, rfl⟩
 ·clear C4 HO2 HG2
  go_enter Tryz.func177, Tryz.ntmps177
  go_upto_region 9 with (fail)
  go_region
  go_wp2_with ((refine wpList_copy_rg _ rfl (.tmp 95) (.tmp 96) rfl _ _ rfl rfl (C1.out _ _) ?_); refine unhid ?_)
  refine Lib.hid ?_
  go_upto_region 18 with (fail)
  have c2 := C2.out
  go_region
  clear c2
  go_wp2_with ((refine wpList_clear_rg _ rfl (.tmp 110) rfl _ rfl (C3.out _ _) ?_); refine unhid ?_)
  refine Lib.hid ?_
  go_wp2_with fail
  go_ret
  exact ⟨_, rfl, HO.out, HG.out, rfl⟩
end Sp
end Go.Proofs.YtgbehfkimchglaaGreatDoor
