/-
  'slices.Insert' and 'slices.Replace' of one or two ranges in the call's own row by contracts. Conditions: the rows are short; what is put lies in a block of its own.
-/
import Derived.Test.YtpbojhjbjnoihaaSpcApp
import Derived.Deep.RegionLaw
import Derived.Lib.Hide
import Derived.OwnWalk
import Derived.Deep.DeepCutAuto
namespace Go.Proofs.Ytpbojhjbjnoihaa
open Go Go.RowKit
set_option maxRecDepth 100000
set_option linter.unusedVariables false
namespace Sp
theorem unhid {p : Prop} (h : Hid p) : p := h.out
section
variable {w : World} {base g n c : Nat} {l : List Rg}
theorem own_copy (h : Own w base (.slice (some ⟨g, 0, none⟩) n c) l) {q : Nat} (d : List Rg) (hq : q ≤ l.length) (hc : q + d.length ≤ c) : Own (w.setCells g (q * 2) (rcells d)) base (.slice (some ⟨g, 0, none⟩) (q + d.length) c) (l.take q ++ d) := by
  have hl : (l.take q ++ d).length = q + d.length := by rw [List.length_append, List.length_take]; omega
  refine h.set hl.symm (by rw [hl]; exact hc) fun cur hs he j hj => ?_
  rw [hl] at hj
  rw [rcells_append, rcells_length]
  have hql : (rcells (l.take q)).length = q * 2 := by rw [rcells_length, List.length_take]; omega
  by_cases h1 : j < q * 2
  · rw [if_neg (by omega), he j (by omega), List.getElem?_append_left (by omega), rcells_take, List.getElem?_take_of_lt h1]
  · rw [if_pos ⟨by omega, by omega⟩, List.getElem?_append_right (by omega), hql]
theorem own_put (h : Own w base (.slice (some ⟨g, 0, none⟩) n c) l) {q : Nat} (d : List Rg) (hq : q + d.length ≤ l.length) : Own (w.setCells g (q * 2) (rcells d)) base (.slice (some ⟨g, 0, none⟩) n c) (l.take q ++ (d ++ l.drop (q + d.length))) := by
  obtain ⟨_, _, _, _, hn, hnc, _⟩ := h.room
  have hl : (l.take q ++ (d ++ l.drop (q + d.length))).length = n := by rw [List.length_append, List.length_append, List.length_take, List.length_drop]; omega
  refine h.set hl.symm (by rw [hl]; exact hnc) fun cur hs he j hj => ?_
  rw [hl] at hj
  rw [rcells_append, rcells_append, rcells_length]
  have hql : (rcells (l.take q)).length = q * 2 := by rw [rcells_length, List.length_take]; omega
  by_cases h1 : j < q * 2
  · rw [if_neg (by omega), he j (by omega), List.getElem?_append_left (by omega), rcells_take, List.getElem?_take_of_lt h1]
  · by_cases h2 : j < q * 2 + d.length * 2
    · rw [if_pos ⟨by omega, h2⟩, List.getElem?_append_right (by omega), hql, List.getElem?_append_left (by rw [rcells_length]; omega)]
    · rw [if_neg (by omega), he j (by omega), List.getElem?_append_right (by omega), hql, List.getElem?_append_right (by rw [rcells_length]; omega), rcells_length, rcells_drop, List.getElem?_drop]
      congr 1
      omega
theorem copy_own (h : Own w base (.slice (some ⟨g, 0, none⟩) n c) l) (ty : TypeId) {q dLen dCap sLen sCap b o : Nat} {d : List Rg} (hd : ∀ j v, (rcells d)[j]? = some v → w.cell? ⟨b, o + j, none⟩ = some v) (hm : Nat.min sLen dLen = d.length) (hc : q + d.length ≤ c) :
    (Builtin.copy_ #[31, 31] ty #[.slice (some ⟨g, q * 2, none⟩) dLen dCap, .slice (some ⟨b, o, none⟩) sLen sCap]).run Try.prog w = .ok (goInt d.length) (w.setCells g (q * 2) (rcells d)) := by
  obtain ⟨r1, r2, _⟩ := h.room
  have hr := run_copy2 w ty g (q * 2) dLen dCap ⟨b, o, none⟩ sLen sCap (rcells d) (by rw [rcells_length, hm]) (fun j v hj => by rw [add_plain]; exact hd j v hj) (fun j hj => r1 _ (by rw [rcells_length] at hj; omega)) (fun j hj => r2 _) (rcells_one d)
  rw [hm] at hr
  exact hr
/-- the row's own cells from place q on -/
theorem own_cells (h : Own w base (.slice (some ⟨g, 0, none⟩) n c) l) (q : Nat) : ∀ j v, (rcells (l.drop q))[j]? = some v → w.cell? ⟨g, q * 2 + j, none⟩ = some v := fun j v hj => by
  obtain ⟨_, _, _, _, _, _, _, r8, _⟩ := h.room
  rw [rcells_drop, List.getElem?_drop] at hj
  exact r8 _ _ hj
theorem own_zeros (h : Own w base (.slice (some ⟨g, 0, none⟩) n c) l) (i k : Nat) (hi : i ≤ l.length) (hk : 0 < k) (hg : c < i + k) (hl : i + k ≤ 1000000) (hb : base ≤ w.heap.size) :
    ∃ C W', (∀ ty, (Builtin.append_ #[31, 3] ty #[.slice (some ⟨g, 0, none⟩) i c, .int .i64 (k : Int)]).run Try.prog w = .ok (.slice (some ⟨w.heap.size, 0, none⟩) (i + k) C) W') ∧
      Own W' base (.slice (some ⟨w.heap.size, 0, none⟩) (i + k) C) (l.take i ++ List.replicate k (0, 0)) ∧ w.grownBy W' none := by
  obtain ⟨i0, hi0, hz0, hz1, hz2⟩ := info_parts infoR
  obtain ⟨_, _, _, _, _, _, _, r8, _⟩ := h.room
  have hold : (Builtin.firstCells i0.size i (.slice (some ⟨g, 0, none⟩) i c)).run Try.prog w.drew = .ok (rcells (l.take i)).toArray w.drew := by
    rw [hz1]
    refine run_firstCells_some (P := Try.prog) w.drew 2 i ⟨g, 0, none⟩ i c (rcells (l.take i)) (by rw [rcells_length, List.length_take]; omega) (fun j u hj => ?_)
    rw [add_plain, Nat.zero_add]
    rw [rcells_take, List.getElem?_take] at hj
    split at hj
    · exact r8 j u hj
    · cases hj
  have hr := fun ty => Lib.run_append_grow_zeros w 31 3 ty 34 i0 _ .i64 .i64 Try.underlying31 Try.underlying3 hi0 hz0 (some ⟨g, 0, none⟩) i c (rcells (l.take i)) hold k hk (by omega) hg (by omega) (by rw [hz2]; omega) (by rw [hz2]; exact growslice_fits hg (by omega))
  have hge := grownCap_ge w (i + k) c 34
  have hle : grownCap w (i + k) c 34 ≤ maxLen := grownCap_le_maxLen w (i + k) c 34 (by unfold maxLen; omega)
  obtain ⟨z, hz⟩ : ∃ z, grownCap w (i + k) c 34 = i + k + z := ⟨_, (Nat.add_sub_cancel' hge).symm⟩
  simp only [hz, show i + k + z - (i + k) = z by omega] at hr
  have hrep : ∀ k, rcells (List.replicate k (0, 0)) = List.replicate (k * 2) (.int .i64 0) := fun k => by
    induction k with
    | zero => rfl
    | succ k ih =>
      rw [List.replicate_succ, show (k + 1) * 2 = k * 2 + 1 + 1 by omega, List.replicate_succ, List.replicate_succ, ← ih]
      rfl
  have hx : (rcells (l.take i)).toArray ++ Builtin.zeroCells (Value.agg #[.int .i64 0, .int .i64 0]).cells k = (rcells (l.take i ++ List.replicate k (0, 0))).toArray := by
    apply Array.toList_inj.1
    rw [Array.toList_append, zcells, rcells_append, hrep]
  have hlen : (l.take i ++ List.replicate k (0, 0) : List Rg).length = i + k := by rw [List.length_append, List.length_take, List.length_replicate]; omega
  have ho := own_new (W := w.drew) (l := l.take i ++ List.replicate k (0, 0)) (k := z) (xs := (rcells (l.take i)).toArray ++ Builtin.zeroCells (Value.agg #[.int .i64 0, .int .i64 0]).cells k) hx (by rw [hlen]; omega)
  rw [hlen] at ho
  exact ⟨_, _, hr, ho.base_ hb, ⟨rfl, rfl, rfl, by simp, fun k hk _ => Below.heap_alloc w.drew _ k hk⟩⟩
end
set_option maxHeartbeats 1600000 in
theorem insert_end {w : World} {base : Nat} {A : Option Addr} {c : Nat} {l d : List Rg} {vb m mc : Nat} (h : Own w base (.slice A l.length c) l) (hb : base ≤ w.heap.size) (hl : l.length ≤ 100000) (hlc : l.length ≤ c) (hcm : c ≤ maxLen)
    (hs : Sr w (.slice (some ⟨vb, 0, none⟩) m mc) d) (hm : m = d.length) (hm0 : 0 < m) (hm2 : m ≤ 2) :
    Calls Try.prog 52 #[.slice A l.length c, .int .i64 (l.length : Int), .slice (some ⟨vb, 0, none⟩) m mc] w fun e w' => ∃ v', e = .returned v' ∧ Own w' base v' (l ++ d) ∧ w.grownBy w' (Value.slice A l.length c).ownBlock ∧ (v'.ownBlock = (Value.slice A l.length c).ownBlock ∨ v'.ownBlock = some w.heap.size) := by
  have HH := Lib.hid h
  have HS := Lib.hid hs
  have HSZ : Hid (l.length + d.length ≤ 1000000) := Lib.hid (by omega)
  have HB := Lib.hid hb
  have t0 : ¬ ((m : Int) = 0) := by omega
  obtain ⟨n, hn⟩ : ∃ n, n = l.length := ⟨_, rfl⟩
  unfold maxLen at hcm
  rw [← hn] at HH hlc hl ⊢
  have HN := Lib.hid hn
  have hA : (A = none ∧ c = 0 ∧ n = 0) ∨ ∃ g, A = some ⟨g, 0, none⟩ := by
    rcases h with ⟨e, e2⟩ | ⟨g, _, _, e, _⟩
    · injection e with e1 e3 e4
      exact .inl ⟨e1, e4, by rw [hn, e2]; rfl⟩
    · injection e with e1 _ _
      exact .inr ⟨g, e1⟩
  clear h hs hn hm hm0 hm2 hb
  go_enter Try.func52, Try.ntmps52
  rcases hA with ⟨rfl, rfl, rfl⟩ | ⟨g, rfl⟩
  · skip
    go_wp2_with (at_builtin; refine wpList_append_rg rfl (.tmp 23) (.tmp 24) rfl rfl rfl HH.out HS.out HSZ.out HB.out ?_; intro v' w' ho hg hor; refine unhid ?_)
    refine Lib.hid ?_
    have O := Lib.hid (⟨ho, hg, hor⟩ : _ ∧ _ ∧ _)
    clear ho hg hor
    go_wp2_with fail
    go_ret
    exact ⟨_, rfl, O.out⟩
  · by_cases hcn : c = n
    · subst hcn
      go_wp2_with (at_builtin; refine wpList_append_rg rfl (.tmp 23) (.tmp 24) rfl rfl rfl HH.out HS.out HSZ.out HB.out ?_; intro v' w' ho hg hor; refine unhid ?_)
      refine Lib.hid ?_
      have O := Lib.hid (⟨ho, hg, hor⟩ : _ ∧ _ ∧ _)
      clear ho hg hor
      go_wp2_with fail
      go_ret
      exact ⟨_, rfl, O.out⟩
    · have hcn' : ¬ n = c := fun e => hcn e.symm
      go_wp2_with (at_builtin; refine wpList_append_rg rfl (.tmp 23) (.tmp 24) rfl rfl rfl HH.out HS.out HSZ.out HB.out ?_; intro v' w' ho hg hor; refine unhid ?_)
      refine Lib.hid ?_
      have O := Lib.hid (⟨ho, hg, hor⟩ : _ ∧ _ ∧ _)
      clear ho hg hor
      go_wp2_with fail
      go_ret
      exact ⟨_, rfl, O.out⟩
theorem wpList_appz_rg (w : World) {ops : Array Oper} {rest : List Oper} {o : Oper} {a : Act} {Q : Exit → Act → World → Prop} (hgd : o.guard = none) (s y : Operand)
    (ho : o.op = .call { callee := .builtin .append, args := #[s, y], argTypes := #[31, 3] }) (v u : Value) (hd : a.eval s = v) (hs : a.eval y = u) {v' : Value} {w' : World}
    (hr : (Builtin.append_ #[31, 3] o.type #[v, u]).run Try.prog w = .ok v' w') (h : wpList Try.prog ops Q rest (a.put o.dst v') w') : wpList Try.prog ops Q (o :: rest) a w := by
  refine wpList_plain hgd fun K hK' => ?_
  unfold Oper.wp execOp
  simp only [ho, resolve, invoke, builtin, Sem.run_bind, Sem.run_pure, Result.andThen_ok, List.map_toArray, List.map_cons, List.map_nil, hd, hs, hr]
  exact hK' _ _ h
/-- cells of ranges that stand in a block -/
def Cs (w : World) (b o : Nat) (d : List Rg) : Prop := b < w.heap.size ∧ ∀ j v, (rcells d)[j]? = some v → w.cell? ⟨b, o + j, none⟩ = some v
theorem Cs.far {w w' : World} {b o : Nat} {d : List Rg} {row : Option Nat} (h : Cs w b o d) (hg : w.grownBy w' row) (hne : some b ≠ row) : Cs w' b o d :=
  ⟨Nat.lt_of_lt_of_le h.1 hg.size, fun j v hj => (World.cell?_of_block (hg.block b h.1 hne)).trans (h.2 j v hj)⟩
theorem Cs.drew {w : World} {b o : Nat} {d : List Rg} (h : Cs w b o d) : Cs w.drew b o d := h
theorem own_cs {w : World} {base g n c : Nat} {l : List Rg} (h : Own w base (.slice (some ⟨g, 0, none⟩) n c) l) (q : Nat) : Cs w g (q * 2) (l.drop q) := ⟨h.room.2.2.1, own_cells h q⟩
theorem Own.drew {w : World} {base : Nat} {v : Value} {l : List Rg} (h : Own w base v l) : Own w.drew base v l := h
set_option maxHeartbeats 1600000 in
theorem insert_grow {w : World} {base g n c : Nat} {l d : List Rg} {vb m mc i : Nat} (h : Own w base (.slice (some ⟨g, 0, none⟩) n c) l) (hb : base ≤ w.heap.size) (hl : l.length ≤ 100000)
    (hs : Cs w vb 0 d) (hm : m = d.length) (hm0 : 0 < m) (hm2 : m ≤ 2) (hin : i < n) (hc : c < n + m) :
    Calls Try.prog 52 #[.slice (some ⟨g, 0, none⟩) n c, .int .i64 (i : Int), .slice (some ⟨vb, 0, none⟩) m mc] w fun e w' => ∃ v', e = .returned v' ∧ Own w' base v' (l.take i ++ (d ++ l.drop i)) ∧ w.grownBy w' none ∧ v'.ownBlock = some w.heap.size := by
  obtain ⟨_, _, hgl, _, hn, hnc, hcm, _⟩ := h.room
  unfold maxLen at hcm
  obtain ⟨C, W1, hz, hO, hG⟩ := own_zeros h i (n + m - i) (by omega) (by omega) (by omega) (by omega) hb
  have ekz : ((n + m - i : Nat) : Int) = (n : Int) + (m : Int) - (i : Int) := by omega
  have enm : i + (n + m - i) = n + m := by omega
  rw [ekz, enm] at hz
  rw [enm] at hO
  obtain ⟨G, hGG⟩ : ∃ G, G = w.heap.size := ⟨_, rfl⟩
  rw [← hGG] at hz hO
  have hlen1 : (l.take i ++ List.replicate (n + m - i) (0, 0) : List Rg).length = n + m := by rw [List.length_append, List.length_take, List.length_replicate]; omega
  have hCn : n + m ≤ C := hO.room.2.2.2.2.2.1
  have hCm := hO.room.2.2.2.2.2.2.1
  unfold maxLen at hCm
  have hs1 := hs.far hG (by simp)
  have c1 : ∀ ty dc, (Builtin.copy_ #[31, 31] ty #[.slice (some ⟨G, i * 2, none⟩) (n + m - i) dc, .slice (some ⟨vb, 0, none⟩) m mc]).run Try.prog W1 = .ok (goInt d.length) (W1.setCells G (i * 2) (rcells d)) := fun ty dc =>
    copy_own hO ty hs1.2 (by rw [← hm]; exact Nat.min_eq_left (by omega)) (by omega)
  have hO2 := own_put hO (q := i) d (by rw [hlen1]; omega)
  obtain ⟨L1, hL1⟩ : ∃ L1, L1 = (l.take i ++ List.replicate (n + m - i) (0, 0) : List Rg).take i ++ (d ++ (l.take i ++ List.replicate (n + m - i) (0, 0) : List Rg).drop (i + d.length)) := ⟨_, rfl⟩
  rw [← hL1] at hO2
  have htk : L1.take (i + m) = l.take i ++ d := by
    have hti : (l.take i).length = i := by rw [List.length_take]; omega
    have hA : (l.take i ++ List.replicate (n + m - i) (0, 0) : List Rg).take i = l.take i := by rw [List.take_append_of_le_length (by omega), List.take_take, Nat.min_self]
    have hAd : (l.take i ++ d).length = i + m := by rw [List.length_append, hti, ← hm]
    rw [hL1, hA, ← List.append_assoc, List.take_append_of_le_length (by omega), List.take_of_length_le (by omega)]
  have hgne : G ≠ g := by omega
  have hs2 := ((own_cs h i).far hG (by simp)).far (grown_setCells G (rcells d) (i * 2) W1) (fun e => by injection e with e; omega)
  have hG2 : w.grownBy (W1.setCells G (i * 2) (rcells d)) none := ⟨(grown_setCells G (rcells d) (i * 2) W1).os.trans hG.os, (grown_setCells G (rcells d) (i * 2) W1).tape.trans hG.tape, (grown_setCells G (rcells d) (i * 2) W1).output.trans hG.output, Nat.le_trans hG.size (grown_setCells G (rcells d) (i * 2) W1).size, fun k hk hne => ((grown_setCells G (rcells d) (i * 2) W1).block k (Nat.lt_of_lt_of_le hk hG.size) (fun e => by injection e with e; omega)).trans (hG.block k hk hne)⟩
  obtain ⟨W2, hW2⟩ : ∃ W2, W2 = W1.setCells G (i * 2) (rcells d) := ⟨_, rfl⟩
  rw [← hW2] at c1 hO2 hs2 hG2
  have hdl : (l.drop i).length = n - i := by rw [List.length_drop]; omega
  have c2 : ∀ ty dc sc, (Builtin.copy_ #[31, 31] ty #[.slice (some ⟨G, (i + m) * 2, none⟩) (n + m - (i + m)) dc, .slice (some ⟨g, i * 2, none⟩) (n - i) sc]).run Try.prog W2.drew = .ok (goInt (l.drop i).length) (W2.drew.setCells G ((i + m) * 2) (rcells (l.drop i))) := fun ty dc sc =>
    copy_own hO2.drew ty hs2.drew.2 (by rw [hdl, show n + m - (i + m) = n - i by omega]; exact Nat.min_self _) (by rw [hdl]; omega)
  have hL1l : i + m ≤ L1.length := by
    have := hO2.room.2.2.2.2.1
    omega
  have hO3 := own_copy hO2.drew (q := i + m) (l.drop i) hL1l (by rw [hdl]; omega)
  rw [htk, hdl, show i + m + (n - i) = n + m by omega, List.append_assoc] at hO3
  have hG3 : w.grownBy (W2.drew.setCells G ((i + m) * 2) (rcells (l.drop i))) none := ⟨(grown_setCells G (rcells (l.drop i)) ((i + m) * 2) W2.drew).os.trans hG2.os, (grown_setCells G (rcells (l.drop i)) ((i + m) * 2) W2.drew).tape.trans hG2.tape, (grown_setCells G (rcells (l.drop i)) ((i + m) * 2) W2.drew).output.trans hG2.output, Nat.le_trans hG2.size (grown_setCells G (rcells (l.drop i)) ((i + m) * 2) W2.drew).size, fun k hk hne => ((grown_setCells G (rcells (l.drop i)) ((i + m) * 2) W2.drew).block k (Nat.lt_of_lt_of_le hk hG2.size) (fun e => by injection e with e; omega)).trans (hG2.block k hk hne)⟩
  have HZ := Lib.hid hz
  have C1 := Lib.hid c1
  have C2 := Lib.hid c2
  have HO3 := Lib.hid hO3
  have HG3 := Lib.hid hG3
  have HGG := Lib.hid hGG
  have hnb : n ≤ 100000 := by omega
  have t0 : ¬ ((m : Int) = 0) := by omega
  have t1 : ¬ ((i : Int) = (n : Int)) := by omega
  have t2 : (c : Int) < (n : Int) + (m : Int) := by omega
  have t3 : ¬ (c = i) := by omega
  have t4 : ¬ (C = i) := by omega
  have t5 : ¬ (C = i + m) := by omega
  have hin' : i ≤ n := by omega
  have hw1 : IntKind.i64.wrap ((i : Int) + (m : Int)) = (i : Int) + (m : Int) := by rw [IntKind.wrap_i64]; omega
  have hb1 : (0 : Int) ≤ (i : Int) + (m : Int) := by omega
  have htn : ((i : Int) + (m : Int)).toNat = i + m := by omega
  have HL1 := Lib.hid hL1
  have HW2 := Lib.hid hW2
  clear hz c1 c2 hO hO2 hO3 hG hG2 hG3 hs hs1 hs2 hL1 hL1l htk hlen1 h ekz enm hgne hdl hGG hm hn hW2 hCm
  go_enter Try.func52, Try.ntmps52
  go_wp2_with (at_builtin; go_loud (refine wpList_appz_rg _ rfl (.tmp 34) (.tmp 39) rfl _ _ rfl rfl (HZ.out _) ?_); refine unhid ?_)
  refine Lib.hid ?_
  go_wp2_with ((refine wpList_copy_rg _ rfl (.tmp 43) (.tmp 44) rfl _ _ rfl rfl (C1.out _ _) ?_); refine unhid ?_)
  refine Lib.hid ?_
  go_wp2_with fail
  have c2 := C2.out
  go_region
  clear c2
  go_wp2_with fail
  go_ret
  exact ⟨_, rfl, HO3.out, HG3.out, congrArg some HGG.out⟩
end Sp
end Go.Proofs.Ytpbojhjbjnoihaa
