/-
  'slices.Insert' in place and 'slices.Replace' of ranges in the call's own row by contracts. Conditions: the rows are short; what is put lies in a block of its own.
-/
import Derived.Test.YtpbojhjbjnoihaaSpcIns
import Derived.Laws.Externs
namespace Go.Proofs.Ytpbojhjbjnoihaa
open Go Go.RowKit
set_option maxRecDepth 100000
set_option linter.unusedVariables false
namespace Sp
/-- a block of plain memory in which these ranges stand -/
def Pl (w : World) (b : Nat) (d : List Rg) : Prop := ∃ cur, Blk w b 34 cur ∧ ∀ (j : Nat) (v : Value), (rcells d)[j]? = some v → cur[j]? = some v
theorem Pl.cs {w : World} {b : Nat} {d : List Rg} (h : Pl w b d) : Cs w b 0 d := by
  obtain ⟨cur, h1, h2⟩ := h
  exact ⟨h1.lt, fun j v hj => by rw [Nat.zero_add, h1.cell]; exact h2 j v hj⟩
theorem Pl.sr {w : World} {b m c : Nat} {d : List Rg} (h : Pl w b d) (hm : m = d.length) : Sr w (.slice (some ⟨b, 0, none⟩) m c) d := by
  subst hm
  exact Sr.of h.cs.2
/-- what is handed on to be put: a row in a block of its own, or none -/
def Put (w : World) (g : Nat) (x : Value) (m : Nat) (d : List Rg) : Prop := m = d.length ∧ ((x = .slice none 0 0 ∧ d = []) ∨ ∃ vb c, x = .slice (some ⟨vb, 0, none⟩) m c ∧ vb ≠ g ∧ Pl w vb d)
theorem Put.sr {w : World} {g m : Nat} {x : Value} {d : List Rg} (h : Put w g x m d) : Sr w x d := by
  obtain ⟨hm, ⟨rfl, rfl⟩ | ⟨vb, c, rfl, _, hp⟩⟩ := h
  · exact Sr.nil w
  · exact hp.sr hm
theorem Put.shape {w : World} {g m : Nat} {x : Value} {d : List Rg} (h : Put w g x m d) : ∃ A c, x = .slice A m c := by
  obtain ⟨hm, ⟨rfl, rfl⟩ | ⟨vb, c, rfl, _, hp⟩⟩ := h
  · exact ⟨none, 0, by rw [hm]; rfl⟩
  · exact ⟨_, _, rfl⟩
/-- 'copy(r[q:], v)' -/
theorem copy_put {w : World} {base g g0 n c m : Nat} {x : Value} {l d : List Rg} (hp : Put w g0 x m d) (h : Own w base (.slice (some ⟨g, 0, none⟩) n c) l) (ty : TypeId) {q dLen dCap : Nat} (hd : m ≤ dLen) (hc : q + m ≤ c) :
    (Builtin.copy_ #[31, 31] ty #[.slice (some ⟨g, q * 2, none⟩) dLen dCap, x]).run Try.prog w = .ok (goInt d.length) (w.setCells g (q * 2) (rcells d)) := by
  obtain ⟨hm, ⟨rfl, rfl⟩ | ⟨vb, c', rfl, _, hp⟩⟩ := hp
  · exact run_copy2_none w ty _ _ _
  · exact copy_own h ty hp.cs.2 (by rw [← hm]; exact Nat.min_eq_left hd) (by omega)
/-- 'slices.overlaps': two blocks have nothing in common -/
theorem overlaps_no {w : World} {va vb oa ob la ca lb cb : Nat} {ca' cb' : Array Value} (ha : Blk w va 34 ca') (hb : Blk w vb 34 cb') (hne : va ≠ vb) (h0 : cb'.size ≠ 0) (hfa : w.frozen? ⟨va, oa, none⟩ = false) :
    (callFunc 53 #[.slice (some ⟨va, oa, none⟩) la ca, .slice (some ⟨vb, ob, none⟩) lb cb]).run Try.prog w = .ok (.value (.bool false)) w := by
  have hsa : w.shape? va = some (34, ca'.size) := by unfold Blk at ha; simp [World.shape?, ha]
  have hsb : w.shape? vb = some (34, cb'.size) := by unfold Blk at hb; simp [World.shape?, hb]
  rw [run_callFunc_extern Try.func53 (by kernel_rfl) (by kernel_rfl) (by kernel_rfl) (e := Extern.SlicesOverlaps.overlaps #[31, 31] #[4]) (by kernel_rfl),
    Lib.run_overlaps_apart w 31 4 34 Try.underlying31 2 sizeR ⟨va, oa, none⟩ ⟨vb, ob, none⟩ la ca lb cb hne _ _ _ _ hsa hsb h0 hfa (ha.frozen _)]
  rfl
theorem Own.blk {w : World} {base g n c : Nat} {l : List Rg} (h : Own w base (.slice (some ⟨g, 0, none⟩) n c) l) : ∃ cur, Blk w g 34 cur ∧ cur.size = c * 2 := by
  rcases h with ⟨e, _⟩ | ⟨g', cap, cur, e, hg, hb, h1, h2, h3, h4⟩
  · cases e
  · injection e with e1 e2 e3
    injection e1 with e1
    injection e1 with e1 _ _
    subst e1 e3
    exact ⟨cur, hb, h3⟩
theorem Cs.set {w : World} {b o g p : Nat} {d : List Rg} {vs : List Value} (h : Cs w b o d) (hne : b ≠ g ∨ o + d.length * 2 ≤ p ∨ p + vs.length ≤ o) : Cs (w.setCells g p vs) b o d :=
  ⟨Nat.lt_of_lt_of_le h.1 (grown_setCells g vs p w).size, fun j v hj => by
    have hlt : j < d.length * 2 := by have := (List.getElem?_eq_some_iff.1 hj).1; rw [rcells_length] at this; exact this
    rw [World.cell?_setCells_out g vs p w ⟨b, o + j, none⟩ (fun e _ => by
      rcases hne with h1 | h1 | h1
      · exact absurd e h1
      · left; show o + j < p; omega
      · right; show p + vs.length ≤ o + j; omega)]
    exact h.2 j v hj⟩
theorem grown_drew (w : World) (g o : Nat) (vs : List Value) : w.grownBy (w.drew.setCells g o vs) (some g) :=
  have h := grown_setCells g vs o w.drew
  ⟨h.os, h.tape, h.output, h.size, h.block⟩
theorem own_behind {w : World} {base g n c : Nat} {l : List Rg} (h : Own w base (.slice (some ⟨g, 0, none⟩) n c) l) {o : Nat} (vs : List Value) (ho : l.length * 2 ≤ o) : Own (w.setCells g o vs) base (.slice (some ⟨g, 0, none⟩) n c) l := by
  obtain ⟨_, _, _, _, hn, hnc, _⟩ := h.room
  refine h.set hn (by omega) fun cur hs he j hj => ?_
  rw [if_neg (by omega)]
  exact he j hj
set_option maxHeartbeats 1600000 in
theorem insert_shift {w : World} {base g n c : Nat} {l d : List Rg} {vb m mc i : Nat} (h : Own w base (.slice (some ⟨g, 0, none⟩) n c) l) (hl : l.length ≤ 100000)
    (hs : Pl w vb d) (hne : vb ≠ g) (hm : m = d.length) (hm0 : 0 < m) (hin : i + m ≤ n) (hc : n + m ≤ c) :
    Calls Try.prog 52 #[.slice (some ⟨g, 0, none⟩) n c, .int .i64 (i : Int), .slice (some ⟨vb, 0, none⟩) m mc] w fun e w' => ∃ v', e = .returned v' ∧ Own w' base v' (l.take i ++ (d ++ l.drop i)) ∧ w.grownBy w' (some g) ∧ v'.ownBlock = some g := by
  obtain ⟨_, _, hgl, _, hn, hnc, hcm, _⟩ := h.room
  unfold maxLen at hcm
  obtain ⟨ca, hca, _⟩ := hs
  obtain ⟨cg, hcg, hcgs⟩ := h.blk
  have hov : ∀ lb cb, (callFunc 53 #[.slice (some ⟨vb, 0, none⟩) m mc, .slice (some ⟨g, (i + m) * 2, none⟩) lb cb]).run Try.prog w = .ok (.value (.bool false)) w := fun lb cb => overlaps_no hca hcg hne (by rw [hcgs]; omega) (hca.frozen 0)
  have hdl : (l.drop i).length = n - i := by rw [List.length_drop]; omega
  have c1 : ∀ ty dc sc, (Builtin.copy_ #[31, 31] ty #[.slice (some ⟨g, (i + m) * 2, none⟩) (n + m - (i + m)) dc, .slice (some ⟨g, i * 2, none⟩) (n + m - i) sc]).run Try.prog w.drew = .ok (goInt (l.drop i).length) (w.drew.setCells g ((i + m) * 2) (rcells (l.drop i))) := fun ty dc sc =>
    copy_own h.drew ty (own_cells h.drew i) (by rw [hdl, show n + m - (i + m) = n - i by omega]; exact Nat.min_eq_right (by omega)) (by rw [hdl]; omega)
  have hO1 := own_copy h.drew (q := i + m) (l.drop i) (by omega) (by rw [hdl]; omega)
  rw [hdl, show i + m + (n - i) = n + m by omega] at hO1
  have hs1 := Pl.cs (w := w) (b := vb) (d := d) ⟨ca, hca, by assumption⟩
  have hs2 := (hs1.drew.set (g := g) (p := (i + m) * 2) (vs := rcells (l.drop i)) (.inl hne))
  have hG1 := grown_drew w g ((i + m) * 2) (rcells (l.drop i))
  obtain ⟨W1, hW1⟩ : ∃ W1, W1 = w.drew.setCells g ((i + m) * 2) (rcells (l.drop i)) := ⟨_, rfl⟩
  rw [← hW1] at hO1 hs2 hG1 c1
  have c2 : ∀ ty dc, (Builtin.copy_ #[31, 31] ty #[.slice (some ⟨g, i * 2, none⟩) (n + m - i) dc, .slice (some ⟨vb, 0, none⟩) m mc]).run Try.prog W1 = .ok (goInt d.length) (W1.setCells g (i * 2) (rcells d)) := fun ty dc =>
    copy_own hO1 ty hs2.2 (by rw [← hm]; exact Nat.min_eq_left (by omega)) (by omega)
  have hO2 := own_put hO1 (q := i) d (by rw [List.length_append, List.length_take, hdl]; omega)
  have hti : (l.take (i + m)).length = i + m := by rw [List.length_take]; omega
  have e1 : (l.take (i + m) ++ l.drop i).take i = l.take i := by rw [List.take_append_of_le_length (by omega), List.take_take, Nat.min_eq_left (by omega)]
  have e2 : (l.take (i + m) ++ l.drop i).drop (i + d.length) = l.drop i := by rw [← hm, List.drop_append_of_le_length (by omega), List.drop_of_length_le (by omega), List.nil_append]
  rw [e1, e2] at hO2
  have hG2 := grown_tr hG1 (grown_setCells g (rcells d) (i * 2) W1)
  have C1 := Lib.hid c1
  have C2 := Lib.hid c2
  have HO := Lib.hid hO2
  have HG := Lib.hid hG2
  have hnb : n ≤ 100000 := by omega
  have t0 : ¬ ((m : Int) = 0) := by omega
  have t1 : ¬ ((i : Int) = (n : Int)) := by omega
  have t2 : ¬ ((c : Int) < (n : Int) + (m : Int)) := by omega
  have t3 : ¬ (c = i) := by omega
  have t5 : ¬ (c = i + m) := by omega
  have hin' : i ≤ n := by omega
  have hin2 : (i : Int) ≤ (n : Int) + (m : Int) := by omega
  have hw1 : IntKind.i64.wrap ((i : Int) + (m : Int)) = (i : Int) + (m : Int) := by rw [IntKind.wrap_i64]; omega
  have hb1 : (0 : Int) ≤ (i : Int) + (m : Int) := by omega
  have htn : ((i : Int) + (m : Int)).toNat = i + m := by omega
  clear hO1 hO2 hG1 hG2 hs1 hs2 e1 e2 hti c1 c2 hdl hca hcg hcgs h hn hm hW1
  go_enter Try.func52, Try.ntmps52
  go_wp2_with (simp only [hov])
  have c1 := C1.out
  go_region
  clear c1
  go_wp2_with ((refine wpList_copy_rg _ rfl (.tmp 80) (.tmp 81) rfl _ _ rfl rfl (C2.out _ _) ?_); refine unhid ?_)
  refine Lib.hid ?_
  go_wp2_with fail
  go_ret
  exact ⟨_, rfl, HO.out, HG.out, rfl⟩
theorem run_clear_none (w : World) (ty : TypeId) (o : Option Addr) (dc : Nat) : (Builtin.clear_ #[31] ty #[.slice o 0 dc]).run Try.prog w = .ok (.tuple #[]) w := by
  cases o <;> simp [Builtin.clear_, run_underlying Try.underlying31]
/-! ### 'slices.Replace' -/
set_option maxHeartbeats 1600000 in
/-- in place: no more is put than is struck, and something stands behind -/
theorem replace_less {w : World} {base g n c : Nat} {l d : List Rg} {x : Value} {m i j : Nat} (h : Own w base (.slice (some ⟨g, 0, none⟩) n c) l) (hl : l.length ≤ 100000)
    (hx : Put w g x m d) (hij : i < j) (hm2 : i + m ≤ j) (hjn : j < n) :
    Calls Try.prog 47 #[.slice (some ⟨g, 0, none⟩) n c, .int .i64 (i : Int), .int .i64 (j : Int), x] w fun e w' => ∃ v', e = .returned v' ∧ Own w' base v' (l.take i ++ (d ++ l.drop j)) ∧ w.grownBy w' (some g) ∧ v'.ownBlock = some g := by
  have hn := h.room.2.2.2.2.1
  have hnc := h.room.2.2.2.2.2.1
  have hcm := h.room.2.2.2.2.2.2.1
  unfold maxLen at hcm
  obtain ⟨q, rfl⟩ : ∃ q, n = j + q := ⟨n - j, by omega⟩
  have hm := hx.1
  obtain ⟨A, mc, rfl⟩ := hx.shape
  have hti : (l.take i).length = i := by rw [List.length_take]; omega
  have hdl : (l.drop j).length = q := by rw [List.length_drop]; omega
  have hx0 : Put w.drew g (.slice A m mc) m d := hx
  have c1 : ∀ ty dc, (Builtin.copy_ #[31, 31] ty #[.slice (some ⟨g, i * 2, none⟩) (i + m + q - i) dc, .slice A m mc]).run Try.prog w.drew = .ok (goInt d.length) (w.drew.setCells g (i * 2) (rcells d)) := fun ty dc => copy_put hx0 h.drew ty (by omega) (by omega)
  have hO1 := own_put h.drew (q := i) d (by omega)
  have hG1 := grown_drew w g (i * 2) (rcells d)
  obtain ⟨W1, hW1⟩ : ∃ W1, W1 = w.drew.setCells g (i * 2) (rcells d) := ⟨_, rfl⟩
  obtain ⟨l1, hl1⟩ : ∃ l1, l1 = l.take i ++ (d ++ l.drop (i + d.length)) := ⟨_, rfl⟩
  rw [← hW1] at c1 hO1 hG1
  rw [← hl1] at hO1
  have hAd : (l.take i ++ d).length = i + m := by rw [List.length_append, hti, ← hm]
  have e1 : l1.take (i + m) = l.take i ++ d := by rw [hl1, ← List.append_assoc, List.take_append_of_le_length (by omega), List.take_of_length_le (by omega)]
  have e2 : l1.drop j = l.drop j := by
    rw [hl1, ← List.append_assoc, List.drop_append, hAd, List.drop_of_length_le (by omega), List.nil_append, List.drop_drop]
    congr 1
    omega
  have hl1l : l1.length = j + q := by have := hO1.room.2.2.2.2.1; omega
  have c2 : ∀ ty dc sc, (Builtin.copy_ #[31, 31] ty #[.slice (some ⟨g, (i + m) * 2, none⟩) q dc, .slice (some ⟨g, j * 2, none⟩) q sc]).run Try.prog W1.drew = .ok (goInt (l.drop j).length) (W1.drew.setCells g ((i + m) * 2) (rcells (l.drop j))) := fun ty dc sc =>
    copy_own hO1.drew ty (by rw [← e2]; exact own_cells hO1.drew j) (by rw [hdl]; exact Nat.min_self _) (by rw [hdl]; omega)
  have hO2 := own_copy hO1.drew (q := i + m) (l.drop j) (by omega) (by rw [hdl]; omega)
  rw [e1, hdl, List.append_assoc] at hO2
  have hG2 := grown_tr hG1 (grown_drew W1 g ((i + m) * 2) (rcells (l.drop j)))
  obtain ⟨W2, hW2⟩ : ∃ W2, W2 = W1.drew.setCells g ((i + m) * 2) (rcells (l.drop j)) := ⟨_, rfl⟩
  rw [← hW2] at c2 hO2 hG2
  have hOl : (l.take i ++ (d ++ l.drop j)).length = i + m + q := by rw [← List.append_assoc, List.length_append, hAd, hdl]
  have r1 := hO2.room.1
  have r2 := hO2.room.2.1
  have c3 : ∀ ty dc, (Builtin.clear_ #[31] ty #[.slice (some ⟨g, (i + m + q) * 2, none⟩) (j + q - (i + m + q)) dc]).run Try.prog W2 = .ok (.tuple #[]) (W2.setCells g ((i + m + q) * 2) (List.replicate ((j + q - (i + m + q)) * 2) (.int .i64 0))) := fun ty dc =>
    run_clear2 W2 ty g ((i + m + q) * 2) (j + q - (i + m + q)) dc (fun k hk => r1 _ (by omega)) (fun k hk => r2 _)
  have hO3 := own_behind hO2 (o := (i + m + q) * 2) (List.replicate ((j + q - (i + m + q)) * 2) (.int .i64 0)) (by rw [hOl]; exact Nat.le_refl _)
  have hG3 := grown_tr hG2 (grown_setCells g (List.replicate ((j + q - (i + m + q)) * 2) (.int .i64 0)) ((i + m + q) * 2) W2)
  have C1 := Lib.hid c1
  have C2 := Lib.hid c2
  have C3 := Lib.hid c3
  have C4 := Lib.hid (run_clear_none W2)
  have HO2 := Lib.hid hO2
  have HG2 := Lib.hid hG2
  have HO := Lib.hid hO3
  have HG := Lib.hid hG3
  have hnb : j + q ≤ 100000 := by omega
  have hmb : m ≤ 100000 := by omega
  have hq0 : 0 < q := by omega
  have t1 : ¬ ((i : Int) = (j : Int)) := by omega
  have t2 : ¬ ((j : Int) = (j : Int) + (q : Int)) := by omega
  have t3 : ¬ (c = i) := by omega
  have t4 : ¬ (c = j) := by omega
  have t5 : ¬ (c = i + m) := by omega
  have t6 : (i : Int) + (m : Int) ≤ (j : Int) := by omega
  have hij' : i ≤ j := by omega
  have hjc : j + q ≤ c := hnc
  have htn : ((i : Int) + (m : Int)).toNat = i + m := by omega
  have htn2 : ((i : Int) + (m : Int) + (q : Int)).toNat = i + m + q := by omega
  have hb1 : (0 : Int) ≤ (i : Int) + (m : Int) := by omega
  have hb2 : (0 : Int) ≤ (i : Int) + (m : Int) + (q : Int) := by omega
  have t7 : ¬ ((c : Int) < (i : Int) + (m : Int) + (q : Int)) := by omega
  have t8 : (i : Int) + (m : Int) + (q : Int) ≤ (c : Int) := by omega
  have t9 : i + m ≤ i + m + q := by omega
  have t10 : (i : Int) + (m : Int) + (q : Int) ≤ (j : Int) + (q : Int) := by omega
  clear hO1 hO2 hO3 hG1 hG2 hG3 hx hx0 e1 e2 hti hAd hl1 hl1l hOl r1 r2 c1 c2 c3 hdl h hn hm hW1 hW2
  by_cases hct : c = i + m + q
  · obtain rfl : j = i + m := by omega
    subst hct
    clear t10 t8 t7 t6 t5
    go_enter Try.func47, Try.ntmps47
    go_upto_region 9 with (fail)
    go_region
    go_wp2_with ((refine wpList_copy_rg _ rfl (.tmp 95) (.tmp 96) rfl _ _ rfl rfl (C1.out _ _) ?_); refine unhid ?_)
    refine Lib.hid ?_
    go_upto_region 18 with (fail)
    have c2 := C2.out
    go_region
    clear c2
    go_wp2_with ((refine wpList_clear_rg _ rfl (.tmp 110) rfl _ rfl (C4.out _ _ _) ?_); refine unhid ?_)
    refine Lib.hid ?_
    go_wp2_with fail
    go_ret
    exact ⟨_, rfl, HO2.out, HG2.out, rfl⟩
  · clear C4 HO2 HG2
    go_enter Try.func47, Try.ntmps47
    go_upto_region 9 with (fail)
    go_region
    go_wp2_with ((refine wpList_copy_rg _ rfl (.tmp 95) (.tmp 96) rfl _ _ rfl rfl (C1.out _ _) ?_); refine unhid ?_)
    refine Lib.hid ?_
    go_upto_region 18 with (fail)
    have c2 := C2.out
    go_region
    clear c2
    go_wp2_with ((refine wpList_clear_rg _ rfl (.tmp 110) rfl _ rfl (C3.out _ _) ?_); refine unhid ?_)
    refine Lib.hid ?_
    go_wp2_with fail
    go_ret
    exact ⟨_, rfl, HO.out, HG.out, rfl⟩
end Sp
end Go.Proofs.Ytpbojhjbjnoihaa
