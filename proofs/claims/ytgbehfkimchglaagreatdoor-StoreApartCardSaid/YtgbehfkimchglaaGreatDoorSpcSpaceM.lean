/-
 '(part).row' by a contract: the least cell from which so many in a row are there. Conditions: the ranges are short, their ends small.
-/
import Derived.Test.YtgbehfkimchglaaGreatDoorSpcWith
import Derived.Lib.SliceRun
import Derived.Test.YtgbehfkimchglaaGreatDoorRackMapM
import Derived.Maps.OwnSet
import Derived.Maps.RangeWalk
import Derived.WalkArith
import Derived.Test.YtgbehfkimchglaaGreatDoorSpcOut
namespace Go.Proofs.YtgbehfkimchglaaGreatDoor
open Go Go.RowKit
set_option maxRecDepth 100000
set_option linter.unusedVariables false
namespace Sp
theorem rowL_skip {m : Nat} {r : Rg} {l : List Rg} {i : Nat} (h : l[i]? = some r) (hm : ¬ m ≤ r.2 - r.1) (e : rowL m l = rowL m (l.drop i)) : rowL m l = rowL m (l.drop (i + 1)) := by
 obtain ⟨hi, he⟩ := List.getElem?_eq_some_iff.1 h
 rw [e, List.drop_eq_getElem_cons hi, he]
 exact if_neg hm
theorem rowL_hit {m : Nat} {r : Rg} {l : List Rg} {i : Nat} (h : l[i]? = some r) (hm : m ≤ r.2 - r.1) (e : rowL m l = rowL m (l.drop i)) : rowL m l = some r.1 := by
 obtain ⟨hi, he⟩ := List.getElem?_eq_some_iff.1 h
 rw [e, List.drop_eq_getElem_cons hi, he]
 exact if_pos hm
set_option maxHeartbeats 1600000 in
theorem row_rg (w : World) (A : Option Addr) (l : List Rg) (c m : Nat) (cnt : Int) (h : Rd w A l) (hn : l.length ≤ 100000) (hs : ∀ r ∈ l, r.1 < r.2 ∧ r.2 ≤ 1000000) :
  Calls Tryz.prog 105 #[.agg #[.slice A l.length c, .int .i64 cnt], .int .i64 (m : Int)] w fun e w' => e = .returned (.tuple #[.int .i64 (((rowL m l).getD 0 : Nat) : Int), .bool (rowL m l).isSome]) ∧ Below w.heap.size w w' := by
 have HS := Lib.hid hs
 have HR := Lib.hid h
 have hBd := Below.refl w.heap.size w
 obtain ⟨n, hnn⟩ : ∃ n, n = l.length := ⟨_, rfl⟩
 have HN := Lib.hid hnn
 obtain ⟨ans, hans⟩ : ∃ ans, ans = rowL m l := ⟨_, rfl⟩
 have HA := Lib.hid hans
 rw [← hnn] at hn
 rw [← hnn, ← hans]
 have L1 : Hid (Below w.heap.size w (w.alloc (.cells #[.slice A n c, .int .i64 cnt] 147))) := Lib.hid (hBd.alloc (Nat.le_refl _) _)
 clear hs h hnn hans hBd
 go_enter Tryz.func105, Tryz.ntmps105
 go_wp2_with fail
 go_loopw [11] (fun y wr => ∃ i : Nat, i ≤ n ∧ y = .int .i64 (i : Int) ∧ Hid (rowL m l = rowL m (l.drop i)) ∧ Hid (Below w.heap.size w wr)) (fun y _ => n - (intOf y).toNat)
 case atStart => exact ⟨0, by omega, rfl, Lib.hid rfl, L1⟩
 case round =>
  clear L1
  obtain ⟨i, hi, rfl, HD, L0⟩ := hrel
  by_cases hlt : i < n
  ·have i1 : (i : Int) < (n : Int) := by omega
   obtain ⟨r, g, o, hg, hAe, h1, h2⟩ := (HR.out.below L0.out).at_ (i := i) (by have := HN.out; omega)
   have hrm : r.1 < r.2 ∧ r.2 ≤ 1000000 := HS.out r (List.mem_of_getElem? hg)
   have HG := Lib.hid hg
   subst hAe
   obtain ⟨x, hx⟩ : ∃ x, x = r.1 := ⟨_, rfl⟩
   obtain ⟨y, hy⟩ : ∃ y, y = r.2 := ⟨_, rfl⟩
   rw [← hx, ← hy] at hrm
   rw [← hx] at h1
   rw [← hy] at h2
   have HXY := Lib.hid (⟨hx, hy⟩ : x = r.1 ∧ y = r.2)
   clear hx hy hg
   have hrm1 := hrm.1
   have hrm2 := hrm.2
   clear hrm
   go_wp2_with fail
   refine (size_rg _ x y (by omega) (by omega)).mono ?_
   rintro e w2 ⟨rfl, b2⟩
   have hsz := L0.out.size
   have L2 := Lib.hid ((L0.out.alloc hsz (.cells #[.int .i64 (x : Int), .int .i64 (y : Int)] 61)).trans (b2.mono (Nat.le_trans hsz (by simp))))
   have B7 := Lib.hid ((Blk.new wr 61 #[.int .i64 (x : Int), .int .i64 (y : Int)]).below b2 (by simp))
   have d0 : w2.cell? ⟨wr.heap.size, 0, none⟩ = some (.int .i64 (x : Int)) := B7.out.cell 0
   clear b2 B7 hsz h1 h2
   by_cases hmm : m ≤ y - x
   ·have HD2 := Lib.hid (rowL_hit HG.out (by have := HXY.out; omega) HD.out)
    have t1 : (m : Int) ≤ (y : Int) - (x : Int) := by omega
    have hans : ans = some x := by rw [HA.out, HD2.out, HXY.out.1]
    have HA2 := Lib.hid hans
    clear hans HD HG HXY HD2 L0 HR
    go_wp2_with fail
    go_ret2
    exact ⟨by rw [HA2.out]; rfl, L2.out⟩
   ·have HD2 := Lib.hid (rowL_skip HG.out (by have := HXY.out; omega) HD.out)
    have t1 : ¬ ((m : Int) ≤ (y : Int) - (x : Int)) := by omega
    clear HD HG HXY L0
    go_wp2_with fail
    go_roundw
    case rel => exact ⟨i + 1, by omega, by go_num, HD2, L2⟩
    case measure => simp [intOf]; omega
  ·have i1 : ¬ ((i : Int) < (n : Int)) := by omega
   have hans : ans = none := by rw [HA.out, HD.out, List.drop_eq_nil_of_le (by have := HN.out; omega)]; rfl
   have HA2 := Lib.hid hans
   clear hans HD HR
   go_wp2_with fail
   go_ret2
   exact ⟨by rw [HA2.out]; rfl, L0.out⟩
end Sp
end Go.Proofs.YtgbehfkimchglaaGreatDoor
namespace Go.Proofs.YtgbehfkimchglaaGreatDoor
open Go Go.RowKit
set_option maxRecDepth 100000
set_option linter.unusedVariables false
namespace Sp
set_option maxHeartbeats 1600000 in
theorem clone_rg (w : World) (base : Nat) (v : Value) (l : List Rg) (h : Own w base v l) (hn : l.length ≤ 100000) :
  Calls Tryz.prog 198 #[v] w fun e w' => ∃ v', e = .returned v' ∧ Own w' w.heap.size v' l ∧ Below w.heap.size w w' := by
 have h0 := h
 rcases h with ⟨rfl, rfl⟩ | ⟨g, c, cur, rfl, hg, hblk, h1, h2, h3, h4⟩
 ·have he : ∀ w : World, (binOp .eql 49 (.slice none 0 0) (.slice none 0 0)).run Tryz.prog w = .ok (.bool true) w := by
   intro w
   simp only [binOp]
   simp [Op.equal, Op.maxDepth, Lib.run_equalIn_slice_nil w 9999 49 _ _ 0 0 0 0 Tryz.underlying49]
  go_enter Tryz.func198, Tryz.ntmps198
  go_wp2_with fail
  go_ret
  exact ⟨_, rfl, Own.nil _ _, Below.refl _ _⟩
 ·have he : ∀ w : World, (binOp .eql 49 (.slice (some ⟨g, 0, none⟩) l.length c) (.slice none 0 0)).run Tryz.prog w = .ok (.bool false) w := by
   intro w
   simp only [binOp]
   simp [Op.equal, Op.maxDepth, Lib.run_equalIn_slice_nil w 9999 49 _ _ l.length c 0 0 Tryz.underlying49]
  have HH : Hid (Own (w.alloc (.cells #[] 61)) w.heap.size (.slice (some ⟨w.heap.size, 0, none⟩) 0 0) []) := Lib.hid (.inr ⟨w.heap.size, 0, #[], rfl, Nat.le_refl _, Blk.new w _ _, Nat.le_refl _, by simp [maxLen], rfl, fun j hj => by simp at hj⟩)
  have hc0 := own_cells h0 0
  have HS : Hid (Sr (w.alloc (.cells #[] 61)) (.slice (some ⟨g, 0, none⟩) l.length c) l) := Lib.hid (Sr.of fun j u hj => by
   have h5 := hc0 j u hj
   rw [Nat.zero_mul] at h5
   exact (w.cell?_alloc_old _ _ (Nat.ne_of_lt (block_lt_of_cell h5))).trans h5)
  have HB : Hid (w.heap.size ≤ (w.alloc (.cells #[] 61)).heap.size) := Lib.hid (by simp)
  have HSZ : Hid ((@List.nil Rg).length + l.length ≤ 1000000) := Lib.hid (by simp; omega)
  have L1 : Hid (Below w.heap.size w (w.alloc (.cells #[] 61))) := Lib.hid ((Below.refl _ _).alloc (Nat.le_refl _) _)
  obtain ⟨n, hnn⟩ : ∃ n, n = l.length := ⟨_, rfl⟩
  rw [← hnn] at HS he hn ⊢
  clear h0 hblk h1 h2 h3 h4 hc0 hnn hg
  go_enter Tryz.func198, Tryz.ntmps198
  go_wp2_with (at_builtin; refine wpList_append_rg rfl (.tmp 5) (.tmp 6) rfl rfl rfl HH.out HS.out HSZ.out HB.out ?_; intro v' w' ho hg hor; refine unhid ?_)
  refine Lib.hid ?_
  have O := Lib.hid (⟨ho, hg, hor⟩ : _ ∧ _ ∧ _)
  clear ho hg hor
  go_wp2_with fail
  go_ret
  exact ⟨_, rfl, O.out.1, L1.out.grown O.out.2.1 (by simp) (fun k hk => by injection hk with hk; exact Nat.le_of_eq hk)⟩
set_option maxHeartbeats 1600000 in
theorem copy_rg (w : World) (base : Nat) (v : Value) (l : List Rg) (cnt : Nat) (h : Own w base v l) (hbs : base ≤ w.heap.size) (hn : l.length ≤ 100000) :
  Calls Tryz.prog 161 #[.agg #[v, .int .i64 (cnt : Int)]] w fun e w' => ∃ v', e = .returned (.agg #[v', .int .i64 (cnt : Int)]) ∧ Own w' w.heap.size v' l ∧ Below w.heap.size w w' := by
 obtain ⟨A, c, rfl, _, _, _, _⟩ := h.shape
 obtain ⟨W, hW⟩ : ∃ W, W = (w.alloc (.cells #[.slice A l.length c, .int .i64 (cnt : Int)] 147)).alloc (.cells #[.slice none 0 0, .int .i64 0] 147) := ⟨_, rfl⟩
 have hs1 : (w.alloc (.cells #[.slice A l.length c, .int .i64 (cnt : Int)] 147)).heap.size = w.heap.size + 1 := by simp
 have hsW : W.heap.size = w.heap.size + 1 + 1 := by rw [hW]; simp
 have hb : Below w.heap.size w W := by rw [hW]; exact ((Below.refl _ _).alloc (Nat.le_refl _) _).alloc (by rw [hs1]; omega) _
 have X2 : Blk W w.heap.size 147 #[.slice A l.length c, .int .i64 (cnt : Int)] := by rw [hW]; exact (Blk.new _ _ _).alloc _
 have X3 : Blk W (w.heap.size + 1) 147 #[.slice none 0 0, .int .i64 0] := by
  have h := Blk.new (w.alloc (.cells #[.slice A l.length c, .int .i64 (cnt : Int)] 147)) 147 #[.slice none 0 0, .int .i64 0]
  rw [hs1, ← hW] at h
  exact h
 have HC := Lib.hid (clone_rg W base _ l (h.below hb (Nat.le_refl _)) hn)
 have L1 := Lib.hid hb
 have B2 := Lib.hid X2
 have B3 := Lib.hid X3
 have d0 : W.cell? ⟨w.heap.size, 0, none⟩ = some (.slice A l.length c) := X2.cell 0
 obtain ⟨b2, hb2⟩ : ∃ b2, b2 = w.heap.size := ⟨_, rfl⟩
 have HBB := Lib.hid hb2
 have HSW := Lib.hid hsW
 obtain ⟨n, hnn⟩ : ∃ n, n = l.length := ⟨_, rfl⟩
 have HN := Lib.hid hnn
 rw [← hnn] at HC B2 d0 hW hn ⊢
 clear hb X2 X3 hnn hs1 h hsW
 go_enter Tryz.func161, Tryz.ntmps161
 go_upto_region 1 with (fail)
 rw [← hW, ← HBB.out]
 rw [← HBB.out] at d0
 clear hW hb2
 go_wp2_with fail
 refine HC.out.mono ?_
 rintro e w2 ⟨v', rfl, ho, b3⟩
 obtain ⟨A', c', rfl, _, _, _, _⟩ := ho.shape
 rw [← HN.out] at ho ⊢
 have O := Lib.hid ho
 have T2 : Hid (Blk w2 b2 147 #[.slice A n c, .int .i64 (cnt : Int)]) := Lib.hid (by rw [HBB.out]; exact B2.out.below b3 (by rw [HSW.out]; omega))
 have T3 : Hid (Blk w2 (b2 + 1) 147 #[.slice none 0 0, .int .i64 0]) := Lib.hid (by rw [HBB.out]; exact B3.out.below b3 (by rw [HSW.out]; omega))
 have L2 := Lib.hid (L1.out.trans (b3.mono L1.out.size))
 have q0 : w2.cell? ⟨b2, 0, none⟩ = some (.slice A n c) := T2.out.cell 0
 have q1 : w2.cell? ⟨b2, 1, none⟩ = some (.int .i64 (cnt : Int)) := T2.out.cell 1
 have qf : w2.frozen? ⟨b2, 0, none⟩ = false := T2.out.frozen 0
 have p0 : w2.cell? ⟨b2 + 1, 0, none⟩ = some (.slice none 0 0) := T3.out.cell 0
 have p1 : w2.cell? ⟨b2 + 1, 1, none⟩ = some (.int .i64 0) := T3.out.cell 1
 have pf0 : w2.frozen? ⟨b2 + 1, 0, none⟩ = false := T3.out.frozen 0
 have pf1 : w2.frozen? ⟨b2 + 1, 1, none⟩ = false := T3.out.frozen 1
 clear ho b3 d0 HC
 go_wp2_with fail
 have T4' : Blk (((w2.setCell ⟨b2, 0, none⟩ (.slice A' n c')).setCell ⟨b2 + 1, 0, none⟩ (.slice A' n c')).setCell ⟨b2 + 1, 1, none⟩ (.int .i64 (cnt : Int))) (b2 + 1) 147 #[.slice A' n c', .int .i64 (cnt : Int)] := ((T3.out.far (p := ⟨b2, 0, none⟩) (by simp) _).set_ 0 _).set_ 1 _
 refine bodyPost_ret (results_cell rfl rfl (loadVar_blk T4' Tryz.underlying147 rfl size_part)) rfl ?_
 have hg : ∀ g, (Value.slice A' n c').ownBlock = some g → g ≠ b2 ∧ g ≠ b2 + 1 := fun g e => by
  have h0 := (O.out.lt e).2
  have h1 := HSW.out
  have h2 := HBB.out
  omega
 refine ⟨_, rfl, ?_, ?_⟩
 ·exact (((O.out.grown (grown_set w2 b2 0 _) (fun g e h => (hg g e).1 (by injection h))).grown (grown_set _ (b2 + 1) 0 _) (fun g e h => (hg g e).2 (by injection h))).grown (grown_set _ (b2 + 1) 1 _) (fun g e h => (hg g e).2 (by injection h))).base_ (by rw [HSW.out]; omega)
 ·exact ((L2.out.setCell (p := ⟨b2, 0, none⟩) (by rw [HBB.out]; exact Nat.le_refl _) _).setCell (p := ⟨b2 + 1, 0, none⟩) (by rw [HBB.out]; exact Nat.le_succ _) _).setCell (p := ⟨b2 + 1, 1, none⟩) (by rw [HBB.out]; exact Nat.le_succ _) _
end Sp
end Go.Proofs.YtgbehfkimchglaaGreatDoor
namespace Go.Proofs.YtgbehfkimchglaaGreatDoor
set_option maxRecDepth 100000
open Go Go.RowKit
set_option linter.unusedVariables false
namespace Sp
theorem keyedI : Maps.Keyed Tryz.prog 151 := Maps.int_keyed Tryz.underlying151
def ikey (k : Nat) : Value := .int .i64 (k : Int)
theorem ikey_inj {k k' : Nat} (h : ikey k = ikey k') : k = k' := by
 unfold ikey at h
 injection h with _ h
 omega
def RVi (v : Value) : Option (DataW Value × List MemPlace) := some (.held v, [])
def ilit (k : Nat) : Lit := .int .i64 (k : Int)
theorem ikey_ok {k : Nat} (hk : k < 4611686018427387904) : keyOf Tryz.prog 151 (ikey k) = some (ilit k) := Maps.keyOf_int_mk Tryz.underlying151 (WalkArith.wf_i64 (by omega))
theorem ilit_inj {k k' : Nat} (h : ilit k = ilit k') : k = k' := by
 unfold ilit at h
 injection h with _ h
 omega
def MapI (w : World) (b n : Nat) (F : Nat → Option Value) : Prop :=
 ∃ D : DataW Value, w.ownsMap Tryz.prog 151 RVi b n D ∧ Maps.IsMap D ∧ (∀ k, k < 4611686018427387904 → ∀ zd, D.atKey (ilit k) zd = (F k).elim zd .held) ∧ ∀ l, Maps.has D l = true → ∃ k, k < 3 ∧ l = ilit k
section
variable {w w' : World} {b n : Nat} {F : Nat → Option Value}
theorem MapI.lt (h : MapI w b n F) : b < w.heap.size := by obtain ⟨D, h1, _⟩ := h; exact h1.lt
theorem MapI.mono (h : MapI w b n F) {n' : Nat} (hn : n ≤ n') : MapI w b n' F := by obtain ⟨D, h1, h2⟩ := h; exact ⟨D, h1.mono hn, h2⟩
theorem MapI.isMap (h : MapI w b n F) : ∃ es c, w.heap[b]? = some (.map es c) := by obtain ⟨D, ⟨es, c, h1, _⟩, _⟩ := h; exact ⟨es, c, h1⟩
theorem MapI.block (h : MapI w b n F) (hb : w'.heap[b]? = w.heap[b]?) : MapI w' b n F := by
 obtain ⟨D, ⟨es, c, h1, h2⟩, h3⟩ := h
 exact ⟨D, ⟨es, c, hb.trans h1, h2⟩, h3⟩
theorem MapI.drew (h : MapI w b n F) : MapI w.drew b n F := h
theorem MapI.alloc (h : MapI w b n F) (o : Obj) : MapI (w.alloc o) b n F := h.block (Below.heap_alloc w o b h.lt)
theorem MapI.grown {row : Option Nat} (h : MapI w b n F) (hg : w.grownBy w' row) (hne : some b ≠ row) : MapI w' b n F := h.block (hg.block b h.lt hne)
theorem MapI.below {B : Nat} (h : MapI w b n F) (hb : Below B w w') (hB : b < B) : MapI w' b n F := h.block (hb.block b hB)
theorem MapI.ne_blk (h : MapI w b n F) {g : Nat} {t : TypeId} {cs : Array Value} (hg : Blk w g t cs) : b ≠ g := by
 obtain ⟨es, c, h1⟩ := h.isMap
 rintro rfl
 unfold Blk at hg
 rw [h1] at hg
 cases hg
theorem MapI.made (w : World) : MapI (w.alloc (.map #[] 0)) w.heap.size 0 (fun _ => none) :=
 ⟨_, World.ownsMap_made w Tryz.prog 151 RVi, Maps.isMap_empty, fun k _ zd => rfl, fun l hl => by cases hl⟩
theorem MapI.look {t e : TypeId} (h : MapI w b n F) (ht : Tryz.prog.underlying t = some (.map 151 e)) {z : Value} (hz : (zeroValue e).run Tryz.prog w = .ok z w) {k : Nat} (hk : k < 4611686018427387904) (c : Bool) :
  (Instr.lookup t (.map (some b)) (ikey k) c).run Tryz.prog w = .ok (if c then .tuple #[(F k).getD z, .bool (F k).isSome] else (F k).getD z) w := by
 obtain ⟨D, ⟨es, cl, h1, h2, _, rfl⟩, _, h3, _⟩ := h
 rcases Maps.fit_look c keyedI ht hz h1 h2 (ikey_ok hk) with ⟨hrun, _, hat⟩ | ⟨e0, y, _, _, hrun, hRv, hat, _⟩
 ·have e1 := (h3 k hk (.held (.int .i64 0))).symm.trans (hat _)
  have e2 := (h3 k hk (.held (.int .i64 1))).symm.trans (hat _)
  cases hF : F k with
  | none => rw [hrun]; rfl
  | some v =>
   rw [hF] at e1 e2
   simp only [Option.elim] at e1 e2
   rw [e1] at e2
   cases e2
 ·have e1 := (h3 k hk (.held (.int .i64 0))).symm.trans (hat _)
  have e2 := (h3 k hk (.held (.int .i64 1))).symm.trans (hat _)
  injection hRv with hRv
  subst hRv
  cases hF : F k with
  | none =>
   rw [hF] at e1 e2
   simp only [Option.elim] at e1 e2
   rw [← e1] at e2
   cases e2
  | some v =>
   rw [hF] at e1
   simp only [Option.elim] at e1
   cases e1
   rw [hrun]
   rfl
def putI (F : Nat → Option Value) (k : Nat) (v : Value) (k' : Nat) : Option Value := if k' = k then some v else F k'
def delI (F : Nat → Option Value) (k : Nat) (k' : Nat) : Option Value := if k' = k then none else F k'
theorem MapI.put {t e : TypeId} (h : MapI w b n F) (ht : Tryz.prog.underlying t = some (.map 151 e)) (hn : n < maxLen) {k : Nat} (hk3 : k < 3) (v : Value) :
  ∃ w', (Instr.mapUpdate t (.map (some b)) (ikey k) v).run Tryz.prog w = .ok () w' ∧ MapI w' b (n + 1) (putI F k v) ∧ w.grownBy w' (some b) ∧ w'.heap.size = w.heap.size := by
 have hk : k < 4611686018427387904 := by omega
 obtain ⟨D, h1, h2, h3, h4⟩ := h
 obtain ⟨es, cl, hb, F0, hs, hD⟩ := h1
 obtain ⟨es', clock', hrun, F', hput, _⟩ := Maps.fit_store (R' := RVi) keyedI ht hb F0 (Nat.lt_of_le_of_lt hs hn) (fun _ _ _ _ hz => hz) (ikey_ok hk) (show RVi v = some (.held v, []) from rfl)
 obtain ⟨w2, hrun2, r1, r2⟩ := World.ownsMap.update ⟨es, cl, hb, F0, hs, hD⟩ keyedI ht hn (ikey_ok hk) (show RVi v = some (.held v, []) from rfl)
 have hw : w2 = ChangeMaps.setBlock w b (.map es' clock') := by
  rw [hrun] at hrun2
  injection hrun2 with _ e
  exact e.symm
 refine ⟨w2, hrun2, ⟨_, r1, h2.put _ _, ?_, fun l hl => ?_⟩, r2, by rw [hw]; simp [ChangeMaps.setBlock]⟩
 rotate_left
 ·by_cases e : l = ilit k
  ·exact ⟨k, hk3, e⟩
  ·rw [Maps.has_put_other e] at hl
   exact h4 l hl
 intro k' hk' zd
 unfold putI
 by_cases e : k' = k
 ·subst e
  rw [if_pos rfl, Maps.atKey_put_same h2 (keyedI.key (ikey_ok hk))]
  rfl
 ·rw [if_neg e, Maps.atKey_put_other (fun x => e (ilit_inj x))]
  exact h3 k' hk' zd
theorem MapI.drop {t e : TypeId} (h : MapI w b n F) (ht : Tryz.prog.underlying t = some (.map 151 e)) {k : Nat} (hk : k < 4611686018427387904) (ty : TypeId) :
  ∃ w', (Builtin.delete_ #[t, 151] ty #[.map (some b), ikey k]).run Tryz.prog w = .ok (.tuple #[]) w' ∧ MapI w' b n (delI F k) ∧ w.mapTurned w' b := by
 obtain ⟨D, h1, h2, h3, h4⟩ := h
 obtain ⟨w2, hrun2, r1, r2⟩ := World.ownsMap.drop h1 keyedI ht (ikey_ok hk) ty
 refine ⟨w2, hrun2, ⟨_, r1, h2.del _, ?_, fun l hl => ?_⟩, r2⟩
 rotate_left
 ·by_cases e : l = ilit k
  ·rw [e, Maps.has_del_same] at hl
   cases hl
  ·rw [Maps.has_del_other e] at hl
   exact h4 l hl
 intro k' hk' zd
 unfold delI
 by_cases e : k' = k
 ·subst e
  rw [if_pos rfl, Maps.atKey_del_same]
  rfl
 ·rw [if_neg e, Maps.atKey_del_other (fun x => e (ilit_inj x))]
  exact h3 k' hk' zd
end
end Sp
end Go.Proofs.YtgbehfkimchglaaGreatDoor
namespace Go.Proofs.YtgbehfkimchglaaGreatDoor
open Go Go.RowKit
set_option maxRecDepth 100000
set_option linter.unusedVariables false
namespace Sp
theorem zero_part (w : World) : (zeroValue 147).run Tryz.prog w = .ok (.agg #[.slice none 0 0, .int .i64 0]) w := by kernel_rfl
structure SS where
 cells : Nat
 kept : Nat
 S : Nat → List Rg
def zp : Value := .agg #[.slice none 0 0, .int .i64 0]
structure Mem (w : World) (base b m n : Nat) (F : Nat → Option Value) (V : Nat → Value) (s : SS) : Prop where
 blk : Blk w b 150 #[.int .i64 (s.cells : Int), .int .i64 (s.kept : Int), .map (some m)]
 map : MapI w m n F
 val : ∀ k, k < 3 → (F k).getD zp = .agg #[V k, .int .i64 (cnt (s.S k) : Int)]
 own : ∀ k, k < 3 → Own w base (V k) (s.S k)
 apart : ∀ k j, k < 3 → j < 3 → k ≠ j → ∀ g, (V k).ownBlock = some g → (V j).ownBlock ≠ some g
 lo : base ≤ b ∧ base ≤ m
structure Good (s : SS) : Prop where
 hc : 1 ≤ s.cells ∧ s.cells ≤ 40000
 ris : ∀ k, k < 3 → Ris 0 (s.S k)
 in_ : ∀ k, k < 3 → ∀ c, mem (s.S k) c → c < s.cells
 one : ∀ k j c, k < 3 → j < 3 → mem (s.S k) c → mem (s.S j) c → k = j
 all : ∀ c, c < s.cells → ∃ k, k < 3 ∧ mem (s.S k) c
 kp : s.kept ≤ 1000000
structure Spc (w : World) (base b m n : Nat) (F : Nat → Option Value) (V : Nat → Value) (s : SS) : Prop where
 mem : Mem w base b m n F V s
 good : Good s
def SS.upd (s : SS) (k : Nat) (r : List Rg) : SS := { s with S := fun j => if j = k then r else s.S j }
def updV (V : Nat → Value) (k : Nat) (v : Value) (j : Nat) : Value := if j = k then v else V j
structure Chg (w w' : World) (b m : Nat) (V V' : Nat → Value) : Prop where
 os : w'.os = w.os
 tape : w'.tape = w.tape
 output : w'.output = w.output
 size : w.heap.size ≤ w'.heap.size
 block : ∀ g, g < w.heap.size → g ≠ b → g ≠ m → (∀ k, k < 3 → (V k).ownBlock ≠ some g) → w'.heap[g]? = w.heap[g]?
 own : ∀ k, k < 3 → ∀ g, (V' k).ownBlock = some g → w.heap.size ≤ g ∨ ∃ j, j < 3 ∧ (V j).ownBlock = some g
section
variable {w w' : World} {base b m n : Nat} {F : Nat → Option Value} {V : Nat → Value} {s : SS}
theorem Mem.keep (h : Mem w base b m n F V s) (h1 : w'.heap[b]? = w.heap[b]?) (h2 : w'.heap[m]? = w.heap[m]?) (h3 : ∀ k, k < 3 → ∀ g, (V k).ownBlock = some g → w'.heap[g]? = w.heap[g]?) : Mem w' base b m n F V s :=
 ⟨h1.trans h.blk, h.map.block h2, h.val, fun k hk => (h.own k hk).keep (h3 k hk), h.apart, h.lo⟩
theorem Mem.below {B : Nat} (h : Mem w base b m n F V s) (hb : Below B w w') (hB : w.heap.size ≤ B) : Mem w' base b m n F V s :=
 h.keep (hb.block b (Nat.lt_of_lt_of_le h.blk.lt hB)) (hb.block m (Nat.lt_of_lt_of_le h.map.lt hB)) fun k hk g hg => hb.block g (Nat.lt_of_lt_of_le ((h.own k hk).lt hg).1 hB)
theorem Mem.drew (h : Mem w base b m n F V s) : Mem w.drew base b m n F V s := h.keep rfl rfl fun _ _ _ _ => rfl
theorem Mem.drewN (h : Mem w base b m n F V s) (q : Nat) : Mem (w.drewN q) base b m n F V s := by
 induction q with
 | zero => exact h
 | succ q ih => exact ih.drew
theorem Mem.look (h : Mem w base b m n F V s) {k : Nat} (hk : k < 3) : (Instr.lookup 148 (.map (some m)) (.int .i64 (k : Int)) false).run Tryz.prog w = .ok (.agg #[V k, .int .i64 (cnt (s.S k) : Int)]) w := by
 have h1 := h.map.look Tryz.underlying148 (zero_part w) (show k < 4611686018427387904 by omega) false
 have h2 := h.val k hk
 unfold zp at h2
 rw [h2] at h1
 exact h1
theorem Own.blk_of {v : Value} {l : List Rg} {g : Nat} (h : Own w base v l) (hg : v.ownBlock = some g) : ∃ cur, Blk w g 61 cur := by
 rcases h with ⟨rfl, _⟩ | ⟨q, c, cur, rfl, _, h2, _⟩
 ·cases hg
 ·injection hg with hg
  subst hg
  exact ⟨cur, h2⟩
theorem Mem.own_ne (h : Mem w base b m n F V s) {k : Nat} (hk : k < 3) : (V k).ownBlock ≠ some b ∧ (V k).ownBlock ≠ some m := by
 refine ⟨fun e => ?_, fun e => ?_⟩
 ·obtain ⟨cur, h1⟩ := (h.own k hk).blk_of e
  have h2 := h.blk
  unfold Blk at h1 h2
  rw [h1] at h2
  injection h2 with h2
  injection h2 with _ h2
  exact absurd h2 (by decide)
 ·obtain ⟨cur, h1⟩ := (h.own k hk).blk_of e
  exact h.map.ne_blk h1 rfl
theorem Mem.step {w1 w2 : World} {k n' : Nat} {r : List Rg} {v' : Value} {F' : Nat → Option Value} (h : Mem w base b m n F V s) (hk : k < 3) (hp : PartPost w base (V k) r v' w1) (hm : MapI w2 m n' F') (hF : F' = putI F k (.agg #[v', .int .i64 (cnt r : Int)])) (hg : w1.grownBy w2 (some m)) :
  Mem w2 base b m n' F' (updV V k v') (s.upd k r) ∧ Chg w w2 b m V (updV V k v') := by
 obtain ⟨p1, p2, p3⟩ := hp
 have hne := h.own_ne hk
 have hbm : b ≠ m := fun e => h.map.ne_blk h.blk e.symm
 have b1 : w1.heap[b]? = w.heap[b]? := p2.block b h.blk.lt (fun e => hne.1 e.symm)
 have m1 : MapI w1 m n F := h.map.grown p2 (fun e => hne.2 e.symm)
 have hv' : ∀ g, v'.ownBlock = some g → g ≠ m := fun g hg e => by
  obtain ⟨cur, h1⟩ := p1.blk_of hg
  exact m1.ne_blk h1 e.symm
 have hfar : ∀ j, j < 3 → j ≠ k → ∀ g, (V j).ownBlock = some g → w2.heap[g]? = w.heap[g]? := fun j hj hjk g hgj => by
  have hlt := ((h.own j hj).lt hgj).1
  have e1 := p2.block g hlt (fun e => h.apart j k hj hk hjk g hgj e.symm)
  have e2 := hg.block g (Nat.lt_of_lt_of_le hlt p2.size) (fun e => by injection e with e; exact (h.own_ne hj).2 (by rw [hgj, e]))
  exact e2.trans e1
 refine ⟨⟨?_, hm, ?_, ?_, ?_, h.lo⟩, ⟨hg.os.trans p2.os, hg.tape.trans p2.tape, hg.output.trans p2.output, Nat.le_trans p2.size hg.size, ?_, ?_⟩⟩
 ·exact ((hg.block b (Nat.lt_of_lt_of_le h.blk.lt p2.size) (fun e => by injection e with e; exact hbm e)).trans b1).trans h.blk
 ·intro j hj
  subst hF
  unfold putI updV SS.upd
  by_cases e : j = k
  ·simp only [if_pos e]; rfl
  ·simp only [if_neg e]; exact h.val j hj
 ·intro j hj
  unfold updV SS.upd
  by_cases e : j = k
  ·simp only [if_pos e]
   exact p1.grown hg (fun g hg' e' => by injection e' with e'; exact hv' g hg' e')
  ·simp only [if_neg e]
   exact (h.own j hj).keep (hfar j hj e)
 ·intro i j hi hj hij g hgi hgj
  unfold updV at hgi hgj
  have new : ∀ q, q < 3 → q ≠ k → (V q).ownBlock = some g → v'.ownBlock = some g → False := fun q hq hqk h1 h2 => by
   rcases p3 with p3 | ⟨g2, p3, p4⟩
   ·exact h.apart q k hq hk hqk g h1 (p3.symm.trans h2)
   ·rw [p3] at h2
    injection h2 with h2
    have := ((h.own q hq).lt h1).1
    omega
  by_cases e1 : i = k
  ·rw [if_pos e1] at hgi
   by_cases e2 : j = k
   ·exact hij (e1.trans e2.symm)
   ·rw [if_neg e2] at hgj
    exact new j hj e2 hgj hgi
  ·rw [if_neg e1] at hgi
   by_cases e2 : j = k
   ·rw [if_pos e2] at hgj
    exact new i hi e1 hgi hgj
   ·rw [if_neg e2] at hgj
    exact h.apart i j hi hj hij g hgi hgj
 ·intro g hlt hgb hgm hgv
  exact (hg.block g (Nat.lt_of_lt_of_le hlt p2.size) (fun e => by injection e with e; exact hgm e)).trans (p2.block g hlt (fun e => hgv k hk e.symm))
 ·intro j hj g hgj
  unfold updV at hgj
  by_cases e : j = k
  ·rw [if_pos e] at hgj
   rcases p3 with p3 | ⟨g2, p3, p4⟩
   ·exact .inr ⟨k, hk, p3.symm.trans hgj⟩
   ·rw [p3] at hgj
    injection hgj with hgj
    exact .inl (hgj ▸ p4)
  ·rw [if_neg e] at hgj
   exact .inr ⟨j, hj, hgj⟩
theorem Chg.of_below {w' : World} (h : Below w.heap.size w w') : Chg w w' b m V V := ⟨h.os, h.tape, h.output, h.size, fun g hg _ _ _ => h.block g hg, fun k hk g hg => .inr ⟨k, hk, hg⟩⟩
theorem Chg.trans {w1 w2 : World} {V1 V2 : Nat → Value} (h : Chg w w1 b m V V1) (k : Chg w1 w2 b m V1 V2) : Chg w w2 b m V V2 := by
 refine ⟨k.os.trans h.os, k.tape.trans h.tape, k.output.trans h.output, Nat.le_trans h.size k.size, fun g hg hb hm hv => ?_, fun j hj g hg => ?_⟩
 ·refine (k.block g (Nat.lt_of_lt_of_le hg h.size) hb hm fun q hq e => ?_).trans (h.block g hg hb hm hv)
  rcases h.own q hq g e with h1 | ⟨i, hi, h1⟩
  ·omega
  ·exact hv i hi h1
 ·rcases k.own j hj g hg with h1 | ⟨i, hi, h1⟩
  ·exact .inl (Nat.le_trans h.size h1)
  ·exact h.own i hi g h1
theorem Spc.len (h : Spc w base b m n F V s) {k : Nat} (hk : k < 3) : (s.S k).length ≤ 100000 := by
 have h1 := (h.good.ris k hk).len (h.good.in_ k hk)
 have h2 := h.good.hc
 omega
theorem Spc.cnt_le (h : Spc w base b m n F V s) {k : Nat} (hk : k < 3) : cnt (s.S k) ≤ 1000000 := by
 have h1 := (h.good.ris k hk).cnt_le (h.good.in_ k hk)
 have h2 := h.good.hc
 omega
end
theorem none_rg {w : World} {base b m n : Nat} {F : Nat → Option Value} {V : Nat → Value} {s : SS} (h : Spc w base b m n F V s) :
  Calls Tryz.prog 77 #[.pointer (some ⟨b, 0, none⟩)] w fun e w' => e = .returned (.bool false) ∧ w' = w := by
 have c0 : w.cell? ⟨b, 0, none⟩ = some (.int .i64 (s.cells : Int)) := h.mem.blk.cell 0
 have hc := h.good.hc.1
 have t1 : ((s.cells : Int) == 0) = false := by simp; omega
 obtain ⟨C, hC⟩ : ∃ C, C = s.cells := ⟨_, rfl⟩
 rw [← hC] at c0 t1
 clear h hc hC
 go_enter Tryz.func77, Tryz.ntmps77
 go_wp2_with fail
 go_ret
 exact ⟨rfl, rfl⟩
set_option maxHeartbeats 1600000 in
theorem free_rg {w : World} {base b m n : Nat} {F : Nat → Option Value} {V : Nat → Value} {s : SS} (h : Spc w base b m n F V s) :
  Calls Tryz.prog 28 #[.pointer (some ⟨b, 0, none⟩)] w fun e w' => e = .returned (.int .i64 ((cnt (s.S 0) : Int) - (s.kept : Int))) ∧ Below w.heap.size w w' := by
 have c1 : w.cell? ⟨b, 1, none⟩ = some (.int .i64 (s.kept : Int)) := h.mem.blk.cell 1
 have c2 : w.cell? ⟨b, 2, none⟩ = some (.map (some m)) := h.mem.blk.cell 2
 have hl : ∀ q, (Instr.lookup 148 (.map (some m)) (.int .i64 0) false).run Tryz.prog (w.drewN q) = .ok (.agg #[V 0, .int .i64 (cnt (s.S 0) : Int)]) (w.drewN q) := fun q => (h.mem.drewN q).look (k := 0) (by omega)
 have hn := Lib.hid (none_rg h)
 have hk := h.good.kp
 have hcn := h.cnt_le (k := 0) (by omega)
 obtain ⟨K, hK⟩ : ∃ K, K = s.kept := ⟨_, rfl⟩
 obtain ⟨C, hC⟩ : ∃ C, C = cnt (s.S 0) := ⟨_, rfl⟩
 obtain ⟨A, c, hv, _, _, _, _⟩ := (h.mem.own 0 (by omega)).shape
 obtain ⟨v, hv2⟩ : ∃ v : Value, v = V 0 := ⟨_, rfl⟩
 rw [← hv2] at hv hl
 obtain ⟨n0, hn0⟩ : ∃ n0, n0 = (s.S 0).length := ⟨_, rfl⟩
 rw [← hn0] at hv
 subst hv
 rw [← hK] at c1 hk ⊢
 rw [← hC] at hl
 rw [← hC] at hcn ⊢
 clear h hK hC hv2 hn0
 go_enter Tryz.func28, Tryz.ntmps28
 go_wp2_with fail
 refine hn.out.mono ?_
 rintro e w' ⟨rfl, rfl⟩
 have hl1 : (Instr.lookup 148 (.map (some m)) (.int .i64 0) false).run Tryz.prog w'.drew = .ok (.agg #[.slice A n0 c, .int .i64 (C : Int)]) w'.drew := hl 1
 have hf : (Instr.field 147 (.agg #[.slice A n0 c, .int .i64 (C : Int)]) 1).run Tryz.prog w'.drew = .ok (.int .i64 (C : Int)) w'.drew := by kernel_rfl
 clear hl
 go_wp2_with fail
 go_region
 go_wp2_with fail
 go_ret
 exact ⟨rfl, (Below.refl _ _).drew⟩
end Sp
end Go.Proofs.YtgbehfkimchglaaGreatDoor
