/-
 'parity.shares' by a contract. Conditions: the missing columns and the parities are as many, each above the one ahead of it.
-/
import Derived.Test.YtkbndlnmbbbohaaGreatDoorParSoundM
import Derived.Test.YtkbndlnmbbbohaaGreatDoorFieldSysM
import Derived.Deep.Cut
import Derived.WalkKit
import Derived.Lib.Hide
import Derived.Test.YtkbndlnmbbbohaaGreatDoorFieldU8M
import Derived.Test.YtkbndlnmbbbohaaGreatDoorArrCallsM
import Derived.Test.YtkbndlnmbbbohaaGreatDoorParFaultM
import Derived.Test.YtkbndlnmbbbohaaGreatDoorRackWriteM
import Derived.Test.YtkbndlnmbbbohaaGreatDoorParKnownM
namespace Go.Proofs.YtkbndlnmbbbohaaGreatDoor
open Go Go.RowKit
set_option maxRecDepth 100000
set_option linter.unusedVariables false
theorem wp_append_rd8 {w : World} {o : Oper} {a : Act} {K : Act → World → Prop} {Q : Exit → Act → World → Prop} (s x : Operand)
  (ho : o.op = .call { callee := .builtin .append, args := #[s, x], argTypes := #[41, 41] }) {base n B m c : Nat} {v : Value} {A : Option Addr} {X Y : Nat → Nat} (hs : a.eval s = v) (hx : a.eval x = .slice A m c)
  (hown : Own8 w base v n X) (hy : RdB w B A m Y) (h0 : A = none → c = 0) (hmc : m ≤ c) (hl : n + m ≤ 70368744177664) (hb : base ≤ w.heap.size)
  (h : ∀ v' w', Own8 w' base v' (n + m) (cat n X Y) → w.grownBy w' v.ownBlock → (v'.ownBlock = v.ownBlock ∨ v'.ownBlock = some w.heap.size) → K (a.put o.dst v') w') : o.wp Tryz.prog a w K Q := by
 obtain ⟨v', w', hrun, h1, h2, h3⟩ := run_append_rd o.type hown hy h0 hmc hl hb
 unfold Oper.wp execOp
 simp only [ho, resolve, invoke, builtin, Sem.run_bind, Sem.run_pure, Result.andThen_ok, List.map_toArray, List.map_cons, List.map_nil, hs, hx, hrun]
 exact h v' w' h1 h2 h3
theorem bs_one8 (u : Int) (w : World) : (Instr.buildSlice 41 1 #[(0, .int .u8 u)]).run Tryz.prog w = .ok (.slice (some ⟨w.heap.size, 0, none⟩) 1 1) (w.alloc (.cells #[.int .u8 u] 5)) := by kernel_rfl
theorem rdb_one8 (w : World) (u : Nat) (hu : u < 256) : RdB (w.alloc (.cells #[.int .u8 ((u : Nat) : Int)] 5)) (w.heap.size + 1) (some ⟨w.heap.size, 0, none⟩) 1 (fun _ => u) := fun i hi => by
 obtain rfl : i = 0 := by omega
 refine ⟨w.heap.size, 0, rfl, by omega, ?_, hu⟩
 rw [Nat.zero_add, (Blk.new w _ _).cell]
 rfl
def hdX (n r : Nat) (V : Nat → Value) (v : Value) : Array Value := Array.ofFn (n := n) fun i => if i.val < r then V i.val else if i.val = r then v else .slice none 0 0
theorem hdX_get {n r i : Nat} {V : Nat → Value} {v : Value} (h : i < n) : (hdX n r V v)[i]? = some (if i < r then V i else if i = r then v else .slice none 0 0) := by simp [hdX, h]
theorem hdX_set {n r : Nat} {V : Nat → Value} {v u : Value} (h : r < n) : (hdX n r V v).setIfInBounds r u = hdX n r V u := by
 apply Array.ext_getElem?
 intro i
 rw [Array.getElem?_setIfInBounds]
 by_cases e : r = i
 ·subst e
  rw [if_pos rfl, if_pos (by simp [hdX, h]), hdX_get h, if_neg (by omega), if_pos rfl]
 ·rw [if_neg e]
  by_cases hi : i < n
  ·rw [hdX_get hi, hdX_get hi]
   by_cases e2 : i < r
   ·rw [if_pos e2, if_pos e2]
   ·rw [if_neg e2, if_neg e2, if_neg (fun x => e x.symm), if_neg (fun x => e x.symm)]
  ·rw [Array.getElem?_eq_none (by simp [hdX]; omega), Array.getElem?_eq_none (by simp [hdX]; omega)]
theorem hdX_next {n r : Nat} {V : Nat → Value} {v : Value} : hdX n r V v = hdX n (r + 1) (fun i => if i = r then v else V i) (.slice none 0 0) := by
 unfold hdX
 congr 1
 funext i
 by_cases e : i.val < r
 ·rw [if_pos e, if_pos (by omega)]
  show V i.val = if i.val = r then v else V i.val
  rw [if_neg (by omega)]
 ·by_cases e2 : i.val = r
  ·rw [if_neg e, if_pos e2, if_pos (by omega)]
   show v = if i.val = r then v else V i.val
   rw [if_pos e2]
  ·rw [if_neg e, if_neg e2, if_neg (by omega)]
   split <;> rfl
theorem own8_shape {w : World} {base n : Nat} {v : Value} {X : Nat → Nat} (h : Own8 w base v n X) : v.cells = #[v] ∧ v.oneCell' = true := by
 rcases h with ⟨rfl, _⟩ | ⟨g, cap, cur, fr, rfl, _⟩ <;> exact ⟨rfl, rfl⟩
theorem own8_ne {w : World} {base n g : Nat} {v : Value} {X : Nat → Nat} {cs : Array Value} (h : Own8 w base v n X) (hb : Blk w g 41 cs) : some g ≠ v.ownBlock := fun e => by
 rcases h with ⟨rfl, _⟩ | ⟨g', cap, cur, fr, rfl, _, hg, _⟩
 ·cases e
 ·simp [Value.ownBlock] at e
  subst e
  unfold Blk at hb
  rw [hb] at hg
  injection hg with hg
  injection hg with _ hg _
  exact absurd hg (by decide)
theorem fld_heap {w w' : World} {b : Nat} (h : Fld w b) (e : w'.heap[b]? = w.heap[b]?) : Fld w' b := by
 rcases h with h | h
 ·exact .inl (e.trans h)
 ·exact .inr (e.trans h)
theorem cell_of_heap {w w' : World} {g i : Nat} (e : w'.heap[g]? = w.heap[g]?) : w'.cell? ⟨g, i, none⟩ = w.cell? ⟨g, i, none⟩ := by
 simp only [World.cell?, e]
structure ShAt (w0 w : World) (z b n r x zr : Nat) (F : Nat → Nat → Nat) (V : Nat → Value) (vh v : Value) : Prop where
 head : Blk w z 41 (hdX n r V vh)
 row : ∀ i, i < r → Own8 w (z + 1) (V i) n (F i) ∧ ∀ g, (V i).ownBlock = some g → g < zr
 cur : Own8 w zr v x (F r)
 fld : Fld w b
 only : Only b w0 w
 base : w0.heap.size ≤ z ∧ z + 1 ≤ zr ∧ zr ≤ w.heap.size
section
variable {w0 w w' : World} {z b n r x zr : Nat} {F : Nat → Nat → Nat} {V : Nat → Value} {vh v : Value}
theorem ShAt.room (h : ShAt w0 w z b n r x zr F V vh v) : zr ≤ w.heap.size := h.base.2.2
theorem ShAt.cell (h : ShAt w0 w z b n r x zr F V vh v) (hr : r < n) : w.cell? ⟨z, r, none⟩ = some vh := by
 rw [h.head.cell, hdX_get hr, if_neg (by omega), if_pos rfl]
theorem ShAt.alloc (h : ShAt w0 w z b n r x zr F V vh v) (o : Obj) : ShAt w0 (w.alloc o) z b n r x zr F V vh v :=
 ⟨h.head.alloc o, fun i hi => ⟨(h.row i hi).1.keep fun g hg => Below.heap_alloc _ _ g ((h.row i hi).1.lt hg).1, (h.row i hi).2⟩, h.cur.keep fun g hg => Below.heap_alloc _ _ g (h.cur.lt hg).1, h.fld.alloc o, h.only.alloc o, ⟨h.base.1, h.base.2.1, by have := h.base.2.2; simp; omega⟩⟩
theorem ShAt.drew (h : ShAt w0 w z b n r x zr F V vh v) : ShAt w0 w.drew z b n r x zr F V vh v := ⟨h.head, h.row, h.cur, h.fld, ⟨h.only.os, h.only.tape, h.only.output, h.only.size, h.only.block⟩, h.base⟩
theorem ShAt.field (h : ShAt w0 w z b n r x zr F V vh v) (hf : Fld w' b) (ho : Only b w w') (hzb : b < w0.heap.size) : ShAt w0 w' z b n r x zr F V vh v := by
 have hb1 := h.base.1
 have hb2 := h.base.2.1
 have hb3 := h.base.2.2
 have hs := ho.size
 refine ⟨ho.blk h.head (by omega), fun i hi => ⟨(h.row i hi).1.keep fun g hg => ho.block g ((h.row i hi).1.lt hg).1 (fun e => ?_), (h.row i hi).2⟩, h.cur.keep fun g hg => ho.block g (h.cur.lt hg).1 (fun e => ?_), hf, ?_, ⟨hb1, hb2, by omega⟩⟩
 ·have := ((h.row i hi).1.lt hg).2
  injection e with e
  omega
 ·have := (h.cur.lt hg).2
  injection e with e
  omega
 ·exact ⟨ho.os.trans h.only.os, ho.tape.trans h.only.tape, ho.output.trans h.only.output, Nat.le_trans h.only.size ho.size, fun i hi hne => (ho.block i (Nat.lt_of_lt_of_le hi h.only.size) hne).trans (h.only.block i hi hne)⟩
theorem ShAt.append (h : ShAt w0 w z b n r x zr F V vh v) {v5 : Value} {u : Nat} (ho : Own8 w' zr v5 (x + 1) (cat x (F r) (fun _ => u))) (hg : w.grownBy w' v.ownBlock) (hu : u = F r x) (hzb : b < w0.heap.size) : ShAt w0 w' z b n r (x + 1) zr F V vh v5 := by
 have hb1 := h.base.1
 have hb2 := h.base.2.1
 have hb3 := h.base.2.2
 have hs := hg.size
 have hne : ∀ g, v.ownBlock = some g → zr ≤ g := fun g hg => (h.cur.lt hg).2
 have bl : ∀ g, g < zr → w'.heap[g]? = w.heap[g]? := fun g hg2 => hg.block g (by omega) (fun e => by have := hne g e.symm; omega)
 refine ⟨(bl z (by omega)).trans h.head, fun i hi => ⟨(h.row i hi).1.keep fun g hg2 => bl g ((h.row i hi).2 g hg2), (h.row i hi).2⟩, ho.congr fun k hk => ?_, ?_, ?_, ⟨hb1, hb2, by omega⟩⟩
 ·unfold cat
  by_cases e : k < x
  ·rw [if_pos e]
  ·rw [if_neg e, hu, show x = k by omega]
 ·exact fld_heap h.fld (bl b (by omega))
 ·exact ⟨hg.os.trans h.only.os, hg.tape.trans h.only.tape, hg.output.trans h.only.output, Nat.le_trans h.only.size hg.size, fun i hi hne2 => (bl i (by omega)).trans (h.only.block i hi hne2)⟩
theorem ShAt.store (h : ShAt w0 w z b n r x zr F V vh v) (hr : r < n) (hzb : b < w0.heap.size) : ShAt w0 (w.setCell ⟨z, r, none⟩ v) z b n r x zr F V v v := by
 have hb1 := h.base.1
 have hb2 := h.base.2.1
 have hb3 := h.base.2.2
 have h1 := h.head.set_ r v
 rw [hdX_set hr] at h1
 refine ⟨h1, fun i hi => ⟨(h.row i hi).1.keep fun g hg => Below.heap_setCell w _ _ g (fun e => own8_ne (h.row i hi).1 h.head (by rw [hg, e])), (h.row i hi).2⟩, h.cur.keep fun g hg => Below.heap_setCell w _ _ g (fun e => own8_ne h.cur h.head (by rw [hg, e])), h.fld.far (p := ⟨z, r, none⟩) (show b ≠ z by omega) _, h.only.setNew (p := ⟨z, r, none⟩) hb1 _, ⟨hb1, hb2, by simp [World.setCell]; exact hb3⟩⟩
theorem ShAt.next (h : ShAt w0 w z b n r n zr F V v v) : ShAt w0 w z b n (r + 1) 0 w.heap.size F (fun i => if i = r then v else V i) (.slice none 0 0) (.slice none 0 0) := by
 have hb1 := h.base.1
 have hb2 := h.base.2.1
 have hb3 := h.base.2.2
 have q1 : ∀ i, i < r → (if i = r then v else V i) = V i := fun i hi => if_neg (by omega)
 refine ⟨hdX_next ▸ h.head, fun i hi => ?_, Own8.nil _ _ _, h.fld, h.only, ⟨hb1, by omega, Nat.le_refl _⟩⟩
 show Own8 w (z + 1) (if i = r then v else V i) n (F i) ∧ ∀ g, (if i = r then v else V i).ownBlock = some g → g < w.heap.size
 by_cases e : i < r
 ·rw [q1 i e]
  exact ⟨(h.row i e).1, fun g hg => ((h.row i e).1.lt hg).1⟩
 ·obtain rfl : i = r := by omega
  rw [if_pos rfl]
  exact ⟨h.cur.base hb2, fun g hg => (h.cur.lt hg).1⟩
theorem RdZ.only {A : Option Addr} {m : Nat} {q : Nat → Int} (h : RdZ w0 w0.heap.size A m q) (hne : ∀ bb o, A = some ⟨bb, o, none⟩ → bb ≠ b) (ho : Only b w0 w) : RdZ w w0.heap.size A m q := fun i hi => by
 obtain ⟨bb, o, h1, h2, h3⟩ := h i hi
 refine ⟨bb, o, h1, h2, ?_⟩
 have e := ho.block bb h2 (fun e => by injection e with e; exact hne bb o h1 e)
 rw [← h3]
 exact cell_of_heap e
end
def hdA (V : Nat → Value) (i : Nat) : Option Addr := match V i with | .slice A _ _ => A | _ => none
def hdC (V : Nat → Value) (i : Nat) : Nat := match V i with | .slice _ _ c => c | _ => 0
theorem rows_of {w0 w : World} {z b n zr : Nat} {F : Nat → Nat → Nat} {V : Nat → Value} {vh v : Value} (hn0 : 0 < n) (hbz : b < z) (hF : ∀ y x, F y x < 256) (h : ShAt w0 w z b n n 0 zr F V vh v) : ∀ W : World, Only b w W → RdR W w.heap.size (some ⟨z, 0, none⟩) n (hdA V) (fun _ => n) (hdC V) F := fun W hW i hi => by
 obtain ⟨g, c, e, hg, hr, _, _⟩ := (h.row i hi).1.row hn0
 have eA : hdA V i = some ⟨g, 0, none⟩ := by unfold hdA; rw [e]
 have eC : hdC V i = c := by unfold hdC; rw [e]
 refine ⟨z, 0, rfl, h.head.lt, ?_, ?_⟩
 ·rw [Nat.zero_add, cell_of_heap (hW.block z h.head.lt (fun q => by injection q with q; omega)), h.head.cell, hdX_get hi, if_pos hi, eA, eC, e]
 ·show RdB W w.heap.size (hdA V i) n _
  rw [eA]
  exact (hr.heap (hW.block g hr.lt (fun q => by injection q with q; omega))).rdb (fun _ _ => hF _ _) hr.lt
theorem sol_sum {n : Nat} {x : Nat → Nat → Nat} {y z : Nat → Nat} (hz : z n = 0) (h : M.Sol n (joinM n x y) z) : ∀ i, i < n → M.xsum n (fun k => M.gmul (x i k) (z k)) = 0 := fun i hi => by
 have h2 : M.xsum n (fun j => M.gmul (joinM n x y i j) (z j)) ^^^ M.gmul (joinM n x y i n) (z n) = 0 := h i hi
 rw [hz, M.gmul_zero_right, Nat.xor_zero] at h2
 rw [← h2]
 exact M.xsum_congr fun j hj => by unfold joinM; rw [if_pos hj]
theorem sol_one {n : Nat} {x : Nat → Nat → Nat} {y X : Nat → Nat} (hX : ∀ i, i < n → X i < 256) (hy : ∀ i, i < n → y i < 256) (hs : ∀ z, M.SmallV n z → (M.Sol n (joinM n x y) z ↔ ∀ i, i < n → z i = M.gmul (X i) (z n))) : ∀ i, i < n → M.xsum n (fun k => M.gmul (x i k) (X k)) = y i := fun i hi => by
 have h1 := (hs (vec n X 1) (vec_small hX (by omega))).2 (fun k hk => by rw [vec_last, M.gmul_one (hX k hk)]; unfold vec; rw [if_pos hk]) i hi
 rw [dot_vec, M.gmul_one (hy i hi)] at h1
 have h2 := congrArg (fun t => t ^^^ y i) h1
 simpa [Nat.xor_assoc] using h2
set_option maxHeartbeats 3200000 in
theorem shares_any (b n c1 c2 y : Nat) (A1 A2 : Option Addr) (l j : Nat → Nat) (w : World) (h1 : RdZ w w.heap.size A1 n (fun i => ((l i : Nat) : Int))) (h2 : RdZ w w.heap.size A2 n (fun i => ((j i : Nat) : Int))) (hb1 : ∀ bb o, A1 = some ⟨bb, o, none⟩ → bb ≠ b) (hb2 : ∀ bb o, A2 = some ⟨bb, o, none⟩ → bb ≠ b) (hf : Fld w b) (hn0 : 0 < n) (hn : n ≤ 3) (hy : y < n)
  (hl : ∀ x y, x < y → y < n → l x < l y) (hl2 : ∀ x, x < n → l x < 13) (hj : ∀ x y, x < y → y < n → j x < j y) (hj2 : ∀ x, x < n → j x < 3) :
  Calls Tryz.prog 187 #[.pointer (some ⟨b, 0, none⟩), .slice A1 n c1, .slice A2 n c2, .int .i64 (y : Int)] w fun e w' => ∃ g X, e = .returned (.slice (some ⟨g, 0, none⟩) n n) ∧ w.heap.size ≤ g ∧ Blk w' g 5 (rowArr n X) ∧ (∀ x, x < n → X x < 256) ∧ (∀ y', y' < n → M.xsum n (fun x => M.gmul (M.fac l j y' x) (X x)) = if y' = y then 1 else 0) ∧ Fld w' b ∧ Only b w w' := by
 have H1 := Lib.hid h1
 have H2 := Lib.hid h2
 have HB1 := Lib.hid hb1
 have HB2 := Lib.hid hb2
 have HF := Lib.hid hf
 have HL := Lib.hid (And.intro hl hl2)
 have HJ := Lib.hid (And.intro hj hj2)
 have hzb := hf.lt
 have HZB := Lib.hid hzb
 obtain ⟨b1, o1, rfl, _⟩ := h1 0 hn0
 obtain ⟨b2, o2, rfl, _⟩ := h2 0 hn0
 have hmk : ∀ W : World, (Instr.makeSlice 139 (.int .i64 (n : Int)) (.int .i64 (n : Int))).run Tryz.prog W = .ok (.slice (some ⟨W.heap.size, 0, none⟩) n n) (W.alloc (.cells (hdX n 0 (fun _ => .slice none 0 0) (.slice none 0 0)) 41)) := fun W => by
  rw [make_rows n n (fun _ => 0) (by omega) W]
  congr 3
  unfold hdP hdX
  congr 1
  funext i
  rw [if_neg (by omega), if_neg (by omega)]
  split <;> rfl
 have J0 : Hid (ShAt w (w.alloc (.cells (hdX n 0 (fun _ => .slice none 0 0) (.slice none 0 0)) 41)) w.heap.size b n 0 0 (w.alloc (.cells (hdX n 0 (fun _ => .slice none 0 0) (.slice none 0 0)) 41)).heap.size (M.fac l j) (fun _ => .slice none 0 0) (.slice none 0 0) (.slice none 0 0)) :=
  Lib.hid ⟨Blk.new _ _ _, fun i hi => absurd hi (by omega), Own8.nil _ _ _, hf.alloc _, (Only.refl _ _).alloc _, ⟨Nat.le_refl _, by simp, Nat.le_refl _⟩⟩
 have K1 : Hid (∀ W : World, Only b w W → RdZ W w.heap.size (some ⟨b1, o1, none⟩) n (fun i => ((l i : Nat) : Int))) := fun W hW => h1.only hb1 hW
 have K2 : Hid (∀ W : World, Only b w W → RdZ W w.heap.size (some ⟨b2, o2, none⟩) n (fun i => ((j i : Nat) : Int))) := fun W hW => h2.only hb2 hW
 clear h1 h2 hb1 hb2 hf hl hl2 hj hj2 hzb H1 H2 HB1 HB2 HZB
 have hzb := HF.out.lt
 go_enter Tryz.func187, Tryz.ntmps187
 go_wp2_with fail
 clear hmk
 generalize hwz : w.heap.size = z at *
 have HWZ := Lib.hid hwz
 clear hwz
 have HZB : Hid (b < w.heap.size) := by show _; rw [HWZ.out]; exact hzb
 clear hzb
 go_loopw [22] (fun t wr => ∃ (r : Nat) (V : Nat → Value), t = .int .i64 r ∧ r ≤ n ∧ Hid (ShAt w wr z b n r 0 wr.heap.size (M.fac l j) V (.slice none 0 0) (.slice none 0 0))) (fun t _ => n - (intOf t).toNat)
 case atStart => exact ⟨0, _, rfl, by omega, J0⟩
 case round =>
  clear J0
  obtain ⟨wo, rfl⟩ : ∃ wo : World, wo = wr := ⟨_, rfl⟩
  obtain ⟨r, V, rfl, hrn, T1⟩ := hrel
  by_cases hr : r < n
  ·obtain ⟨b2', o2', q, _, hc2⟩ := (K2.out _ T1.out.only) r hr
   injection q with q
   injection q with q1 q2
   subst q1; subst q2
   have HJL : Hid (j r < 3) := HJ.out.2 r hr
   have hjl := HJL.out
   go_wp2_with fail
   go_loopw [29] (fun t wr => ∃ (x zr : Nat) (v : Value), t = .int .i64 x ∧ x ≤ n ∧ Hid (ShAt w wr z b n r x zr (M.fac l j) V v v)) (fun t _ => n - (intOf t).toNat)
   case atStart => exact ⟨0, _, _, rfl, by omega, T1⟩
   case round =>
    clear T1 hc2
    obtain ⟨x, zr, v, rfl, hxn, T2⟩ := hrel
    by_cases hx : x < n
    ·obtain ⟨b1', o1', q, _, hc1⟩ := (K1.out _ T2.out.only) x hx
     injection q with q
     injection q with q1 q2
     subst q1; subst q2
     have HXL : Hid (l x < 13) := HL.out.2 x hx
     go_wp2_with fail
     have T3 := Lib.hid T2.out.drew
     have HS := Lib.hid (T3.out.cell hr)
     have hxl := HXL.out
     clear T2 hc1
     refine region_anyZ (fun W : World => W.cell? ⟨z, r, none⟩ = some v) 13 (by kernel_rfl) ?_
     refine takeG 0 (.move (.tmp 9)) (some 33) none (.slice (some ⟨z, 0, none⟩) n n) (by kernel_rfl) (by kernel_rfl) (by kernel_rfl) (fun _ _ _ h => h) (fun o w e hS => exec_move w e (by kernel_rfl)) HS.out ?_
     refine takeG 1 (.move (.tmp 10)) (some 34) none (.int .i64 (r : Int)) (by kernel_rfl) (by kernel_rfl) (by kernel_rfl) (fun _ _ _ h => h) (fun o w e hS => exec_move w e (by kernel_rfl)) HS.out ?_
     refine takeG 2 (.move (.tmp 9)) (some 35) none (.slice (some ⟨z, 0, none⟩) n n) (by kernel_rfl) (by kernel_rfl) (by kernel_rfl) (fun _ _ _ h => h) (fun o w e hS => exec_move w e (by kernel_rfl)) HS.out ?_
     refine takeG 3 (.move (.tmp 10)) (some 36) none (.int .i64 (r : Int)) (by kernel_rfl) (by kernel_rfl) (by kernel_rfl) (fun _ _ _ h => h) (fun o w e hS => exec_move w e (by kernel_rfl)) HS.out ?_
     refine takeG 4 (.indexAddr 139 (.tmp 35) (.tmp 36)) (some 37) none (.pointer (some ⟨z, r, none⟩)) (by kernel_rfl) (by kernel_rfl) (by kernel_rfl) (fun _ _ _ h => h) (fun o w e hS => exec_index (u1 := .slice (some ⟨z, 0, none⟩) n n) (u2 := .int .i64 (r : Int)) w e (by kernel_rfl) (by kernel_rfl) (index_rows_zero z n n r hr _)) HS.out ?_
     refine takeG 5 (.load 41 (.tmp 37)) (some 38) none (v) (by kernel_rfl) (by kernel_rfl) (by kernel_rfl) (fun _ _ _ h => h) (fun o w e hS => exec_load (x := (.tmp 37)) e (by kernel_rfl) (load_one Tryz.underlying41 (by kernel_rfl) hS)) HS.out ?_
     refine takeG 6 (.move (.tmp 0)) (some 39) none (.pointer (some ⟨b, 0, none⟩)) (by kernel_rfl) (by kernel_rfl) (by kernel_rfl) (fun _ _ _ h => h) (fun o w e hS => exec_move w e (by kernel_rfl)) HS.out ?_
     refine takeG 7 (.move (.tmp 11)) (some 40) none (.int .i64 ((j r : Nat) : Int)) (by kernel_rfl) (by kernel_rfl) (by kernel_rfl) (fun _ _ _ h => h) (fun o w e hS => exec_move w e (by kernel_rfl)) HS.out ?_
     refine takeG 8 (.move (.tmp 13)) (some 41) none (.int .i64 ((l x : Nat) : Int)) (by kernel_rfl) (by kernel_rfl) (by kernel_rfl) (fun _ _ _ h => h) (fun o w e hS => exec_move w e (by kernel_rfl)) HS.out ?_
     refine loneG 9 (.call ⟨.value (.func 179), #[(.tmp 39), (.tmp 40), (.tmp 41)], #[228, 3, 3]⟩) (some 42) none (by kernel_rfl) (by kernel_rfl) (by kernel_rfl) ?_
     intro o ho hod
     refine wp_callC (f := 179) (args := #[.pointer (some ⟨b, 0, none⟩), .int .i64 ((j r : Nat) : Int), .int .i64 ((l x : Nat) : Int)]) (by cases o; cases ho; kernel_rfl) (factor_any b (j r) (l x) _ hjl (by omega) T3.out.fld) ?_
     rintro e W1 ⟨rfl, hf1, ho1⟩
     refine ⟨.int .u8 ((M.pw (l x * j r) : Nat) : Int), rfl, ?_⟩
     rw [hod]
     clear hod ho
     have T4 := Lib.hid (T3.out.field hf1 ho1 HZB.out)
     have HST4 := Lib.hid (T4.out.cell hr)
     clear hf1 ho1
     refine ⟨fun _ => HST4.out, ?_⟩
     refine loneG 10 (.buildSlice 41 1 #[(0, (.tmp 42))]) (some 43) none (by kernel_rfl) (by kernel_rfl) (by kernel_rfl) ?_
     intro o ho hod
     refine wp_val (exec_buildSlice1 ho (u := .int .u8 ((M.pw (l x * j r) : Nat) : Int)) (by kernel_rfl) (bs_one8 _ _)) ?_
     rw [hod]
     clear hod ho
     have T5 := Lib.hid (T4.out.alloc (.cells #[.int .u8 ((M.pw (l x * j r) : Nat) : Int)] 5))
     have HST5 := Lib.hid (T5.out.cell hr)
     have R4 := Lib.hid (rdb_one8 W1 (M.pw (l x * j r)) (M.pw_any_lt _))
     refine ⟨fun _ => HST5.out, ?_⟩
     refine loneG 11 (.call ⟨.builtin .append, #[(.tmp 38), (.tmp 43)], #[41, 41]⟩) (some 44) none (by kernel_rfl) (by kernel_rfl) (by kernel_rfl) ?_
     intro o ho hod
     refine wp_append_rd8 (.tmp 38) (.tmp 43) ho (by kernel_rfl) (by kernel_rfl) T5.out.cur R4.out (fun e => by cases e) (Nat.le_refl _) (by omega) (by have := T5.out.room; omega) ?_
     intro v5 W5 ho5 hg5 he5
     rw [hod]
     clear hod ho
     have T6 := Lib.hid (T5.out.append ho5 hg5 rfl HZB.out)
     have HST6 := Lib.hid (T6.out.cell hr)
     refine ⟨fun _ => HST6.out, ?_⟩
     refine takeG 12 (.indexAddr 139 (.tmp 33) (.tmp 34)) (some 45) none (.pointer (some ⟨z, r, none⟩)) (by kernel_rfl) (by kernel_rfl) (by kernel_rfl) (fun _ _ _ h => h) (fun o w e hS => exec_index (u1 := .slice (some ⟨z, 0, none⟩) n n) (u2 := .int .i64 (r : Int)) w e (by kernel_rfl) (by kernel_rfl) (index_rows_zero z n n r hr _)) HST6.out ?_
     refine lastStore 13 41 (.tmp 45) (.tmp 44) (.pointer (some ⟨z, r, none⟩)) v5 _ (by kernel_rfl) (by kernel_rfl) (by kernel_rfl) rfl (by kernel_rfl) (by kernel_rfl) (store_one (by kernel_rfl) (own8_shape T6.out.cur).1 (own8_shape T6.out.cur).2 (by rw [HST6.out]; rfl) (T6.out.head.frozen r) (by rw [add_plain]; rfl)) ?_
     have T7 := Lib.hid (T6.out.store hr HZB.out)
     clear T3 T4 T5 T6 HS HST4 HST5 HST6 R4
     simp only [put_some, put_none, List.setIfInBounds_toArray, List.set_cons_succ, List.set_cons_zero]
     go_wp2_with fail
     go_roundw
     case rel => exact ⟨x + 1, zr, v5, by go_num, by omega, T7⟩
     case measure => simp [intOf]; omega
    ·obtain rfl : n = x := by omega
     have T3 := Lib.hid T2.out.next
     clear T2
     go_wp2_with fail
     go_roundw
     case rel => exact ⟨r + 1, _, by go_num, by omega, T3⟩
     case measure => simp [intOf]; omega
  ·obtain rfl : n = r := by omega
   have hmb := fun W => make_bytes n (by omega) W (n : Int) rfl
   have hyn : (y : Int) < (n : Int) := by omega
   have G2 := Lib.hid (RowG.of_blk (Blk.new wo 5 (rowArr n fun _ => 0)) (Nat.le_refl _))
   have c2 := G2.out.cell hy
   have f2 := G2.out.frozen hy
   go_upto_region 13 with (fail)
   clear c2 f2 G2 hmb hyn
   obtain ⟨W3, hW3⟩ : ∃ W3, W3 = wo.alloc (.cells ((rowArr n fun _ => 0).setIfInBounds y (.int .u8 1)) 5) := ⟨_, rfl⟩
   rw [← hW3]
   have T3 : Hid (ShAt w W3 z b n n 0 wo.heap.size (M.fac l j) V (.slice none 0 0) (.slice none 0 0)) := by rw [hW3]; exact T1.out.alloc _
   have G3 : Hid (RowG W3 wo.heap.size n (fun i => if i = y then 1 else 0)) := by
    rw [hW3]
    refine ⟨_, (0, 0), Blk.new _ _ _, .inl (Nat.le_refl _), fun i hi => ?_⟩
    rw [Array.getElem?_setIfInBounds]
    by_cases e : y = i
    ·subst e
     rw [if_pos rfl, if_pos (by simp [rowArr]; omega)]
     show some (Value.int .u8 1) = some (Value.int .u8 (((if y = y then 1 else 0 : Nat)) : Int))
     rw [if_pos rfl]
     rfl
    ·rw [if_neg e, rowArr_get hi]
     show some (Value.int .u8 ((0 : Nat) : Int)) = some (Value.int .u8 (((if i = y then 1 else 0 : Nat)) : Int))
     rw [if_neg (fun (q : i = y) => e q.symm)]
   have HO : Hid (Only b w W3 ∧ w.heap.size ≤ W3.heap.size) := ⟨T3.out.only, T3.out.only.size⟩
   have hbz : b < z := by have := HZB.out; rw [HWZ.out] at this; exact this
   have gz : z + 1 ≤ wo.heap.size := T1.out.base.2.1
   clear hW3 T1
   have HRS := Lib.hid (rows_of hn0 hbz (M.fac_lt l j) T3.out)
   have HYS : Hid (∀ W : World, Only b W3 W → RdB W W3.heap.size (some ⟨wo.heap.size, 0, none⟩) n (fun i => if i = y then 1 else 0)) := fun W hW =>
    (G3.out.heap (hW.block _ G3.out.lt (fun e => by injection e with e; omega))).rdb (fun v _ => by split <;> omega) G3.out.lt
   have HFL := Lib.hid T3.out.fld
   clear T3 G3
   go_wp2_with fail
   refine (solve_ok b (some ⟨z, 0, none⟩) (some ⟨wo.heap.size, 0, none⟩) n n n W3.heap.size W3.heap.size (hdA V) (fun _ => n) (hdC V) (M.fac l j) (fun i => if i = y then 1 else 0) W3 (Nat.le_refl _) (Nat.le_refl _) HRS.out HYS.out ⟨hn0, by omega, rfl, fun _ _ => rfl⟩ HFL.out).mono ?_
   rintro e w7 ⟨hsol, hf7, ho7⟩
   have F7 := Lib.hid hf7
   have O7 := Lib.hid ho7
   have hU := M.undo_all hn l j HL.out.1 HL.out.2 HJ.out.1 HJ.out.2
   have HU := Lib.hid hU
   clear hf7 ho7 hU HRS HYS HFL
   cases hsol with
   | none q hq hqn hqe hqs =>
    obtain ⟨G, hG⟩ := HU.out
    obtain ⟨i, hi, hne⟩ := hqe
    exact absurd (M.undo_zero (M.fac_lt l j) hG (fun x hx => hq x (by omega)) (sol_sum hqn hqs) i hi) hne
   | one g X hg hb hX hs =>
    have HGX := Lib.hid (And.intro hg (And.intro hb (And.intro hX (sol_one hX (fun i _ => by split <;> omega) hs))))
    clear hg hb hX hs HU
    go_wp2_with fail
    go_ret
    exact ⟨g, X, rfl, Nat.le_trans HO.out.2 HGX.out.1, HGX.out.2.1, HGX.out.2.2.1, HGX.out.2.2.2, F7.out, HO.out.1.trans O7.out⟩
end Go.Proofs.YtkbndlnmbbbohaaGreatDoor
namespace Go.Proofs.YtkbndlnmbbbohaaGreatDoor
open Go.RowKit
set_option maxRecDepth 100000
set_option linter.unusedVariables false
end Go.Proofs.YtkbndlnmbbbohaaGreatDoor
namespace Go.Proofs.YtkbndlnmbbbohaaGreatDoor
open Go Go.RowKit
set_option maxRecDepth 100000
set_option linter.unusedVariables false
end Go.Proofs.YtkbndlnmbbbohaaGreatDoor
namespace Go.Proofs.YtkbndlnmbbbohaaGreatDoor
open Go Go.RowKit
set_option maxRecDepth 100000
set_option linter.unusedVariables false
theorem slice_headR (b o n c N : Nat) (h1 : N ≤ c) (W : World) : (Instr.sliceAt 139 (.slice (some ⟨b, o, none⟩) n c) none (some (.int .i64 (N : Int))) none).run Tryz.prog W = .ok (.slice (some ⟨b, o, none⟩) N c) W := by
 have hu : Tryz.prog.underlying 139 = some (.slice (Tryz.prog.elem 139)) := by kernel_rfl
 have he : Tryz.prog.elem 139 = 41 := by kernel_rfl
 have hs : (sizeOf 41).run Tryz.prog W = .ok 1 W := by kernel_rfl
 rw [run_sliceAt_slice (P := Tryz.prog) (w := W) (h := hu), run_slice_h (P := Tryz.prog) (w := W) 139 (some ⟨b, o, none⟩) n c hu .i64 (N : Int) (by omega) (by omega), he, hs]
 simp [sliced, Addr.add, Result.andThen]
end Go.Proofs.YtkbndlnmbbbohaaGreatDoor
namespace Go.Proofs.YtkbndlnmbbbohaaGreatDoor
open Go Go.RowKit
set_option maxRecDepth 100000
set_option linter.unusedVariables false
theorem RdR.heads {w : World} {B n : Nat} {A : Option Addr} {ra : Nat → Option Addr} {rl rc : Nat → Nat} {x : Nat → Nat → Nat} (h : RdR w B A n ra rl rc x) : RdH w B A n (fun i => (ra i, rl i, rc i)) := fun i hi => by
 obtain ⟨b, o, h1, h2, h3, _⟩ := h i hi
 exact ⟨b, o, h1, h2, h3⟩
namespace parityBounds
end parityBounds
end Go.Proofs.YtkbndlnmbbbohaaGreatDoor
