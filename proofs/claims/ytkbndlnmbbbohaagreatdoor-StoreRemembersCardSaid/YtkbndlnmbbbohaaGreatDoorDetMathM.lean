/-
 'array.load' by a contract: what cells hold, with nothing for those whose drives are gone. Conditions: the array is one, its power is on, the cells are there.
-/
import Derived.Test.YtkbndlnmbbbohaaGreatDoorArrCat
import Derived.Test.YtkbndlnmbbbohaaGreatDoorFieldElimM
import Derived.Test.YtkbndlnmbbbohaaGreatDoorParFaultM
import Derived.Test.YtkbndlnmbbbohaaGreatDoorArrCallsM
import Derived.Test.YtkbndlnmbbbohaaGreatDoorFieldGaussM
namespace Go.Proofs.YtkbndlnmbbbohaaGreatDoor
open Go Go.RowKit refRack
set_option maxRecDepth 100000
set_option linter.unusedVariables false
namespace Arr
def hdsA (n : Nat) (H : Nat → Hd) : Array Value := Array.ofFn (n := n) fun j => hdV (H j.val)
theorem hdsA_get {n : Nat} {H : Nat → Hd} {j : Nat} (h : j < n) : (hdsA n H)[j]? = some (hdV (H j)) := by simp [hdsA, h]
theorem hdsA_set {n : Nat} {H : Nat → Hd} {i : Nat} {a : Hd} (h : i < n) : (hdsA n H).setIfInBounds i (hdV a) = hdsA n (fun j => if j = i then a else H j) := by
 have hs : ∀ H, (hdsA n H).size = n := fun H => by simp [hdsA]
 apply Array.ext_getElem?
 intro j
 rw [Array.getElem?_setIfInBounds, hs]
 by_cases hj : j < n
 ·rw [hdsA_get hj, hdsA_get hj]
  by_cases e : i = j
  ·subst e; rw [if_pos rfl, if_pos h, if_pos rfl]
  ·rw [if_neg e, if_neg (fun q => e q.symm)]
 ·rw [if_neg (by omega), Array.getElem?_eq_none (by rw [hs]; omega), Array.getElem?_eq_none (by rw [hs]; omega)]
theorem hdsA_none (n m : Nat) (R : Nat → Nat) : hdP n m 0 R = hdsA n (fun _ => (none, 0, 0)) := by
 apply Array.ext_getElem?
 intro j
 by_cases hj : j < n
 ·rw [hdP_get hj, hdsA_get hj, if_neg (Nat.not_lt_zero _)]
  rfl
 ·rw [Array.getElem?_eq_none (by simp [hdP]; omega), Array.getElem?_eq_none (by simp [hdsA]; omega)]
theorem owns_head {w : World} {B n c : Nat} {e : TypeId} {v : Value} {xs : List Value} (h : w.ownsRow B e c v n xs) : ∃ H : Hd, v = hdV H ∧ H.2.1 = n := by
 rcases h.2 with ⟨rfl, e2⟩ | ⟨g, cap, cur, rfl, _⟩
 ·exact ⟨(none, 0, 0), rfl, e2.symm⟩
 ·exact ⟨(some ⟨g, 0, none⟩, n, cap), rfl, rfl⟩
theorem owns_keepK {B base n : Nat} {w w' : World} {v : Value} {xs : List Value} (h : w.ownsRow base 5 1 v n xs) (hk : Keep B w w') : w'.ownsRow base 5 1 v n xs := by
 refine ⟨h.1, ?_⟩
 rcases h.2 with e | ⟨g, cap, cur, e, h1, h2, h3⟩
 ·exact .inl e
 ·exact .inr ⟨g, cap, cur, e, h1, hk.kept g _ h2 rfl, h3⟩
theorem owns_far {base n g : Nat} {w : World} {v u : Value} {xs : List Value} {cs : Array Value} {p : Addr} (h : w.ownsRow base 5 1 v n xs) (hg : Blk w g 41 cs) (hp : p.block = g) : (w.setCell p u).ownsRow base 5 1 v n xs := by
 refine ⟨h.1, ?_⟩
 rcases h.2 with e | ⟨g', cap, cur, e, h1, h2, h3⟩
 ·exact .inl e
 ·refine .inr ⟨g', cap, cur, e, h1, (Below.heap_setCell w p u g' ?_).trans h2, h3⟩
  rw [hp]
  rintro rfl
  exact Blk.ne_ (t := 5) (t' := 41) h2 hg (by decide) rfl
theorem owns_rdb {w : World} {base n : Nat} {H : Hd} {X : Nat → Nat} (h : w.ownsRow base 5 1 (hdV H) n (rowL n X)) (hX : ∀ j, j < n → X j < 256) : RdB w w.heap.size H.1 n X ∧ H.2.1 = n ∧ (H.1 = none → H.2.2 = 0) ∧ n ≤ H.2.2 ∧ H.2.2 ≤ maxLen := by
 obtain ⟨A, m, c⟩ := H
 rcases h.2 with ⟨e, e2⟩ | ⟨g, cap, cur, e, h1, h2, h3, h4, h5, h6⟩
 ·injection e with q1 q2 q3
  subst q1 q2 q3 e2
  exact ⟨fun j hj => absurd hj (by omega), rfl, fun _ => rfl, Nat.le_refl _, by simp [maxLen]⟩
 ·injection e with q1 q2 q3
  subst q1 q2 q3
  refine ⟨fun j hj => ⟨g, 0, rfl, (Array.getElem?_eq_some_iff.1 h2).1, ?_, hX j hj⟩, rfl, (fun e => by cases e), h3, h4⟩
  rw [Nat.zero_add, cell_of_row w g j cur _ (0, 0) h2]
  rw [Nat.mul_one] at h6
  have h7 := rowL_get X hj
  rw [← h6, List.getElem?_take_of_lt hj, Array.getElem?_toList] at h7
  exact h7
section
variable {B a r f : Nat} {w w' : World} {s s' : RS}
structure LoadAt (B : Nat) (w0 w : World) (g n i : Nat) (f ad : Nat) (s : RS) (H : Nat → Hd) : Prop where
 head : Blk w g 41 (hdsA n H)
 row : ∀ j, j < i → w.ownsRow w0.heap.size 5 1 (hdV (H j)) (lenC s (ad + j)) (rowL (lenC s (ad + j)) (holdsC s f (ad + j)))
set_option maxHeartbeats 3200000 in
theorem load_any (w : World) (h : At B w a r f s) (ho : s.off = false) (ad n : Nat) (hn : n ≤ 100) (hc : ad + n ≤ cells s f) :
  Calls Tryz.prog 75 #[.pointer (some ⟨a, 0, none⟩), .int .i64 (ad : Int), .int .i64 (n : Int)] w fun e w' => e = .returned (.tuple #[.slice (some ⟨w.heap.size, 0, none⟩) n n, .int .i64 0]) ∧ (∃ H, LoadAt B w w' w.heap.size n n f ad s H) ∧ RackAt B w' r s ∧ Keep B w w' := by
 have HA := Lib.hid h
 have HO := Lib.hid ho
 have HC : Hid (ad + n ≤ cells s f) := Lib.hid hc
 have hle := cells_le h
 have hmk : ∀ W : World, (Instr.makeSlice 139 (.int .i64 (n : Int)) (.int .i64 (n : Int))).run Tryz.prog W = .ok (.slice (some ⟨W.heap.size, 0, none⟩) n n) (W.alloc (.cells (hdsA n (fun _ => (none, 0, 0))) 41)) := fun W => by
  rw [← hdsA_none n 0 (fun _ => 0)]
  exact make_rows n 0 (fun _ => 0) (by omega) W
 have R0 : Hid (RackAt B (w.alloc (.cells (hdsA n (fun _ => (none, 0, 0))) 41)) r s) := Lib.hid (h.rack.alloc _)
 have K0 : Hid (Keep B w (w.alloc (.cells (hdsA n (fun _ => (none, 0, 0))) 41))) := Lib.hid ((Keep.refl B w).alloc h.rack.le _)
 have L0 : Hid (LoadAt B w (w.alloc (.cells (hdsA n (fun _ => (none, 0, 0))) 41)) w.heap.size n 0 f ad s (fun _ => (none, 0, 0))) := Lib.hid ⟨Blk.new _ _ _, fun j hj => absurd hj (by omega)⟩
 have HBZ := Lib.hid h.rack.le
 have hdn : ad + n ≤ 32000 := by omega
 clear h ho hc hle
 go_enter Tryz.func75, Tryz.ntmps75
 go_wp2_with fail
 clear hmk
 generalize hz : w.heap.size = z at *
 have HZ := Lib.hid hz
 clear hz
 go_loopw [16] (fun y wr => ∃ (i : Nat) (H : Nat → Hd), i ≤ n ∧ y = .int .i64 (i : Int) ∧ Hid (LoadAt B w wr z n i f ad s H) ∧ Hid (RackAt B wr r s) ∧ Hid (Keep B w wr)) (fun y _ => n - (intOf y).toNat)
 case atStart => exact ⟨0, _, Nat.zero_le _, rfl, L0, R0, K0⟩
 case round =>
  clear L0 R0 K0
  obtain ⟨i, H, hi, rfl, HL, HR, HK⟩ := hrel
  by_cases hlt : i < n
  ·have HAr : Hid (At B wr a r f s) := Lib.hid (HA.out.rack_ HR.out HK.out rfl rfl)
   have HRD := Lib.hid (read_any wr HAr.out HO.out (ad + i) (by have := HC.out; omega))
   go_wp2_with fail
   refine HRD.out.mono ?_
   rintro e w3 ⟨⟨v3, rfl, hv3⟩, h3, k3⟩
   obtain ⟨H3, rfl, hH3⟩ := owns_head hv3
   have V3 := Lib.hid (own_base hv3 (B' := z) (by have := HK.out.below.size; have := HL.out.head.lt; omega))
   have R3 := Lib.hid h3
   have K3 := Lib.hid (HK.out.trans k3)
   have HD3 := Lib.hid (k3.block HL.out.head rfl)
   have L3 : Hid (∀ j, j < i → w3.ownsRow w.heap.size 5 1 (hdV (H j)) (lenC s (ad + j)) (rowL (lenC s (ad + j)) (holdsC s f (ad + j)))) := Lib.hid fun j hj => owns_keepK (HL.out.row j hj) k3
   have p1 : w3.cell? ⟨z, i, none⟩ = some (hdV (H i)) := by rw [HD3.out.cell, hdsA_get hlt]
   have p2 : w3.frozen? ⟨z, i, none⟩ = false := HD3.out.frozen i
   obtain ⟨A3, n3, c3⟩ := H3
   have p1 : ∃ u, w3.cell? ⟨z, i, none⟩ = some u := ⟨_, p1⟩
   obtain ⟨u3, p1⟩ := p1
   have LN : Hid (LoadAt B w (w3.setCell ⟨z, i, none⟩ (.slice A3 n3 c3)) z n (i + 1) f ad s (fun j => if j = i then (A3, n3, c3) else H j)) := Lib.hid ⟨by
     have h := HD3.out.set_ i (hdV (A3, n3, c3))
     rw [hdsA_set hlt] at h
     exact h, fun j hj => by
     by_cases e : j = i
     ·subst e
      rw [if_pos rfl, HZ.out]
      exact owns_far V3.out HD3.out rfl
     ·rw [if_neg e]
      exact owns_far (L3.out j (by omega)) HD3.out rfl⟩
   have RN : Hid (RackAt B (w3.setCell ⟨z, i, none⟩ (.slice A3 n3 c3)) r s) := Lib.hid (R3.out.far HD3.out rfl rfl)
   have KN : Hid (Keep B w (w3.setCell ⟨z, i, none⟩ (.slice A3 n3 c3))) := Lib.hid ⟨K3.out.below.setCell (p := ⟨z, i, none⟩) HBZ.out _, fun k o h1 h2 => by
     refine (Below.heap_setCell w3 ⟨z, i, none⟩ _ k ?_).trans (K3.out.kept k o h1 h2)
     have := (Array.getElem?_eq_some_iff.1 h1).1
     have hz := HZ.out
     show k ≠ z
     omega⟩
   clear hv3 h3 k3 V3 L3 hH3
   have hdv : hdV (A3, n3, c3) = .slice A3 n3 c3 := rfl
   rw [hdv]
   unfold errC
   cases hg : goneC s (ad + i) with
   | true =>
    clear hg
    go_wp2_with fail
    go_roundw
    case rel => exact ⟨i + 1, _, by omega, by go_num, LN, RN, KN⟩
    case measure => simp [intOf]; omega
   | false =>
    clear hg
    go_wp2_with fail
    go_roundw
    case rel => exact ⟨i + 1, _, by omega, by go_num, LN, RN, KN⟩
    case measure => simp [intOf]; omega
  ·obtain rfl : i = n := by omega
   go_wp2_with fail
   go_ret2
   rw [HZ.out]
   exact ⟨rfl, ⟨H, HL.out⟩, HR.out, HK.out⟩
end
end Arr
end Go.Proofs.YtkbndlnmbbbohaaGreatDoor
namespace Go.Proofs.YtkbndlnmbbbohaaGreatDoor.D
open Go Go.RowKit
set_option maxRecDepth 100000
set_option linter.unusedVariables false
theorem wp_append_rd8 {w : World} {o : Oper} {a : Act} {K : Act → World → Prop} {Q : Exit → Act → World → Prop} (s x : Operand)
  (ho : o.op = .call { callee := .builtin .append, args := #[s, x], argTypes := #[41, 41] }) {base n B m c : Nat} {v : Value} {A : Option Addr} {X Y : Nat → Nat} (hs : a.eval s = v) (hx : a.eval x = .slice A m c)
  (hown : Own8 w base v n X) (hy : RdB w B A m Y) (h0 : A = none → c = 0) (hmc : m ≤ c) (hl : n + m ≤ 70368744177664) (hb : base ≤ w.heap.size)
  (h : ∀ v' w', Own8 w' base v' (n + m) (cat n X Y) → w.grownBy w' v.ownBlock → (v'.ownBlock = v.ownBlock ∨ v'.ownBlock = some w.heap.size) → K (a.put o.dst v') w') : o.wp Tryz.prog a w K Q := by
 obtain ⟨v', w', hrun, h1, h2, h3⟩ := run_append_rd o.type hown hy h0 hmc hl hb
 unfold Oper.wp execOp
 simp only [ho, resolve, invoke, builtin, Sem.run_bind, Sem.run_pure, Result.andThen_ok, List.map_toArray, List.map_cons, List.map_nil, hs, hx, hrun]
 exact h v' w' h1 h2 h3
theorem bs_one8 (u : Int) (w : World) : (Instr.buildSlice 41 1 #[(0, .int .u8 u)]).run Tryz.prog w = .ok (.slice (some ⟨w.heap.size, 0, none⟩) 1 1) (w.alloc (.cells #[.int .u8 u] 5)) := by kernel_rfl
theorem rdb_one8 (w : World) (u : Nat) (hu : u < 256) : RdB (w.alloc (.cells #[.int .u8 ((u : Nat) : Int)] 5)) (w.heap.size + 1) (some ⟨w.heap.size, 0, none⟩) 1 (fun _ => u) := fun i hi => by
 obtain rfl : i = 0 := by omega
 refine ⟨w.heap.size, 0, rfl, by omega, ?_, hu⟩
 rw [Nat.zero_add, (Blk.new w _ _).cell]
 rfl
theorem index_rows (b o n c i : Nat) (h : i < n) (w : World) : (Instr.indexAt 139 (.slice (some ⟨b, o, none⟩) n c) (.int .i64 (i : Int))).run Tryz.prog w = .ok (.pointer (some ⟨b, o + i, none⟩)) w :=
 index_slice (P := Tryz.prog) (t := 139) (e := 41) Tryz.underlying139 (by kernel_rfl) b o n c i h w
theorem index_rows_zero (b n c i : Nat) (h : i < n) (w : World) : (Instr.indexAt 139 (.slice (some ⟨b, 0, none⟩) n c) (.int .i64 (i : Int))).run Tryz.prog w = .ok (.pointer (some ⟨b, i, none⟩)) w := by
 have h := index_rows b 0 n c i h w
 rw [Nat.zero_add] at h
 exact h
theorem own_grown8 {w0 w w' : World} {base n : Nat} {v : Value} {X : Nat → Nat} (hb : Below base w0 w) (ho : Own8 w base v n X) (hg : w.grownBy w' v.ownBlock) (hs : base ≤ w.heap.size) : Below base w0 w' :=
 hb.trans ⟨hg.os, hg.tape, hg.output, hg.size, fun k hk => hg.block k (by omega) (fun e => by have := (ho.lt e.symm).2; omega)⟩
structure Cols (w : World) (base : Nat) (v : Value) (i n : Nat) (H : Nat → Hd) (R : Nat → Nat) (x : Nat → Nat → Nat) : Prop where
 own : OwnS w base v i H
 hd : ∀ j, j < i → ∃ c, H j = (some ⟨R j, 0, none⟩, n, c) ∧ n ≤ c ∧ c ≤ maxLen
 row : ∀ j, j < i → base ≤ R j ∧ RowG w (R j) n (x j)
 apart : ∀ j k, j < k → k < i → R j ≠ R k
section
variable {w w' : World} {base i n : Nat} {v : Value} {H : Nat → Hd} {R : Nat → Nat} {x : Nat → Nat → Nat}
theorem Cols.below (h : Cols w base v i n H R x) {B : Nat} (hb : Below B w w') (hB : w.heap.size ≤ B) : Cols w' base v i n H R x :=
 ⟨h.own.below hb hB, h.hd, fun j hj => ⟨(h.row j hj).1, (h.row j hj).2.below hb (Nat.lt_of_lt_of_le (h.row j hj).2.lt hB)⟩, h.apart⟩
theorem Cols.rdr (h : Cols w base v i n H R x) (hx : ∀ j, j < i → ∀ v, v < n → x j v < 256) : ∃ A c, v = .slice A i c ∧ i ≤ c ∧ c ≤ maxLen ∧ RdR w w.heap.size A i (fun j => (H j).1) (fun j => (H j).2.1) (fun j => (H j).2.2) x := by
 obtain ⟨A, c, rfl, h1, h2, h3, _⟩ := h.own.shape
 refine ⟨A, c, rfl, h2, h3, fun j hj => ?_⟩
 obtain ⟨b, o, q1, q2, q3⟩ := h1 j hj
 obtain ⟨cj, e, _⟩ := h.hd j hj
 obtain ⟨_, hr⟩ := h.row j hj
 refine ⟨b, o, q1, q2, q3, ?_⟩
 show RdB w w.heap.size (H j).1 (H j).2.1 (x j)
 rw [e]
 exact hr.rdb (fun v hv => hx j hj v hv) hr.lt
theorem Cols.len (h : Cols w base v i n H R x) {j : Nat} (hj : j < i) : (H j).2.1 = n := by
 obtain ⟨c, e, _⟩ := h.hd j hj
 rw [e]
end
end Go.Proofs.YtkbndlnmbbbohaaGreatDoor.D
set_option linter.unusedVariables false
namespace Go.Proofs.YtkbndlnmbbbohaaGreatDoor.M
set_option maxRecDepth 100000
def skip (k j : Nat) : Nat := if j < k then j else j + 1
def cut (k c : Nat) : Nat := if c < k then c else c - 1
def minor (a : Nat → Nat → Nat) (k i j : Nat) : Nat := a (i + 1) (skip k j)
def det : Nat → (Nat → Nat → Nat) → Nat
 | 0, _ => 1
 | n + 1, a => xsum (n + 1) fun k => gmul (a 0 k) (det n (minor a k))
theorem det_lt : ∀ n a, det n a < 256
 | 0, _ => by show 1 < 256; omega
 | n + 1, a => xsum_lt fun _ _ => gmul_lt _ _
theorem skip_lt {n k j : Nat} (hj : j < n) : skip k j < n + 1 := by unfold skip; split <;> omega
theorem skip_ne (k j : Nat) : skip k j ≠ k := by unfold skip; split <;> omega
theorem cut_skip (k j : Nat) : cut k (skip k j) = j := by
 unfold cut skip
 by_cases h : j < k
 ·rw [if_pos h, if_pos h]
 ·rw [if_neg h, if_neg (by omega)]; omega
theorem det_congr : ∀ n (a b : Nat → Nat → Nat), (∀ i, i < n → ∀ j, j < n → a i j = b i j) → det n a = det n b
 | 0, _, _, _ => rfl
 | n + 1, a, b, h => xsum_congr fun k hk => by
  rw [h 0 (by omega) k hk, det_congr n (minor a k) (minor b k) fun i hi j hj => h (i + 1) (by omega) _ (skip_lt hj)]
theorem skip_cut {k c : Nat} (h : k ≠ c) : skip k (cut k c) = c := by
 by_cases h1 : c < k
 ·rw [show cut k c = c from if_pos h1]; exact if_pos h1
 ·rw [show cut k c = c - 1 from if_neg h1, show skip k (c - 1) = c - 1 + 1 from if_neg (by omega)]; omega
theorem skip_cut1 {k c : Nat} (h : k ≠ c) (h2 : k ≠ c + 1) : skip k (cut k c + 1) = c + 1 := by
 by_cases h1 : c < k
 ·rw [show cut k c = c from if_pos h1]; exact if_pos (by omega)
 ·rw [show cut k c = c - 1 from if_neg h1, show skip k (c - 1 + 1) = c - 1 + 1 + 1 from if_neg (by omega)]; omega
def setc (a : Nat → Nat → Nat) (c : Nat) (v : Nat → Nat) (i j : Nat) : Nat := if j = c then v i else a i j
theorem setc_at (a : Nat → Nat → Nat) (c : Nat) (v : Nat → Nat) (i : Nat) : setc a c v i c = v i := if_pos rfl
theorem setc_ne {a : Nat → Nat → Nat} {c j : Nat} (h : j ≠ c) (v : Nat → Nat) (i : Nat) : setc a c v i j = a i j := if_neg h
theorem setc_lt {a : Nat → Nat → Nat} {c : Nat} {v : Nat → Nat} (ha : ∀ i j, a i j < 256) (hv : ∀ i, v i < 256) (i j : Nat) : setc a c v i j < 256 := by
 unfold setc; split
 ·exact hv i
 ·exact ha i j
theorem setc_swap {a : Nat → Nat → Nat} {c d : Nat} (h : c ≠ d) (u v : Nat → Nat) : setc (setc a c u) d v = setc (setc a d v) c u := by
 funext i j
 unfold setc
 by_cases h1 : j = d
 ·by_cases h2 : j = c
  ·exact absurd (h2.symm.trans h1) h
  ·rw [if_pos h1, if_neg h2, if_pos h1]
 ·rw [if_neg h1, if_neg h1]
theorem minor_lt {a : Nat → Nat → Nat} (ha : ∀ i j, a i j < 256) (k i j : Nat) : minor a k i j < 256 := ha _ _
theorem minor_setc {a : Nat → Nat → Nat} {c k : Nat} (h : k ≠ c) (v : Nat → Nat) : minor (setc a c v) k = setc (minor a k) (cut k c) fun i => v (i + 1) := by
 funext i j
 unfold minor setc
 have e : skip k j = c ↔ j = cut k c := by unfold skip cut; split <;> split <;> omega
 by_cases h1 : skip k j = c
 ·rw [if_pos h1, if_pos (e.1 h1)]
 ·rw [if_neg h1, if_neg (fun q => h1 (e.2 q))]
theorem minor_same (a : Nat → Nat → Nat) (c : Nat) (v : Nat → Nat) : minor (setc a c v) c = minor a c := by
 funext i j
 unfold minor setc
 rw [if_neg (skip_ne c j)]
theorem cut_lt {n k c : Nat} (hk : k < n + 1) (hc : c < n + 1) (h : k ≠ c) : cut k c < n := by unfold cut; split <;> omega
theorem det_add : ∀ n (a : Nat → Nat → Nat) c (u v : Nat → Nat), c < n → (∀ i j, a i j < 256) → (∀ i, u i < 256) → (∀ i, v i < 256) → det n (setc a c fun i => u i ^^^ v i) = det n (setc a c u) ^^^ det n (setc a c v)
 | 0, _, _, _, _, h, _, _, _ => absurd h (by omega)
 | n + 1, a, c, u, v, hc, ha, hu, hv => by
  unfold det
  rw [← xsum_xor]
  refine xsum_congr fun k hk => ?_
  by_cases h : k = c
  ·subst h
   rw [setc_at, setc_at, setc_at, minor_same, minor_same, minor_same]
   exact gmul_xor_left (hu 0) (hv 0) (det_lt _ _)
  ·rw [setc_ne h, setc_ne h, setc_ne h, minor_setc h, minor_setc h, minor_setc h, det_add n (minor a k) (cut k c) (fun i => u (i + 1)) (fun i => v (i + 1)) (cut_lt hk hc h) (minor_lt ha k) (fun i => hu _) (fun i => hv _)]
   exact gmul_xor (ha _ _) (det_lt _ _) (det_lt _ _)
theorem det_mul : ∀ n (a : Nat → Nat → Nat) c x (u : Nat → Nat), c < n → x < 256 → det n (setc a c fun i => gmul x (u i)) = gmul x (det n (setc a c u))
 | 0, _, _, _, _, h, _ => absurd h (by omega)
 | n + 1, a, c, x, u, hc, hx => by
  unfold det
  rw [← xsum_mul hx (fun _ _ => gmul_lt _ _)]
  refine xsum_congr fun k hk => ?_
  by_cases h : k = c
  ·subst h
   rw [setc_at, setc_at, minor_same, minor_same, gmul_assoc]
  ·rw [setc_ne h, setc_ne h, minor_setc h, minor_setc h, det_mul n (minor a k) (cut k c) x (fun i => u (i + 1)) (cut_lt hk hc h) hx, gmul_assoc, gmul_comm (a 0 k) x, gmul_assoc]
theorem det_nought (n : Nat) (a : Nat → Nat → Nat) (c : Nat) (hc : c < n) : det n (setc a c fun _ => 0) = 0 := by
 have h := det_mul n a c 0 (fun _ => 0) hc (by omega)
 rw [gmul_zero_left] at h
 exact h
theorem det_adj : ∀ n (a : Nat → Nat → Nat) c, c + 1 < n → (∀ i, i < n → a i c = a i (c + 1)) → det n a = 0
 | 0, _, _, h, _ => absurd h (by omega)
 | n + 1, a, c, hc, h => by
  unfold det
  rw [xsum_two (n + 1) _ c (c + 1) (by omega) hc (by omega)]
  ·have e : det n (minor a c) = det n (minor a (c + 1)) := det_congr n _ _ fun i hi j hj => by
    unfold minor
    by_cases h1 : j < c
    ·rw [show skip c j = j from if_pos h1, show skip (c + 1) j = j from if_pos (by omega)]
    ·by_cases h2 : j = c
     ·subst h2
      rw [show skip j j = j + 1 from if_neg (by omega), show skip (j + 1) j = j from if_pos (by omega)]
      exact (h (i + 1) (by omega)).symm
     ·rw [show skip c j = j + 1 from if_neg h1, show skip (c + 1) j = j + 1 from if_neg (by omega)]
   rw [e, h 0 (by omega), Nat.xor_self]
  ·intro k hk h1 h2
   have e : det n (minor a k) = 0 := by
    refine det_adj n (minor a k) (cut k c) (by unfold cut; split <;> omega) fun i hi => ?_
    unfold minor
    rw [skip_cut h1, skip_cut1 h1 h2]
    exact h (i + 1) (by omega)
   rw [e, gmul_zero_right]
def swapc (a : Nat → Nat → Nat) (c i j : Nat) : Nat := a i (if j = c then c + 1 else if j = c + 1 then c else j)
theorem xor_four0 {p q r s : Nat} (hp : p = 0) (hs : s = 0) (h : (p ^^^ q) ^^^ (r ^^^ s) = 0) : q = r := by
 subst hp hs
 rw [Nat.zero_xor, Nat.xor_zero] at h
 have h1 := congrArg (fun t => t ^^^ r) h
 simpa [Nat.xor_assoc] using h1
theorem det_swapc (n : Nat) (a : Nat → Nat → Nat) (c : Nat) (hc : c + 1 < n) (ha : ∀ i j, a i j < 256) : det n (swapc a c) = det n a := by
 have hne : c ≠ c + 1 := by omega
 have hD : ∀ x : Nat → Nat, det n (setc (setc a c x) (c + 1) x) = 0 := fun x => det_adj n _ c hc fun i hi => by rw [setc_ne hne, setc_at, setc_at]
 have hR : ∀ x y z : Nat → Nat, (∀ i, x i < 256) → (∀ i, y i < 256) → (∀ i, z i < 256) → det n (setc (setc a c x) (c + 1) fun i => y i ^^^ z i) = det n (setc (setc a c x) (c + 1) y) ^^^ det n (setc (setc a c x) (c + 1) z) :=
  fun x y z hx hy hz => det_add n _ (c + 1) y z hc (setc_lt ha hx) hy hz
 have hL : ∀ x y z : Nat → Nat, (∀ i, x i < 256) → (∀ i, y i < 256) → (∀ i, z i < 256) → det n (setc (setc a c fun i => x i ^^^ z i) (c + 1) y) = det n (setc (setc a c x) (c + 1) y) ^^^ det n (setc (setc a c z) (c + 1) y) := fun x y z hx hy hz => by
  rw [setc_swap hne, setc_swap hne, setc_swap hne]
  exact det_add n _ c x z (by omega) (setc_lt ha hy) hx hz
 have hu : ∀ i, (fun i => a i c) i < 256 := fun i => ha i c
 have hv : ∀ i, (fun i => a i (c + 1)) i < 256 := fun i => ha i (c + 1)
 have h0 := hD fun i => (fun i => a i c) i ^^^ (fun i => a i (c + 1)) i
 rw [hR _ (fun i => a i c) (fun i => a i (c + 1)) (fun i => xor_lt (hu i) (hv i)) hu hv, hL _ _ _ hu hu hv, hL _ _ _ hu hv hv] at h0
 have e1 : det n (setc (setc a c fun i => a i c) (c + 1) fun i => a i (c + 1)) = det n a := det_congr n _ _ fun i _ j _ => by
  unfold setc
  by_cases h1 : j = c + 1
  ·rw [if_pos h1, h1]
  ·rw [if_neg h1]
   by_cases h2 : j = c
   ·rw [if_pos h2, h2]
   ·rw [if_neg h2]
 have e2 : det n (setc (setc a c fun i => a i (c + 1)) (c + 1) fun i => a i c) = det n (swapc a c) := det_congr n _ _ fun i _ j _ => by
  unfold setc swapc
  by_cases h1 : j = c + 1
  ·rw [if_pos h1, if_neg (by omega), if_pos h1]
  ·rw [if_neg h1, if_neg h1]
   by_cases h2 : j = c
   ·rw [if_pos h2, if_pos h2]
   ·rw [if_neg h2, if_neg h2]
 have d1 := hD fun i => a i c
 have d2 := hD fun i => a i (c + 1)
 rw [← e1, ← e2]
 exact xor_four0 d1 d2 h0
theorem swapc_lt {a : Nat → Nat → Nat} (ha : ∀ i j, a i j < 256) (c i j : Nat) : swapc a c i j < 256 := ha _ _
theorem det_far : ∀ d n (a : Nat → Nat → Nat) c, c + d + 1 < n → (∀ i j, a i j < 256) → (∀ i, i < n → a i c = a i (c + d + 1)) → det n a = 0
 | 0, n, a, c, hc, ha, h => det_adj n a c hc h
 | d + 1, n, a, c, hc, ha, h => by
  rw [← det_swapc n a (c + d + 1) hc ha]
  refine det_far d n _ c (by omega) (swapc_lt ha _) fun i hi => ?_
  unfold swapc
  rw [if_neg (by omega), if_neg (by omega), if_pos rfl]
  exact h i hi
theorem det_like {n c d : Nat} {a : Nat → Nat → Nat} (hc : c < n) (hd : d < n) (hne : c ≠ d) (ha : ∀ i j, a i j < 256) (h : ∀ i, i < n → a i c = a i d) : det n a = 0 := by
 rcases Nat.lt_or_ge c d with h1 | h1
 ·refine det_far (d - c - 1) n a c (by omega) ha fun i hi => ?_
  rw [show c + (d - c - 1) + 1 = d by omega]
  exact h i hi
 ·refine det_far (c - d - 1) n a d (by omega) ha fun i hi => ?_
  rw [show d + (c - d - 1) + 1 = c by omega]
  exact (h i hi).symm
def comb (m : Nat) (a : Nat → Nat → Nat) (x : Nat → Nat) (i : Nat) : Nat := xsum m fun j => gmul (x j) (a i j)
theorem det_comb {n k : Nat} {a : Nat → Nat → Nat} {x : Nat → Nat} (hk : k < n) (ha : ∀ i j, a i j < 256) (hx : ∀ j, x j < 256) : ∀ m, m ≤ n → det n (setc a k (comb m a x)) = if k < m then gmul (x k) (det n a) else 0
 | 0, _ => by rw [if_neg (by omega)]; exact det_nought n a k hk
 | m + 1, h => by
  have e : comb (m + 1) a x = fun i => comb m a x i ^^^ (fun i => gmul (x m) ((fun i => a i m) i)) i := rfl
  rw [e, det_add n a k (comb m a x) (fun i => gmul (x m) ((fun i => a i m) i)) hk ha (fun i => xsum_lt fun _ _ => gmul_lt _ _) (fun i => gmul_lt _ _), det_mul n a k (x m) (fun i => a i m) hk (hx m), det_comb hk ha hx m (by omega)]
  by_cases hm : m = k
  ·subst hm
   have e2 : det n (setc a m fun i => a i m) = det n a := det_congr n _ _ fun i _ j _ => by
    unfold setc
    by_cases h1 : j = m
    ·rw [if_pos h1, h1]
    ·rw [if_neg h1]
   rw [if_neg (by omega), if_pos (by omega), e2, Nat.zero_xor]
  ·have e2 : det n (setc a k fun i => a i m) = 0 := det_like (c := k) (d := m) hk (by omega) (fun q => hm q.symm) (setc_lt ha fun i => ha i m) fun i _ => by rw [setc_at, setc_ne hm]
   rw [e2, gmul_zero_right, Nat.xor_zero]
   by_cases h1 : k < m
   ·rw [if_pos h1, if_pos (by omega)]
   ·rw [if_neg h1, if_neg (by omega)]
theorem cramer {n k : Nat} {a : Nat → Nat → Nat} {x y : Nat → Nat} (hk : k < n) (ha : ∀ i j, a i j < 256) (hx : ∀ j, x j < 256) (hy : ∀ i, i < n → y i = comb n a x i) : det n (setc a k y) = gmul (x k) (det n a) := by
 have h := det_comb hk ha hx n (Nat.le_refl n)
 rw [if_pos hk] at h
 rw [← h]
 refine det_congr n _ _ fun i hi j _ => ?_
 unfold setc
 by_cases h1 : j = k
 ·rw [if_pos h1, if_pos h1, hy i hi]
 ·rw [if_neg h1, if_neg h1]
def Ker (m n : Nat) (a : Nat → Nat → Nat) : Prop := ∃ z : Nat → Nat, (∀ j, z j < 256) ∧ (∃ j, j < n ∧ z j ≠ 0) ∧ ∀ i, i < m → comb n a z i = 0
theorem xsum_skip (k : Nat) (f : Nat → Nat) : ∀ n, k ≤ n → xsum (n + 1) f = xsum n (fun j => f (skip k j)) ^^^ f k
 | 0, h => by
  have : k = 0 := by omega
  subst this
  rfl
 | n + 1, h => by
  by_cases e : k = n + 1
  ·subst e
   show xsum (n + 1) f ^^^ f (n + 1) = _
   rw [xsum_congr (f := fun j => f (skip (n + 1) j)) (g := f) fun j hj => by rw [show skip (n + 1) j = j from if_pos hj]]
  ·show xsum (n + 1) f ^^^ f (n + 1) = (xsum n (fun j => f (skip k j)) ^^^ f (skip k n)) ^^^ f k
   rw [xsum_skip k f n (by omega), show skip k n = n + 1 from if_neg (by omega), Nat.xor_assoc, Nat.xor_assoc, Nat.xor_comm (f k)]
def coef (a : Nat → Nat → Nat) (k j : Nat) : Nat := gmul (a 0 j) (ginv (a 0 k))
def swept (a : Nat → Nat → Nat) (k i j : Nat) : Nat := a i j ^^^ gmul (coef a k j) (a i k)
theorem swept_lt {a : Nat → Nat → Nat} (ha : ∀ i j, a i j < 256) (k i j : Nat) : swept a k i j < 256 := xor_lt (ha _ _) (gmul_lt _ _)
theorem swept_top {a : Nat → Nat → Nat} (ha : ∀ i j, a i j < 256) {k : Nat} (h : a 0 k ≠ 0) (j : Nat) : swept a k 0 j = 0 := by
 unfold swept coef
 rw [← gmul_assoc, gmul_comm (ginv _), gmul_ginv (ha 0 k) h, gmul_one (ha 0 j), Nat.xor_self]
theorem ker_swept {m n k : Nat} {a : Nat → Nat → Nat} (ha : ∀ i j, a i j < 256) (hk : k < n + 1) (hp : a 0 k ≠ 0) (h : Ker m n (minor (swept a k) k)) : Ker (m + 1) (n + 1) a := by
 obtain ⟨z, hz, ⟨j0, hj0, hne⟩, h0⟩ := h
 refine ⟨fun j => if j = k then xsum n (fun j => gmul (coef a k (skip k j)) (z j)) else z (cut k j), fun j => ?_, ⟨skip k j0, skip_lt hj0, ?_⟩, fun i hi => ?_⟩
 ·show (if j = k then _ else _) < 256
  split
  ·exact xsum_lt fun _ _ => gmul_lt _ _
  ·exact hz _
 ·show (if skip k j0 = k then _ else _) ≠ 0
  rw [if_neg (skip_ne k j0), cut_skip]
  exact hne
 ·unfold comb
  rw [xsum_skip k _ n (by omega)]
  show xsum n (fun j => gmul (if skip k j = k then _ else z (cut k (skip k j))) (a i (skip k j))) ^^^ gmul (if k = k then _ else _) (a i k) = 0
  rw [if_pos rfl, gmul_comm (xsum n _), ← xsum_mul (ha i k) (fun _ _ => gmul_lt _ _), ← xsum_xor]
  have e : ∀ j, j < n → (gmul (if skip k j = k then xsum n (fun j => gmul (coef a k (skip k j)) (z j)) else z (cut k (skip k j))) (a i (skip k j)) ^^^ gmul (a i k) (gmul (coef a k (skip k j)) (z j))) = gmul (z j) (swept a k i (skip k j)) := fun j hj => by
   rw [if_neg (skip_ne k j), cut_skip]
   unfold swept
   rw [gmul_xor (hz j) (ha _ _) (gmul_lt _ _), gmul_assoc, gmul_comm (gmul (a i k) _) (z j), gmul_comm (a i k)]
  rw [xsum_congr e]
  cases i with
  | zero => exact xsum_zero n _ fun j _ => by rw [swept_top ha hp, gmul_zero_right]
  | succ i => exact h0 i (by omega)
def part (a : Nat → Nat → Nat) (k m i j : Nat) : Nat := if j ≠ k ∧ j < m then swept a k i j else a i j
theorem part_lt {a : Nat → Nat → Nat} (ha : ∀ i j, a i j < 256) (k m i j : Nat) : part a k m i j < 256 := by
 unfold part
 split
 ·exact swept_lt ha _ _ _
 ·exact ha _ _
theorem det_part {n k : Nat} {a : Nat → Nat → Nat} (ha : ∀ i j, a i j < 256) (hk : k < n) : ∀ m, m ≤ n → det n (part a k m) = det n a
 | 0, _ => det_congr n _ _ fun i _ j _ => if_neg (by omega)
 | m + 1, h => by
  have ih := det_part ha hk m (by omega)
  by_cases e : m = k
  ·rw [← ih]
   refine det_congr n _ _ fun i _ j _ => ?_
   unfold part
   by_cases h1 : j ≠ k ∧ j < m
   ·rw [if_pos h1, if_pos ⟨h1.1, by omega⟩]
   ·rw [if_neg h1, if_neg (by omega)]
  ·have e1 : det n (part a k (m + 1)) = det n (setc (part a k m) m fun i => (fun i => a i m) i ^^^ (fun i => gmul (coef a k m) ((fun i => a i k) i)) i) := det_congr n _ _ fun i _ j _ => by
    by_cases h1 : j = m
    ·subst h1
     rw [setc_at]
     exact if_pos ⟨e, by omega⟩
    ·rw [setc_ne h1]
     unfold part
     by_cases h2 : j ≠ k ∧ j < m
     ·rw [if_pos h2, if_pos ⟨h2.1, by omega⟩]
     ·rw [if_neg h2, if_neg (by omega)]
   have e2 : det n (setc (part a k m) m fun i => a i m) = det n a := by
    rw [← ih]
    refine det_congr n _ _ fun i _ j _ => ?_
    unfold setc part
    by_cases h1 : j = m
    ·subst h1; rw [if_pos rfl, if_neg (by omega)]
    ·rw [if_neg h1]
   have e3 : det n (setc (part a k m) m fun i => a i k) = 0 := det_like (c := m) (d := k) (by omega) hk e (setc_lt (part_lt ha k m) fun i => ha i k) fun i _ => by
    rw [setc_at, setc_ne (fun q => e q.symm)]
    exact (if_neg (by omega)).symm
   rw [e1, det_add n (part a k m) m (fun i => a i m) (fun i => gmul (coef a k m) ((fun i => a i k) i)) (by omega) (part_lt ha k m) (fun i => ha i m) (fun i => gmul_lt _ _), det_mul n (part a k m) m (coef a k m) (fun i => a i k) (by omega) (gmul_lt _ _), e2, e3, gmul_zero_right, Nat.xor_zero]
theorem det_swept {n k : Nat} {a : Nat → Nat → Nat} (ha : ∀ i j, a i j < 256) (hk : k < n + 1) (hp : a 0 k ≠ 0) : det (n + 1) a = gmul (a 0 k) (det n (minor (swept a k) k)) := by
 rw [← det_part ha hk (n + 1) (Nat.le_refl _)]
 show xsum (n + 1) (fun k' => gmul (part a k (n + 1) 0 k') (det n (minor (part a k (n + 1)) k'))) = _
 rw [xsum_one (n + 1) _ k hk]
 ·have e : part a k (n + 1) 0 k = a 0 k := if_neg (by omega)
  rw [e, det_congr n (minor (part a k (n + 1)) k) (minor (swept a k) k) fun i _ j hj => if_pos ⟨skip_ne k j, skip_lt hj⟩]
 ·intro j hj hne
  have e : part a k (n + 1) 0 j = 0 := by
   unfold part
   rw [if_pos ⟨hne, hj⟩]
   exact swept_top ha hp j
  rw [e, gmul_zero_left]
theorem ker_tail {m n : Nat} {a : Nat → Nat → Nat} (h0 : ∀ k, k < n → a 0 k = 0) (h : Ker m n fun i => a (i + 1)) : Ker (m + 1) n a := by
 obtain ⟨z, hz, hne, h1⟩ := h
 refine ⟨z, hz, hne, fun i hi => ?_⟩
 cases i with
 | zero => exact xsum_zero n _ fun j hj => by rw [h0 j hj, gmul_zero_right]
 | succ i => exact h1 i (by omega)
theorem ker_wide : ∀ m n (a : Nat → Nat → Nat), (∀ i j, a i j < 256) → m < n → Ker m n a
 | 0, n, a, ha, h => ⟨fun _ => 1, fun _ => by show (1 : Nat) < 256; omega, ⟨0, h, by decide⟩, fun i hi => absurd hi (by omega)⟩
 | m + 1, 0, a, ha, h => absurd h (by omega)
 | m + 1, n + 1, a, ha, h => by
  by_cases hp : ∃ k, k < n + 1 ∧ a 0 k ≠ 0
  ·obtain ⟨k, hk, hp⟩ := hp
   exact ker_swept ha hk hp (ker_wide m n _ (minor_lt (swept_lt ha k) k) (by omega))
  ·refine ker_tail (fun k hk => ?_) (ker_wide m (n + 1) _ (fun i j => ha (i + 1) j) (by omega))
   by_cases h1 : a 0 k = 0
   ·exact h1
   ·exact absurd ⟨k, hk, h1⟩ hp
theorem ker_of_det : ∀ n (a : Nat → Nat → Nat), (∀ i j, a i j < 256) → det n a = 0 → Ker n n a
 | 0, a, ha, h => absurd (show (1 : Nat) = 0 from h) (by decide)
 | n + 1, a, ha, h => by
  by_cases hp : ∃ k, k < n + 1 ∧ a 0 k ≠ 0
  ·obtain ⟨k, hk, hp⟩ := hp
   rw [det_swept ha hk hp] at h
   exact ker_swept ha hk hp (ker_of_det n _ (minor_lt (swept_lt ha k) k) (gmul_eq_zero h hp))
  ·refine ker_tail (fun k hk => ?_) (ker_wide n (n + 1) _ (fun i j => ha (i + 1) j) (by omega))
   by_cases h1 : a 0 k = 0
   ·exact h1
   ·exact absurd ⟨k, hk, h1⟩ hp
end Go.Proofs.YtkbndlnmbbbohaaGreatDoor.M
