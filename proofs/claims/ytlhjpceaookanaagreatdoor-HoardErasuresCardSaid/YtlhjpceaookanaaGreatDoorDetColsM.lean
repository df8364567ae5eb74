/-
  'array.load' by a contract: what cells hold, with nothing for those whose drives are gone. Conditions: the array is one, its power is on, the cells are there.
-/
import Derived.Test.YtlhjpceaookanaaGreatDoorArrCat
import Derived.Test.YtlhjpceaookanaaGreatDoorFieldMatM
import Derived.Test.YtlhjpceaookanaaGreatDoorParGrowM
import Derived.Test.YtlhjpceaookanaaGreatDoorArrCallsM
namespace Go.Proofs.YtlhjpceaookanaaGreatDoor
open Go Go.RowKit refRack
set_option maxRecDepth 100000
set_option linter.unusedVariables false
namespace Arr
/-- heads in a block of their own -/
def hdsA (n : Nat) (H : Nat → Hd) : Array Value := Array.ofFn (n := n) fun j => hdV (H j.val)
theorem hdsA_get {n : Nat} {H : Nat → Hd} {j : Nat} (h : j < n) : (hdsA n H)[j]? = some (hdV (H j)) := by simp [hdsA, h]
theorem hdsA_set {n : Nat} {H : Nat → Hd} {i : Nat} {a : Hd} (h : i < n) : (hdsA n H).setIfInBounds i (hdV a) = hdsA n (fun j => if j = i then a else H j) := by
  have hs : ∀ H, (hdsA n H).size = n := fun H => by simp [hdsA]
  apply Array.ext_getElem?
  intro j
  rw [Array.getElem?_setIfInBounds, hs]
  by_cases hj : j < n
  · rw [hdsA_get hj, hdsA_get hj]
    by_cases e : i = j
    · subst e; rw [if_pos rfl, if_pos h, if_pos rfl]
    · rw [if_neg e, if_neg (fun q => e q.symm)]
  · rw [if_neg (by omega), Array.getElem?_eq_none (by rw [hs]; omega), Array.getElem?_eq_none (by rw [hs]; omega)]
theorem hdsA_none (n m : Nat) (R : Nat → Nat) : hdP n m 0 R = hdsA n (fun _ => (none, 0, 0)) := by
  apply Array.ext_getElem?
  intro j
  by_cases hj : j < n
  · rw [hdP_get hj, hdsA_get hj, if_neg (Nat.not_lt_zero _)]
    rfl
  · rw [Array.getElem?_eq_none (by simp [hdP]; omega), Array.getElem?_eq_none (by simp [hdsA]; omega)]
/-- bytes of the call's own, as a head -/
theorem owns_head {w : World} {B n c : Nat} {e : TypeId} {v : Value} {xs : List Value} (h : w.ownsRow B e c v n xs) : ∃ H : Hd, v = hdV H ∧ H.2.1 = n := by
  rcases h.2 with ⟨rfl, e2⟩ | ⟨g, cap, cur, rfl, _⟩
  · exact ⟨(none, 0, 0), rfl, e2.symm⟩
  · exact ⟨(some ⟨g, 0, none⟩, n, cap), rfl, rfl⟩
theorem owns_keepK {B base n : Nat} {w w' : World} {v : Value} {xs : List Value} (h : w.ownsRow base 5 1 v n xs) (hk : Keep B w w') : w'.ownsRow base 5 1 v n xs := by
  refine ⟨h.1, ?_⟩
  rcases h.2 with e | ⟨g, cap, cur, e, h1, h2, h3⟩
  · exact .inl e
  · exact .inr ⟨g, cap, cur, e, h1, hk.kept g _ h2 rfl, h3⟩
theorem owns_far {base n g : Nat} {w : World} {v u : Value} {xs : List Value} {cs : Array Value} {p : Addr} (h : w.ownsRow base 5 1 v n xs) (hg : Blk w g 36 cs) (hp : p.block = g) : (w.setCell p u).ownsRow base 5 1 v n xs := by
  refine ⟨h.1, ?_⟩
  rcases h.2 with e | ⟨g', cap, cur, e, h1, h2, h3⟩
  · exact .inl e
  · refine .inr ⟨g', cap, cur, e, h1, (Below.heap_setCell w p u g' ?_).trans h2, h3⟩
    rw [hp]
    rintro rfl
    exact Blk.ne_ (t := 5) (t' := 36) h2 hg (by decide) rfl
theorem owns_rdb {w : World} {base n : Nat} {H : Hd} {X : Nat → Nat} (h : w.ownsRow base 5 1 (hdV H) n (rowL n X)) (hX : ∀ j, j < n → X j < 256) : RdB w w.heap.size H.1 n X ∧ H.2.1 = n ∧ (H.1 = none → H.2.2 = 0) ∧ n ≤ H.2.2 ∧ H.2.2 ≤ maxLen := by
  obtain ⟨A, m, c⟩ := H
  rcases h.2 with ⟨e, e2⟩ | ⟨g, cap, cur, e, h1, h2, h3, h4, h5, h6⟩
  · injection e with q1 q2 q3
    subst q1 q2 q3 e2
    exact ⟨fun j hj => absurd hj (by omega), rfl, fun _ => rfl, Nat.le_refl _, by simp [maxLen]⟩
  · injection e with q1 q2 q3
    subst q1 q2 q3
    refine ⟨fun j hj => ⟨g, 0, rfl, (Array.getElem?_eq_some_iff.1 h2).1, ?_, hX j hj⟩, rfl, (fun e => by cases e), h3, h4⟩
    rw [Nat.zero_add, cell_of_row w g j cur _ (0, 0) h2]
    rw [Nat.mul_one] at h6
    have h7 := rowL_get X hj
    rw [← h6, List.getElem?_take_of_lt hj, Array.getElem?_toList] at h7
    exact h7
section
variable {B a r f : Nat} {w w' : World} {s s' : RS}
/-- rows that were read: one for each cell -/
structure LoadAt (B : Nat) (w0 w : World) (g n i : Nat) (f ad : Nat) (s : RS) (H : Nat → Hd) : Prop where
  head : Blk w g 36 (hdsA n H)
  row : ∀ j, j < i → w.ownsRow w0.heap.size 5 1 (hdV (H j)) (lenC s (ad + j)) (rowL (lenC s (ad + j)) (holdsC s f (ad + j)))
set_option maxHeartbeats 3200000 in
theorem load_any (w : World) (h : At B w a r f s) (ho : s.off = false) (ad n : Nat) (hn : n ≤ 100) (hc : ad + n ≤ cells s f) :
    Calls Tryz.prog 32 #[.pointer (some ⟨a, 0, none⟩), .int .i64 (ad : Int), .int .i64 (n : Int)] w fun e w' => e = .returned (.tuple #[.slice (some ⟨w.heap.size, 0, none⟩) n n, .int .i64 0]) ∧ (∃ H, LoadAt B w w' w.heap.size n n f ad s H) ∧ RackAt B w' r s ∧ Keep B w w' := by
  have HA := Lib.hid h
  have HO := Lib.hid ho
  have HC : Hid (ad + n ≤ cells s f) := Lib.hid hc
  have hle := cells_le h
  have hmk : ∀ W : World, (Instr.makeSlice 77 (.int .i64 (n : Int)) (.int .i64 (n : Int))).run Tryz.prog W = .ok (.slice (some ⟨W.heap.size, 0, none⟩) n n) (W.alloc (.cells (hdsA n (fun _ => (none, 0, 0))) 36)) := fun W => by
    rw [← hdsA_none n 0 (fun _ => 0)]
    exact make_rows n 0 (fun _ => 0) (by omega) W
  have R0 : Hid (RackAt B (w.alloc (.cells (hdsA n (fun _ => (none, 0, 0))) 36)) r s) := Lib.hid (h.rack.alloc _)
  have K0 : Hid (Keep B w (w.alloc (.cells (hdsA n (fun _ => (none, 0, 0))) 36))) := Lib.hid ((Keep.refl B w).alloc h.rack.le _)
  have L0 : Hid (LoadAt B w (w.alloc (.cells (hdsA n (fun _ => (none, 0, 0))) 36)) w.heap.size n 0 f ad s (fun _ => (none, 0, 0))) := Lib.hid ⟨Blk.new _ _ _, fun j hj => absurd hj (by omega)⟩
  have HBZ := Lib.hid h.rack.le
  have hdn : ad + n ≤ 32000 := by omega
  clear h ho hc hle
  go_enter Tryz.func32, Tryz.ntmps32
  go_wp2_with fail
  clear hmk
  generalize hz : w.heap.size = z at *
  have HZ := Lib.hid hz
  clear hz
  go_loopw [16] (fun y wr => ∃ (i : Nat) (H : Nat → Hd), i ≤ n ∧ y = .int .i64 (i : Int) ∧ Hid (LoadAt B w wr z n i f ad s H) ∧ Hid (RackAt B wr r s) ∧ Hid (Keep B w wr)) (fun y _ => n - (intOf y).toNat)
  case atStart => exact ⟨0, _, Nat.zero_le _, rfl, L0, R0, K0⟩
  case round =>
    clear L0 R0 K0
    obtain ⟨i, H, hi, rfl, HL, HR, HK⟩ := hrel
    by_cases hlt : i < n
    · have HAr : Hid (At B wr a r f s) := Lib.hid (HA.out.rack_ HR.out HK.out rfl rfl)
      have HRD := Lib.hid (read_any wr HAr.out HO.out (ad + i) (by have := HC.out; omega))
      go_wp2_with fail
      refine HRD.out.mono ?_
      rintro e w3 ⟨⟨v3, rfl, hv3⟩, h3, k3⟩
      obtain ⟨H3, rfl, hH3⟩ := owns_head hv3
      have V3 := Lib.hid (own_base hv3 (B' := z) (by have := HK.out.below.size; have := HL.out.head.lt; omega))
      have R3 := Lib.hid h3
      have K3 := Lib.hid (HK.out.trans k3)
      have HD3 := Lib.hid (k3.block HL.out.head rfl)
      have L3 : Hid (∀ j, j < i → w3.ownsRow w.heap.size 5 1 (hdV (H j)) (lenC s (ad + j)) (rowL (lenC s (ad + j)) (holdsC s f (ad + j)))) := Lib.hid fun j hj => owns_keepK (HL.out.row j hj) k3
      have p1 : w3.cell? ⟨z, i, none⟩ = some (hdV (H i)) := by rw [HD3.out.cell, hdsA_get hlt]
      have p2 : w3.frozen? ⟨z, i, none⟩ = false := HD3.out.frozen i
      obtain ⟨A3, n3, c3⟩ := H3
      have p1 : ∃ u, w3.cell? ⟨z, i, none⟩ = some u := ⟨_, p1⟩
      obtain ⟨u3, p1⟩ := p1
      have LN : Hid (LoadAt B w (w3.setCell ⟨z, i, none⟩ (.slice A3 n3 c3)) z n (i + 1) f ad s (fun j => if j = i then (A3, n3, c3) else H j)) := Lib.hid ⟨by
          have h := HD3.out.set_ i (hdV (A3, n3, c3))
          rw [hdsA_set hlt] at h
          exact h, fun j hj => by
          by_cases e : j = i
          · subst e
            rw [if_pos rfl, HZ.out]
            exact owns_far V3.out HD3.out rfl
          · rw [if_neg e]
            exact owns_far (L3.out j (by omega)) HD3.out rfl⟩
      have RN : Hid (RackAt B (w3.setCell ⟨z, i, none⟩ (.slice A3 n3 c3)) r s) := Lib.hid (R3.out.far HD3.out rfl rfl)
      have KN : Hid (Keep B w (w3.setCell ⟨z, i, none⟩ (.slice A3 n3 c3))) := Lib.hid ⟨K3.out.below.setCell (p := ⟨z, i, none⟩) HBZ.out _, fun k o h1 h2 => by
          refine (Below.heap_setCell w3 ⟨z, i, none⟩ _ k ?_).trans (K3.out.kept k o h1 h2)
          have := (Array.getElem?_eq_some_iff.1 h1).1
          have hz := HZ.out
          show k ≠ z
          omega⟩
      clear hv3 h3 k3 V3 L3 hH3
      have hdv : hdV (A3, n3, c3) = .slice A3 n3 c3 := rfl
      rw [hdv]
      unfold errC
      cases hg : goneC s (ad + i) with
      | true =>
        clear hg
        go_wp2_with fail
        go_roundw
        case rel => exact ⟨i + 1, _, by omega, by go_num, LN, RN, KN⟩
        case measure => simp [intOf]; omega
      | false =>
        clear hg
        go_wp2_with fail
        go_roundw
        case rel => exact ⟨i + 1, _, by omega, by go_num, LN, RN, KN⟩
        case measure => simp [intOf]; omega
    · obtain rfl : i = n := by omega
      go_wp2_with fail
      go_ret2
      rw [HZ.out]
      exact ⟨rfl, ⟨H, HL.out⟩, HR.out, HK.out⟩
end
end Arr
end Go.Proofs.YtlhjpceaookanaaGreatDoor
namespace Go.Proofs.YtlhjpceaookanaaGreatDoor.D
open Go Go.RowKit
set_option maxRecDepth 100000
set_option linter.unusedVariables false

theorem exec_build0 {P : Program} {w w' : World} {o : Oper} {a : Act} {ty : TypeId} {v : Value} (ho : o.op = .buildSlice ty 0 #[]) (hl : (Instr.buildSlice ty 0 #[]).run P w = .ok v w') : (execOp a.eval o).run P w = .ok (.value v) w' := by
  unfold execOp
  simp only [ho, List.map_toArray, List.map_nil, hl, Sem.run_bind, Sem.run_pure, Result.andThen_ok]
theorem bs_rows1 (A : Option Addr) (n c : Nat) (w : World) : (Instr.buildSlice 77 1 #[(0, .slice A n c)]).run Tryz.prog w = .ok (.slice (some ⟨w.heap.size, 0, none⟩) 1 1) (w.alloc (.cells #[.slice A n c] 36)) := by kernel_rfl
theorem wp_append_hd {w : World} {o : Oper} {a : Act} {K : Act → World → Prop} {Q : Exit → Act → World → Prop} (s x : Operand)
    (ho : o.op = .call { callee := .builtin .append, args := #[s, x], argTypes := #[77, 77] }) {base n B m c : Nat} {v : Value} {A : Option Addr} {X Y : Nat → Hd} (hs : a.eval s = v) (hx : a.eval x = .slice A m c)
    (hown : OwnS w base v n X) (hy : RdH w B A m Y) (h0 : A = none → c = 0) (hmc : m ≤ c) (hl : n + m ≤ 100000) (hb : base ≤ w.heap.size)
    (h : ∀ v' w', OwnS w' base v' (n + m) (catS n X Y) → w.grownBy w' v.ownBlock → K (a.put o.dst v') w') : o.wp Tryz.prog a w K Q := by
  obtain ⟨v', w', hrun, h1, h2, h3⟩ := run_append_hd o.type hown hy h0 hmc hl hb
  unfold Oper.wp execOp
  simp only [ho, resolve, invoke, builtin, Sem.run_bind, Sem.run_pure, Result.andThen_ok, List.map_toArray, List.map_cons, List.map_nil, hs, hx, hrun]
  exact h v' w' h1 h2
theorem own_rowS {a w w' : World} {base n : Nat} {v : Value} {X : Nat → Hd} (h : Below base a w) (ho : OwnS w base v n X) (hg : w.grownBy w' v.ownBlock) (hs : base ≤ w.heap.size) : Below base a w' :=
  ⟨hg.os.trans h.os, hg.tape.trans h.tape, hg.output.trans h.output, Nat.le_trans h.size hg.size, fun i hi => (hg.block i (by omega) (fun e => by have := (ho.lt e.symm).2; omega)).trans (h.block i hi)⟩
theorem index_rows0 (b o n c : Nat) (h : 0 < n) (w : World) : (Instr.indexAt 77 (.slice (some ⟨b, o, none⟩) n c) (.int .i64 0)).run Tryz.prog w = .ok (.pointer (some ⟨b, o, none⟩)) w :=
  index_slice (P := Tryz.prog) (t := 77) (e := 36) Tryz.underlying77 (by kernel_rfl) b o n c 0 h w
theorem wp_append_rd8 {w : World} {o : Oper} {a : Act} {K : Act → World → Prop} {Q : Exit → Act → World → Prop} (s x : Operand)
    (ho : o.op = .call { callee := .builtin .append, args := #[s, x], argTypes := #[36, 36] }) {base n B m c : Nat} {v : Value} {A : Option Addr} {X Y : Nat → Nat} (hs : a.eval s = v) (hx : a.eval x = .slice A m c)
    (hown : Own8 w base v n X) (hy : RdB w B A m Y) (h0 : A = none → c = 0) (hmc : m ≤ c) (hl : n + m ≤ 70368744177664) (hb : base ≤ w.heap.size)
    (h : ∀ v' w', Own8 w' base v' (n + m) (cat n X Y) → w.grownBy w' v.ownBlock → (v'.ownBlock = v.ownBlock ∨ v'.ownBlock = some w.heap.size) → K (a.put o.dst v') w') : o.wp Tryz.prog a w K Q := by
  obtain ⟨v', w', hrun, h1, h2, h3⟩ := run_append_rd o.type hown hy h0 hmc hl hb
  unfold Oper.wp execOp
  simp only [ho, resolve, invoke, builtin, Sem.run_bind, Sem.run_pure, Result.andThen_ok, List.map_toArray, List.map_cons, List.map_nil, hs, hx, hrun]
  exact h v' w' h1 h2 h3
theorem bs_one8 (u : Int) (w : World) : (Instr.buildSlice 36 1 #[(0, .int .u8 u)]).run Tryz.prog w = .ok (.slice (some ⟨w.heap.size, 0, none⟩) 1 1) (w.alloc (.cells #[.int .u8 u] 5)) := by kernel_rfl
theorem rdb_one8 (w : World) (u : Nat) (hu : u < 256) : RdB (w.alloc (.cells #[.int .u8 ((u : Nat) : Int)] 5)) (w.heap.size + 1) (some ⟨w.heap.size, 0, none⟩) 1 (fun _ => u) := fun i hi => by
  obtain rfl : i = 0 := by omega
  refine ⟨w.heap.size, 0, rfl, by omega, ?_, hu⟩
  rw [Nat.zero_add, (Blk.new w _ _).cell]
  rfl
theorem add_int (a b : Nat) (h : a + b ≤ 9223372036854775807) (w : World) : (binOp .add 3 (.int .i64 (a : Int)) (.int .i64 (b : Int))).run Tryz.prog w = .ok (.int .i64 ((a + b : Nat) : Int)) w := by
  have e : IntKind.i64.wrap ((a : Int) + (b : Int)) = ((a + b : Nat) : Int) := by rw [IntKind.wrap_i64]; omega
  have h : (binOp .add 3 (.int .i64 (a : Int)) (.int .i64 (b : Int))).run Tryz.prog w = .ok (.int .i64 (IntKind.i64.wrap ((a : Int) + (b : Int)))) w := by kernel_rfl
  rw [h, e]
theorem index_rows (b o n c i : Nat) (h : i < n) (w : World) : (Instr.indexAt 77 (.slice (some ⟨b, o, none⟩) n c) (.int .i64 (i : Int))).run Tryz.prog w = .ok (.pointer (some ⟨b, o + i, none⟩)) w :=
  index_slice (P := Tryz.prog) (t := 77) (e := 36) Tryz.underlying77 (by kernel_rfl) b o n c i h w
theorem index_rows_zero (b n c i : Nat) (h : i < n) (w : World) : (Instr.indexAt 77 (.slice (some ⟨b, 0, none⟩) n c) (.int .i64 (i : Int))).run Tryz.prog w = .ok (.pointer (some ⟨b, i, none⟩)) w := by
  have h := index_rows b 0 n c i h w
  rw [Nat.zero_add] at h
  exact h
theorem index_bytes (b o n c i : Nat) (h : i < n) (w : World) : (Instr.indexAt 36 (.slice (some ⟨b, o, none⟩) n c) (.int .i64 (i : Int))).run Tryz.prog w = .ok (.pointer (some ⟨b, o + i, none⟩)) w :=
  index_slice (P := Tryz.prog) (t := 36) (e := 5) Tryz.underlying36 size_u8 b o n c i h w
theorem rdR_head {w : World} {B n i b o : Nat} {ra : Nat → Option Addr} {rl rc : Nat → Nat} {x : Nat → Nat → Nat} (h : RdR w B (some ⟨b, o, none⟩) n ra rl rc x) (hi : i < n) : b < B ∧ w.cell? ⟨b, o + i, none⟩ = some (.slice (ra i) (rl i) (rc i)) ∧ RdB w B (ra i) (rl i) (x i) := by
  obtain ⟨b', o', q, h1, h2, h3⟩ := h i hi
  injection q with q
  injection q with q1 q2
  subst q1; subst q2
  exact ⟨h1, h2, h3⟩
theorem ownS_neG {w : World} {base n m g : Nat} {v : Value} {X : Nat → Hd} {x : Nat → Nat} (h : OwnS w base v n X) (hb : RowG w g m x) : some g ≠ v.ownBlock := fun e => by
  rcases h with ⟨rfl, _⟩ | ⟨g', cap, cur, fr, rfl, _, hg, _⟩
  · cases e
  · simp [Value.ownBlock] at e
    subst e
    obtain ⟨cs, fr2, hb, _⟩ := hb
    rw [hb] at hg
    injection hg with hg
    injection hg with _ hg _
    exact absurd hg (by decide)
theorem rdh_one (w : World) (A : Option Addr) (n c : Nat) : RdH (w.alloc (.cells #[.slice A n c] 36)) (w.heap.size + 1) (some ⟨w.heap.size, 0, none⟩) 1 (fun _ => (A, n, c)) := fun i hi => by
  obtain rfl : i = 0 := by omega
  refine ⟨w.heap.size, 0, rfl, by omega, ?_⟩
  rw [Nat.zero_add, (Blk.new w _ _).cell]
  rfl
theorem own_empty {w : World} {base : Nat} (hb : base ≤ w.heap.size) : Own8 (w.alloc (.cells #[] 5)) base (.slice (some ⟨w.heap.size, 0, none⟩) 0 0) 0 (fun _ => 0) :=
  .inr ⟨w.heap.size, 0, #[], (0, 0), rfl, hb, Blk.new w _ _, .inl (Nat.le_refl _), Nat.le_refl _, by simp [maxLen], rfl, fun j hj => absurd hj (by omega)⟩

theorem own_grown8 {w0 w w' : World} {base n : Nat} {v : Value} {X : Nat → Nat} (hb : Below base w0 w) (ho : Own8 w base v n X) (hg : w.grownBy w' v.ownBlock) (hs : base ≤ w.heap.size) : Below base w0 w' :=
  hb.trans ⟨hg.os, hg.tape, hg.output, hg.size, fun k hk => hg.block k (by omega) (fun e => by have := (ho.lt e.symm).2; omega)⟩

/-- i heads, each of a row of n bytes that stands alone -/
structure Cols (w : World) (base : Nat) (v : Value) (i n : Nat) (H : Nat → Hd) (R : Nat → Nat) (x : Nat → Nat → Nat) : Prop where
  own : OwnS w base v i H
  hd : ∀ j, j < i → ∃ c, H j = (some ⟨R j, 0, none⟩, n, c) ∧ n ≤ c ∧ c ≤ maxLen
  row : ∀ j, j < i → base ≤ R j ∧ RowG w (R j) n (x j)
  apart : ∀ j k, j < k → k < i → R j ≠ R k
theorem Cols.none_ (w : World) (base n : Nat) (H : Nat → Hd) (R : Nat → Nat) (x : Nat → Nat → Nat) : Cols w base (.slice none 0 0) 0 n H R x :=
  ⟨OwnS.nil _ _ _, fun j hj => absurd hj (by omega), fun j hj => absurd hj (by omega), fun j k _ hk => absurd hk (by omega)⟩
section
variable {w w' : World} {base i n : Nat} {v : Value} {H : Nat → Hd} {R : Nat → Nat} {x : Nat → Nat → Nat}
theorem Cols.below (h : Cols w base v i n H R x) {B : Nat} (hb : Below B w w') (hB : w.heap.size ≤ B) : Cols w' base v i n H R x :=
  ⟨h.own.below hb hB, h.hd, fun j hj => ⟨(h.row j hj).1, (h.row j hj).2.below hb (Nat.lt_of_lt_of_le (h.row j hj).2.lt hB)⟩, h.apart⟩
/-- one row more -/
theorem Cols.push {w2 : World} {v' : Value} {g c : Nat} {X : Nat → Nat} (h : Cols w base v i n H R x) (ho : OwnS w2 base v' (i + 1) (catS i H (fun _ => (some ⟨g, 0, none⟩, n, c)))) (hg : w.grownBy w2 v.ownBlock) (hr : RowG w g n X) (hb : base ≤ g) (hc : n ≤ c ∧ c ≤ maxLen) (hne : ∀ j, j < i → R j ≠ g) (hx : ∀ v, v < n → X v = x i v) :
    Cols w2 base v' (i + 1) n (catS i H (fun _ => (some ⟨g, 0, none⟩, n, c))) (fun j => if j = i then g else R j) x := by
  have q1 : ∀ j, j < i → (if j = i then g else R j) = R j := fun j hj => if_neg (by omega)
  have q2 : (if i = i then g else R i) = g := if_pos rfl
  refine ⟨ho, fun j hj => ?_, fun j hj => ?_, fun j k hjk hk => ?_⟩
  · unfold catS
    by_cases e : j < i
    · have e1 := q1 j e
      rw [if_pos e, e1]
      exact h.hd j e
    · obtain rfl : j = i := by omega
      rw [if_neg e, q2]
      exact ⟨c, rfl, hc⟩
  · by_cases e : j < i
    · obtain ⟨h1, h2⟩ := h.row j e
      have e1 := q1 j e
      rw [e1]
      exact ⟨h1, h2.heap (hg.block _ h2.lt (ownS_neG h.own h2))⟩
    · obtain rfl : j = i := by omega
      rw [q2]
      exact ⟨hb, (hr.heap (hg.block _ hr.lt (ownS_neG h.own hr))).congr hx⟩
  · by_cases e : k < i
    · have e1 := q1 j (by omega)
      have e2 := q1 k e
      rw [e1, e2]
      exact h.apart j k hjk e
    · obtain rfl : k = i := by omega
      have e1 := q1 j (by omega)
      rw [e1, q2]
      exact hne j (by omega)
theorem Cols.rdr (h : Cols w base v i n H R x) (hx : ∀ j, j < i → ∀ v, v < n → x j v < 256) : ∃ A c, v = .slice A i c ∧ i ≤ c ∧ c ≤ maxLen ∧ RdR w w.heap.size A i (fun j => (H j).1) (fun j => (H j).2.1) (fun j => (H j).2.2) x := by
  obtain ⟨A, c, rfl, h1, h2, h3, _⟩ := h.own.shape
  refine ⟨A, c, rfl, h2, h3, fun j hj => ?_⟩
  obtain ⟨b, o, q1, q2, q3⟩ := h1 j hj
  obtain ⟨cj, e, _⟩ := h.hd j hj
  obtain ⟨_, hr⟩ := h.row j hj
  refine ⟨b, o, q1, q2, q3, ?_⟩
  show RdB w w.heap.size (H j).1 (H j).2.1 (x j)
  rw [e]
  exact hr.rdb (fun v hv => hx j hj v hv) hr.lt
theorem Cols.len (h : Cols w base v i n H R x) {j : Nat} (hj : j < i) : (H j).2.1 = n := by
  obtain ⟨c, e, _⟩ := h.hd j hj
  rw [e]
end
theorem bs_bytes0 (w : World) : (Instr.buildSlice 36 0 #[]).run Tryz.prog w = .ok (.slice (some ⟨w.heap.size, 0, none⟩) 0 0) (w.alloc (.cells #[] 5)) := by kernel_rfl
theorem slice_headB (b o n c N : Nat) (h1 : N ≤ c) (W : World) : (Instr.sliceAt 36 (.slice (some ⟨b, o, none⟩) n c) none (some (.int .i64 (N : Int))) none).run Tryz.prog W = .ok (.slice (some ⟨b, o, none⟩) N c) W := by
  have hu : Tryz.prog.underlying 36 = some (.slice (Tryz.prog.elem 36)) := by kernel_rfl
  have he : Tryz.prog.elem 36 = 5 := by kernel_rfl
  have hs : (sizeOf 5).run Tryz.prog W = .ok 1 W := by kernel_rfl
  rw [run_sliceAt_slice (P := Tryz.prog) (w := W) (h := hu), run_slice_h (P := Tryz.prog) (w := W) 36 (some ⟨b, o, none⟩) n c hu .i64 (N : Int) (by omega) (by omega), he, hs]
  simp [sliced, Addr.add, Result.andThen]
theorem xor_u8 (w : World) (a b : Nat) (ha : a < 256) (hb : b < 256) : (binOp .xor 5 (.int .u8 (a : Int)) (.int .u8 (b : Int))).run Tryz.prog w = .ok (.int .u8 ((a ^^^ b : Nat) : Int)) w := by
  have h := u8_xor_nat a b ha hb
  have h2 : (binOp .xor 5 (.int .u8 (a : Int)) (.int .u8 (b : Int))).run Tryz.prog w = .ok (.int .u8 (bits .xor .u8 (a : Int) (b : Int))) w := by kernel_rfl
  rw [h2, h]
theorem subA_some (b o c lo : Nat) : ∃ o2, subA (some ⟨b, o, none⟩) c lo = some ⟨b, o2, none⟩ := by
  unfold subA
  split
  · exact ⟨o, rfl⟩
  · exact ⟨o + lo, by simp [add_plain]⟩
end Go.Proofs.YtlhjpceaookanaaGreatDoor.D
