/-
 The call's own row of rows of bytes (made of XOwn8 by mkowns.py): what it holds, what 'append' makes of it. No conditions beyond those that each theorem types.
-/
import Derived.Test.YtkbndlnmbbbohaaGreatDoorParAddM
import Derived.Test.YtkbndlnmbbbohaaGreatDoorLawStrM
import Derived.Test.YtkbndlnmbbbohaaGreatDoorParKnownM
import Derived.Test.YtkbndlnmbbbohaaGreatDoorArrCallsM
import Derived.IntWalk
namespace Go.Proofs.YtkbndlnmbbbohaaGreatDoor
open Go Go.RowKit Go.Lib
set_option maxRecDepth 100000
set_option linter.unusedVariables false
abbrev Hd := Option Addr × Nat × Nat
def hdV (h : Hd) : Value := .slice h.1 h.2.1 h.2.2
def RdH (w : World) (B : Nat) (A : Option Addr) (n : Nat) (X : Nat → Hd) : Prop := ∀ i, i < n → ∃ b o, A = some ⟨b, o, none⟩ ∧ b < B ∧ w.cell? ⟨b, o + i, none⟩ = some (hdV (X i))
theorem infoS : (Tryz.prog.info? 41).map (fun i => (i.zero, i.size, i.bytes)) = some (some (.slice none 0 0), 1, 24) := by kernel_rfl
theorem sizeOf_bytes (w : World) : (sizeOf 41).run Tryz.prog w = .ok 1 w := by
 obtain ⟨i0, hi, hz0, hz1, hz2⟩ := info_parts infoS
 simp [sizeOf, typeInfo, hi, hz1]
def headsL (n : Nat) (X : Nat → Hd) : List Value := (List.range n).map fun j => hdV (X j)
theorem headsL_length (n : Nat) (X : Nat → Hd) : (headsL n X).length = n := by simp [headsL]
theorem headsL_get {n j : Nat} (X : Nat → Hd) (h : j < n) : (headsL n X)[j]? = some (hdV (X j)) := by simp [headsL, h]
theorem headsL_mem {n : Nat} {X : Nat → Hd} : ∀ u ∈ headsL n X, u.oneCell' = true := fun u hu => by
 simp only [headsL, List.mem_map] at hu
 obtain ⟨j, _, rfl⟩ := hu
 rfl
def catS (n : Nat) (X Y : Nat → Hd) (j : Nat) : Hd := if j < n then X j else Y (j - n)
theorem headsL_cat (n m : Nat) (X Y : Nat → Hd) : headsL n X ++ headsL m Y = headsL (n + m) (catS n X Y) := by
 apply List.ext_getElem?
 intro j
 by_cases h : j < n
 ·rw [List.getElem?_append_left (by rw [headsL_length]; exact h), headsL_get X h, headsL_get _ (by omega)]
  unfold catS
  rw [if_pos h]
 ·rw [List.getElem?_append_right (by rw [headsL_length]; omega), headsL_length]
  by_cases h2 : j < n + m
  ·rw [headsL_get Y (by omega), headsL_get _ h2]
   unfold catS
   rw [if_neg h]
  ·rw [List.getElem?_eq_none (by rw [headsL_length]; omega), List.getElem?_eq_none (by rw [headsL_length]; omega)]
def OwnS (w : World) (base : Nat) (v : Value) (n : Nat) (X : Nat → Hd) : Prop :=
 (v = .slice none 0 0 ∧ n = 0) ∨ ∃ g cap cur fr, v = .slice (some ⟨g, 0, none⟩) n cap ∧ base ≤ g ∧ w.heap[g]? = some (.cells cur 41 fr) ∧ freeTail fr cap ∧ n ≤ cap ∧ cap ≤ maxLen ∧ cur.size = cap ∧ ∀ j, j < n → cur[j]? = some (hdV (X j))
theorem OwnS.nil (w : World) (base : Nat) (X : Nat → Hd) : OwnS w base (.slice none 0 0) 0 X := .inl ⟨rfl, rfl⟩
theorem OwnS.shape {w : World} {base n : Nat} {v : Value} {X : Nat → Hd} (h : OwnS w base v n X) :
  ∃ A c, v = .slice A n c ∧ RdH w w.heap.size A n X ∧ n ≤ c ∧ c ≤ maxLen ∧ (∀ g o, A = some ⟨g, o, none⟩ → base ≤ g) ∧ (A = none → c = 0) := by
 rcases h with ⟨rfl, rfl⟩ | ⟨g, cap, cur, fr, rfl, hg, hb, h0, h1, h2, h3, h4⟩
 ·exact ⟨none, 0, rfl, fun j hj => absurd hj (by omega), by omega, by simp [maxLen], fun g o e => (by cases e), fun _ => rfl⟩
 ·exact ⟨_, _, rfl, fun j hj => ⟨g, 0, rfl, lt_of_heap hb, by rw [Nat.zero_add, cell_of_row _ _ _ _ _ _ hb]; exact h4 j hj⟩, h1, h2, fun g' o e => by injection e with e; injection e with e _; omega, fun e => (by cases e)⟩
theorem OwnS.keep {w w' : World} {base n : Nat} {v : Value} {X : Nat → Hd} (h : OwnS w base v n X) (hk : ∀ g, v.ownBlock = some g → w'.heap[g]? = w.heap[g]?) : OwnS w' base v n X := by
 rcases h with h | ⟨g, cap, cur, fr, rfl, hg, hb, h3⟩
 ·exact .inl h
 ·exact .inr ⟨g, cap, cur, fr, rfl, hg, (hk g rfl).trans hb, h3⟩
theorem OwnS.lt {w : World} {base n g : Nat} {v : Value} {X : Nat → Hd} (h : OwnS w base v n X) (hg : v.ownBlock = some g) : g < w.heap.size ∧ base ≤ g := by
 rcases h with ⟨rfl, _⟩ | ⟨g', cap, cur, fr, rfl, hb, hblk, _⟩
 ·simp [Value.ownBlock] at hg
 ·simp [Value.ownBlock] at hg
  subst hg
  exact ⟨lt_of_heap hblk, hb⟩
theorem OwnS.below {w w' : World} {base n B : Nat} {v : Value} {X : Nat → Hd} (h : OwnS w base v n X) (hk : Below B w w') (hB : w.heap.size ≤ B) : OwnS w' base v n X :=
 h.keep fun g hg => hk.block g (by have := (h.lt hg).1; omega)
theorem OwnS.base {w : World} {base base' n : Nat} {v : Value} {X : Nat → Hd} (h : OwnS w base v n X) (hb : base' ≤ base) : OwnS w base' v n X := by
 rcases h with h | ⟨g, cap, cur, fr, rfl, hg, h3⟩
 ·exact .inl h
 ·exact .inr ⟨g, cap, cur, fr, rfl, Nat.le_trans hb hg, h3⟩
theorem grow_rowS {w : World} {n m cap : Nat} {olds : List Value} {X Y : Nat → Hd} (ho : olds = headsL n X) (hl : n + m ≤ 100000) :
  OwnS (w.drew.alloc (.cells (olds.toArray ++ (headsL m Y).toArray ++ Builtin.zeroCells (Value.slice none 0 0).cells (grownCap w (n + m) cap 41 - (n + m))) 41)) w.heap.size (.slice (some ⟨w.heap.size, 0, none⟩) (n + m) (grownCap w (n + m) cap 41)) (n + m) (catS n X Y) := by
 have hge := grownCap_ge w (n + m) cap 41
 have hcm : grownCap w (n + m) cap 41 ≤ maxLen := grownCap_le_maxLen w (n + m) cap 41 (by simp only [maxLen]; omega)
 refine .inr ⟨w.heap.size, _, _, (0, 0), rfl, Nat.le_refl _, heap_alloc_new w.drew _, .inl (Nat.le_refl _), hge, hcm, ?_, fun j hj => ?_⟩
 ·have hz1 : (Value.slice none 0 0).cells.size = 1 := rfl
  simp only [Array.size_append, List.size_toArray, size_zeroCells, hz1, ho, headsL_length]
  omega
 ·have h1 := headsL_cat n m X Y
  have h2 := headsL_get (catS n X Y) hj
  rw [← h1, ← ho] at h2
  rw [Array.getElem?_append_left (by simp [ho, headsL_length]; omega)]
  simpa using h2
theorem put_rowS {cur cur' : Array Value} {n m : Nat} {X Y : Nat → Hd} (h4 : ∀ j, j < n → cur[j]? = some (hdV (X j))) (e : ∀ j, cur'[j]? = if n + 0 ≤ j ∧ j < n + 0 + (headsL m Y).length then (headsL m Y)[j - (n + 0)]? else cur[j]?) :
  ∀ j, j < n + m → cur'[j]? = some (hdV (catS n X Y j)) := fun j hj => by
 rw [e, headsL_length, Nat.add_zero]
 unfold catS
 by_cases h : j < n
 ·rw [if_neg (by omega), if_pos h]
  exact h4 j h
 ·rw [if_pos ⟨by omega, hj⟩, if_neg h]
  exact headsL_get Y (by omega)
theorem run_append_hd {w : World} {base n B m c : Nat} {v : Value} {A : Option Addr} {X Y : Nat → Hd} (ty : TypeId) (h : OwnS w base v n X) (hy : RdH w B A m Y) (h0 : A = none → c = 0) (hmc : m ≤ c) (hl : n + m ≤ 100000) (hb : base ≤ w.heap.size) :
  ∃ v' w', (Builtin.append_ #[139, 139] ty #[v, .slice A m c]).run Tryz.prog w = .ok v' w' ∧ OwnS w' base v' (n + m) (catS n X Y) ∧ w.grownBy w' v.ownBlock ∧ (v'.ownBlock = v.ownBlock ∨ v'.ownBlock = some w.heap.size) := by
 obtain ⟨i0, hi, hz0, hz1, hz2⟩ := info_parts infoS
 have hsz : ∀ w', (sizeOf 41).run Tryz.prog w' = .ok 1 w' := sizeOf_bytes
 have hne : ∀ m', m = m' + 1 → ∃ ad, A = some ad := fun m' e => by obtain ⟨b, o, e2, _⟩ := hy 0 (by omega); exact ⟨_, e2⟩
 have hnews : ∀ ad, A = some ad → ∀ j u, (headsL m Y)[j]? = some u → w.cell? (ad.add j) = some u := fun ad e j u hj => by
  have hjm : j < m := by have := (List.getElem?_eq_some_iff.1 hj).1; rw [headsL_length] at this; exact this
  rw [headsL_get Y hjm] at hj
  injection hj with hj
  subst hj
  obtain ⟨b, o, h1, h2, h3⟩ := hy j hjm
  rw [e] at h1
  injection h1 with h1
  subst h1
  rw [add_plain]
  exact h3
 have hfc : (Builtin.firstCells 1 m (.slice A m c)).run Tryz.prog w = .ok (headsL m Y).toArray w := by
  cases A with
  | none =>
   have hm : m = 0 := by have := h0 rfl; omega
   subst hm
   exact run_firstCells_none w 1 0 0 c
  | some ad => exact run_firstCells_some (P := Tryz.prog) w 1 m ad m c (headsL m Y) (by rw [headsL_length, Nat.mul_one]) (hnews ad rfl)
 rcases h with ⟨rfl, rfl⟩ | ⟨g, cap, cur, fr, rfl, hg, hblk, hfr, h1, h2, h3, h4⟩
 ·by_cases hm : m = 0
  ·subst hm
   refine ⟨.slice none 0 0, w, ?_, .inl ⟨rfl, rfl⟩, World.grownBy.refl w _, .inl rfl⟩
   simp [Builtin.append_, run_underlying Tryz.underlying139, hsz, Builtin.lenOf, hfc]
  ·obtain ⟨ad, rfl⟩ := hne (m - 1) (by omega)
   have hr := run_append_nil (P := Tryz.prog) w 139 ty 41 i0 (.slice none 0 0) Tryz.underlying139 hi hz0 ad m c (headsL m Y) (by rw [headsL_length, hz1, Nat.mul_one]) (hnews ad rfl) (by omega) (by omega) (by rw [hz2]; omega)
   have hgr := grow_rowS (w := w) (n := 0) (m := m) (cap := 0) (olds := []) (X := X) (Y := Y) rfl (by omega)
   simp only [Nat.zero_add] at hgr hr ⊢
   rw [show (([] : List Value).toArray ++ (headsL m Y).toArray) = (headsL m Y).toArray by simp] at hgr
   exact ⟨_, _, hr, hgr.base hb, ⟨rfl, rfl, rfl, by simp, fun k hk _ => Below.heap_alloc w.drew _ k hk⟩, .inr rfl⟩
 ·by_cases hroom : n + m ≤ cap
  ·obtain ⟨w', cur', e1, e2, e3, e4, e5, e6⟩ := store_run g n 41 fr (headsL m Y) 0 cur w hblk (by rw [h3]; exact hfr) (by rw [headsL_length]; omega) headsL_mem
   refine ⟨.slice (some ⟨g, 0, none⟩) (n + m) cap, w', ?_, .inr ⟨g, cap, cur', fr, rfl, hg, e2, hfr, hroom, h2, by omega, put_rowS h4 e4⟩, e5, .inl rfl⟩
   simp [Builtin.append_, run_underlying Tryz.underlying139, hsz, Builtin.lenOf, hroom, hfc, Addr.add_lit, e1]
  ·obtain ⟨ad, rfl⟩ := hne (m - 1) (by omega)
   have holds : ∀ j u, (headsL n X)[j]? = some u → w.cell? ((⟨g, 0, none⟩ : Addr).add j) = some u := fun j u hj => by
    have hjn : j < n := by have := (List.getElem?_eq_some_iff.1 hj).1; rw [headsL_length] at this; exact this
    rw [headsL_get X hjn] at hj
    injection hj with hj
    subst hj
    rw [add_plain, Nat.zero_add, cell_of_row _ _ _ _ _ _ hblk]
    exact h4 j hjn
   have hr := run_append_grow (P := Tryz.prog) w 139 ty 41 i0 (.slice none 0 0) Tryz.underlying139 hi hz0 ⟨g, 0, none⟩ n cap (headsL n X) (by rw [headsL_length, hz1, Nat.mul_one]) holds ad m c (headsL m Y) (by rw [headsL_length, hz1, Nat.mul_one]) (hnews ad rfl) (by omega) (by omega) (by rw [hz2]; exact growslice_fits (by omega) (by omega))
   exact ⟨_, _, hr, (grow_rowS (w := w) (cap := cap) (Y := Y) rfl hl).base hb, ⟨rfl, rfl, rfl, by simp, fun k hk _ => Below.heap_alloc w.drew _ k hk⟩, .inr rfl⟩
end Go.Proofs.YtkbndlnmbbbohaaGreatDoor
namespace Go.Proofs.YtkbndlnmbbbohaaGreatDoor
open Go Go.RowKit
set_option maxRecDepth 100000
set_option linter.unusedVariables false
section
variable {P : Program} {md : Region.Mode} {ops : Array Oper} {Q : Exit → Act → World → Prop} {S : World → Prop} {z : Nat}
theorem AnyZ.two {i j n : Nat} {listed : Array Bool} {a : Act} {w : World} (hr : Region.ready md ops listed = [i, j])
  (h1 : wpOp P ops Q i (fun a' w' => (i ≠ z → S w') ∧ AnyZ P md ops Q S z n (listed.setIfInBounds i true) a' w') a w)
  (h2 : wpOp P ops Q j (fun a' w' => (j ≠ z → S w') ∧ AnyZ P md ops Q S z n (listed.setIfInBounds j true) a' w') a w) : AnyZ P md ops Q S z (n + 1) listed a w :=
 ⟨fun h0 => (by rw [hr] at h0; cases h0), fun k hk => by
  rw [hr] at hk
  simp at hk
  rcases hk with rfl | rfl
  ·exact h1
  ·exact h2⟩
def putO (d : Tmp) (a : Act) : Option Value → Act
 | none => a
 | some v => a.put (some d) v
def setO (i : Nat) (l : Array Bool) (b : Bool) : Array Bool := if b then l.setIfInBounds i true else l
def fr (d1 d2 e1 e2 : Tmp) (a : Act) (x1 x2 y1 y2 : Option Value) : Act := putO e2 (putO e1 (putO d2 (putO d1 a x1) x2) y1) y2
end
end Go.Proofs.YtkbndlnmbbbohaaGreatDoor
namespace Go.Proofs.YtkbndlnmbbbohaaGreatDoor
open Go Go.RowKit
set_option maxRecDepth 100000
set_option linter.unusedVariables false
structure Phi (w3 : World) (Z n k : Nat) (HD : Nat → Hd) (x1 x2 y1 y2 : Option Value) (W : World) : Prop where
 below : Below Z w3 W
 room : Z ≤ W.heap.size
 e30 : ∀ v, x1 = some v → ∃ g0, v = .slice (some ⟨g0, 0, none⟩) 0 0
 e32 : ∀ v, x2 = some v → OwnS W Z v k HD
 e37 : ∀ v, y1 = some v → ∃ g, v = .slice (some ⟨g, 0, none⟩) n n ∧ Z ≤ g ∧ Blk W g 5 (rowArr n fun _ => 0)
 e38 : ∀ v, y2 = some v → ∃ g, y1 = some (.slice (some ⟨g, 0, none⟩) n n) ∧ OwnS W Z v 1 (fun _ => (some ⟨g, 0, none⟩, n, n))
theorem RdB.mono {w : World} {B B' n : Nat} {A : Option Addr} {x : Nat → Nat} (h : RdB w B A n x) (hB : B ≤ B') : RdB w B' A n x := fun j hj => by
 obtain ⟨b, o, h1, h2, h3, h4⟩ := h j hj
 exact ⟨b, o, h1, by omega, h3, h4⟩
end Go.Proofs.YtkbndlnmbbbohaaGreatDoor
namespace Go.Proofs.YtkbndlnmbbbohaaGreatDoor
open Go Go.RowKit
set_option maxRecDepth 100000
set_option linter.unusedVariables false
theorem wpList_append_hd {w : World} {ops : Array Oper} {rest : List Oper} {o : Oper} {a : Act} {Q : Exit → Act → World → Prop} (hgd : o.guard = none) (s x : Operand)
  (ho : o.op = .call { callee := .builtin .append, args := #[s, x], argTypes := #[139, 139] }) {base n B m c : Nat} {v : Value} {A : Option Addr} {X Y : Nat → Hd} (hs : a.eval s = v) (hx : a.eval x = .slice A m c)
  (hown : OwnS w base v n X) (hy : RdH w B A m Y) (h0 : A = none → c = 0) (hmc : m ≤ c) (hl : n + m ≤ 100000) (hb : base ≤ w.heap.size)
  (h : ∀ v' w', OwnS w' base v' (n + m) (catS n X Y) → w.grownBy w' v.ownBlock → (v'.ownBlock = v.ownBlock ∨ v'.ownBlock = some w.heap.size) → wpList Tryz.prog ops Q rest (a.put o.dst v') w') : wpList Tryz.prog ops Q (o :: rest) a w := by
 refine wpList_plain hgd fun K hK => ?_
 obtain ⟨v', w', hrun, h1, h2, h3⟩ := run_append_hd o.type hown hy h0 hmc hl hb
 unfold Oper.wp execOp
 simp only [ho, resolve, invoke, builtin, Sem.run_bind, Sem.run_pure, Result.andThen_ok, List.map_toArray, List.map_cons, List.map_nil, hs, hx, hrun]
 exact hK _ _ (h v' w' h1 h2 h3)
theorem OwnS.neG {w : World} {base n m g : Nat} {v : Value} {X : Nat → Hd} {x : Nat → Nat} (h : OwnS w base v n X) (hb : RowG w g m x) : some g ≠ v.ownBlock := fun e => by
 rcases h with ⟨rfl, _⟩ | ⟨g', cap, cur, fr, rfl, _, hg, _⟩
 ·cases e
 ·simp [Value.ownBlock] at e
  subst e
  obtain ⟨cs, fr2, hb, _⟩ := hb
  rw [hb] at hg
  injection hg with hg
  injection hg with _ hg _
  exact absurd hg (by decide)
theorem own_grown8 {w0 w w' : World} {base n : Nat} {v : Value} {X : Nat → Nat} (hb : Below base w0 w) (ho : Own8 w base v n X) (hg : w.grownBy w' v.ownBlock) (hs : base ≤ w.heap.size) : Below base w0 w' :=
 hb.trans ⟨hg.os, hg.tape, hg.output, hg.size, fun k hk => hg.block k (by omega) (fun e => by have := (ho.lt e.symm).2; omega)⟩
structure Cols (w : World) (base : Nat) (v : Value) (i n : Nat) (H : Nat → Hd) (R : Nat → Nat) (x : Nat → Nat → Nat) : Prop where
 own : OwnS w base v i H
 hd : ∀ j, j < i → ∃ c, H j = (some ⟨R j, 0, none⟩, n, c) ∧ n ≤ c ∧ c ≤ maxLen
 row : ∀ j, j < i → base ≤ R j ∧ RowG w (R j) n (x j)
 apart : ∀ j k, j < k → k < i → R j ≠ R k
section
variable {w w' : World} {base i n : Nat} {v : Value} {H : Nat → Hd} {R : Nat → Nat} {x : Nat → Nat → Nat}
theorem Cols.below (h : Cols w base v i n H R x) {B : Nat} (hb : Below B w w') (hB : w.heap.size ≤ B) : Cols w' base v i n H R x :=
 ⟨h.own.below hb hB, h.hd, fun j hj => ⟨(h.row j hj).1, (h.row j hj).2.below hb (Nat.lt_of_lt_of_le (h.row j hj).2.lt hB)⟩, h.apart⟩
theorem Cols.rdr (h : Cols w base v i n H R x) (hx : ∀ j, j < i → ∀ v, v < n → x j v < 256) : ∃ A c, v = .slice A i c ∧ i ≤ c ∧ c ≤ maxLen ∧ RdR w w.heap.size A i (fun j => (H j).1) (fun j => (H j).2.1) (fun j => (H j).2.2) x := by
 obtain ⟨A, c, rfl, h1, h2, h3, _⟩ := h.own.shape
 refine ⟨A, c, rfl, h2, h3, fun j hj => ?_⟩
 obtain ⟨b, o, q1, q2, q3⟩ := h1 j hj
 obtain ⟨cj, e, _⟩ := h.hd j hj
 obtain ⟨_, hr⟩ := h.row j hj
 refine ⟨b, o, q1, q2, q3, ?_⟩
 show RdB w w.heap.size (H j).1 (H j).2.1 (x j)
 rw [e]
 exact hr.rdb (fun v hv => hx j hj v hv) hr.lt
theorem Cols.len (h : Cols w base v i n H R x) {j : Nat} (hj : j < i) : (H j).2.1 = n := by
 obtain ⟨c, e, _⟩ := h.hd j hj
 rw [e]
end
end Go.Proofs.YtkbndlnmbbbohaaGreatDoor
namespace Go.Proofs.YtkbndlnmbbbohaaGreatDoor
open Go Go.RowKit
set_option maxRecDepth 100000
set_option linter.unusedVariables false
theorem least_p {k : Nat} {p : Nat → Prop} (h : ¬ ∀ i, i < k → p i) : ∃ i0, i0 < k ∧ ¬ p i0 ∧ ∀ i, i < i0 → p i := by
 induction k with
 | zero => exact absurd (fun i hi => absurd hi (by omega)) h
 | succ k ih =>
  by_cases h1 : ∀ i, i < k → p i
  ·refine ⟨k, by omega, fun e => h fun i hi => ?_, h1⟩
   by_cases e2 : i = k
   ·rw [e2]; exact e
   ·exact h1 i (by omega)
  ·obtain ⟨i0, a, b, c⟩ := ih h1
   exact ⟨i0, by omega, b, c⟩
end Go.Proofs.YtkbndlnmbbbohaaGreatDoor
namespace Go.Proofs.YtkbndlnmbbbohaaGreatDoor
open Go Go.RowKit
set_option maxRecDepth 100000
set_option linter.unusedVariables false
section
variable {w w' : World} {base i n : Nat} {v : Value} {H : Nat → Hd} {R : Nat → Nat} {x : Nat → Nat → Nat}
theorem Cols.drew (h : Cols w base v i n H R x) : Cols w.drew base v i n H R x := ⟨h.own, h.hd, h.row, h.apart⟩
end
set_option maxHeartbeats 800000 in
theorem make_cols (k cd B : Nat) (A : Option Addr) (ra : Nat → Option Addr) (rl rc : Nat → Nat) (x : Nat → Nat → Nat) (w : World) (hr : RdR w B A k ra rl rc x) (hB : B ≤ w.heap.size) (hk0 : 0 < k) (hk : k ≤ 13) (ha : Alike k rl) :
  Calls Tryz.prog 100 #[.slice A k cd] w fun e w' => ∃ v R, e = .returned (.tuple #[v, .int .i64 0]) ∧ Cols w' w.heap.size v 3 (rl 0) (fun i => (some ⟨R i, 0, none⟩, rl 0, rl 0)) R (fun i v => M.par k i x v) ∧ Below w.heap.size w w' := by
 have HA := Lib.hid ha
 have HR := Lib.hid hr
 have hz := build_field
 have t1 : ((k : Int) < 1) = False := by simp; omega
 have t2 : ((13 : Int) < (k : Int)) = False := by simp; omega
 clear hr ha
 go_enter Tryz.func100, Tryz.ntmps100
 go_wp2_with fail
 refine (alike_yes k cd B A ra rl rc x _ HR.out hk0 (by omega) HA.out).mono ?_
 rintro e w1 ⟨rfl, rfl⟩
 go_wp2_with fail
 have F1 : Fld (w.alloc (.cells (fcells 0 0 0) 236)) w.heap.size := .inl (Blk.new _ _ _)
 have B1 : Below w.heap.size w (w.alloc (.cells (fcells 0 0 0) 236)) := (Below.refl _ _).alloc (Nat.le_refl _) _
 refine (sums_any w.heap.size (rl 0) k cd B A ra rl rc x _ F1 (HR.out.below B1 hB) HA.out.2.2 hk0 (by omega) hB HA.out.2.1 (Nat.le_trans hB B1.size)).mono ?_
 rintro e w3 ⟨rfl, R, H3⟩
 have HS := Lib.hid H3
 have HB := Lib.hid (B1.trans (H3.only.below (Nat.le_refl _) B1.size))
 clear H3 F1 B1
 go_wp2_with fail
 go_ret2
 refine ⟨_, R, rfl, ?_, HB.out⟩
 have s1 : (w.alloc (.cells (fcells 0 0 0) 236)).heap.size = w.heap.size + 1 := by simp
 have hh := HS.out.head
 rw [s1] at hh
 refine ⟨.inr ⟨w.heap.size + 1, 3, _, (0, 0), rfl, by omega, hh, .inl (Nat.le_refl _), Nat.le_refl _, by simp [maxLen], by simp [hdP], fun j hj => ?_⟩, fun j hj => ⟨rl 0, rfl, Nat.le_refl _, ?_⟩, fun j hj => ?_, HS.out.apart⟩
 ·rw [hdP_get hj, if_pos hj]; rfl
 ·have := HA.out.2.1; unfold maxLen; omega
 ·obtain ⟨h1, h2⟩ := HS.out.row j hj
  rw [s1] at h1
  exact ⟨by omega, h2⟩
end Go.Proofs.YtkbndlnmbbbohaaGreatDoor
namespace Go.Proofs.YtkbndlnmbbbohaaGreatDoor
open Go Go.RowKit
set_option maxRecDepth 100000
set_option linter.unusedVariables false
def RdZ (w : World) (B : Nat) (A : Option Addr) (n : Nat) (x : Nat → Int) : Prop :=
 ∀ i, i < n → ∃ b o, A = some ⟨b, o, none⟩ ∧ b < B ∧ w.cell? ⟨b, o + i, none⟩ = some (.int .i64 (x i))
theorem RdZ.below {w w' : World} {B B' n : Nat} {A : Option Addr} {x : Nat → Int} (h : RdZ w B A n x) (hb : Below B' w w') (hB : B ≤ B') : RdZ w' B A n x := by
 intro i hi
 obtain ⟨b, o, h1, h2, h3⟩ := h i hi
 exact ⟨b, o, h1, h2, (hb.cell (p := ⟨b, o + i, none⟩) (by show b < B'; omega)).trans h3⟩
def prv (b : Nat → Int) (i : Nat) : Int := if i = 0 then -1 else b (i - 1)
theorem prv_succ (b : Nat → Int) (i : Nat) : prv b (i + 1) = b i := by unfold prv; rw [if_neg (by omega), Nat.add_sub_cancel]
def Rise (m : Nat) (b : Nat → Int) (n : Int) : Prop := ∀ i, i < m → prv b i < b i ∧ b i < n
theorem Rise.ge {m : Nat} {b : Nat → Int} {n : Int} (h : Rise m b n) : ∀ i, i < m → (i : Int) ≤ b i := by
 intro i
 induction i with
 | zero =>
  intro hi
  have := (h 0 hi).1
  unfold prv at this
  rw [if_pos rfl] at this
  omega
 | succ i ih =>
  intro hi
  have h1 := (h (i + 1) hi).1
  rw [prv_succ] at h1
  have := ih (by omega)
  omega
theorem Rise.lt {m : Nat} {b : Nat → Int} {n : Int} (h : Rise m b n) {i j : Nat} (hij : i < j) (hj : j < m) : b i < b j := by
 induction j with
 | zero => omega
 | succ j ih =>
  have h1 := (h (j + 1) hj).1
  rw [prv_succ] at h1
  by_cases e : i = j
  ·rw [e]; exact h1
  ·have := ih (by omega) (by omega)
   omega
set_option maxHeartbeats 400000 in
theorem rising_yes (m c B : Nat) (A : Option Addr) (b : Nat → Int) (n : Int) (w : World) (hr : RdZ w B A m b) (hm : m ≤ maxLen) (h : Rise m b n) : Calls Tryz.prog 181 #[.slice A m c, .int .i64 n] w fun e w' => e = .returned (.bool true) ∧ w = w' := by
 have HR := Lib.hid hr
 have HB := Lib.hid h
 unfold maxLen at hm
 clear hr h
 go_enter Tryz.func181, Tryz.ntmps181
 go_wp2
 go_loop [5, 10] (fun y x => ∃ i : Nat, i ≤ m ∧ x = .int .i64 i ∧ y = .int .i64 (prv b i)) (fun _ x => m - (intOf x).toNat)
 case atStart => exact ⟨0, by omega, rfl, rfl⟩
 case round =>
  obtain ⟨i, hi, rfl, rfl⟩ := hrel
  by_cases hlt : i < m
  ·obtain ⟨bb, ob, rfl, _, hc⟩ := HR.out i hlt
   have hs := prv_succ b i
   obtain ⟨h1, h2⟩ := HB.out i hlt
   have t1 : (b i ≤ prv b i) = False := by simp; omega
   have t2 : (n ≤ b i) = False := by simp; omega
   have HS := Lib.hid hs
   clear h1 h2 hs
   generalize prv b i = p at *
   generalize b i = z at *
   go_wp2
   go_round
   case rel => exact ⟨i + 1, by omega, by go_num, by rw [HS.out]⟩
   case measure => simp [intOf]; omega
  ·obtain rfl : i = m := by omega
   go_wp2
   go_ret
   exact ⟨rfl, rfl⟩
def First (m : Nat) (b : Nat → Int) (f : Nat) : Prop := f ≤ m ∧ (∀ j, j < f → b j = (j : Int)) ∧ (f < m → b f ≠ (f : Int))
theorem first_of (m : Nat) (b : Nat → Int) : ∃ f, First m b f := by
 by_cases h : ∀ i, i < m → b i = (i : Int)
 ·exact ⟨m, Nat.le_refl _, h, fun e => absurd e (Nat.lt_irrefl _)⟩
 ·obtain ⟨f, h1, h2, h3⟩ := least_p h
  exact ⟨f, by omega, h3, fun _ => h2⟩
set_option maxHeartbeats 400000 in
theorem length_at (k cd B m c B2 f : Nat) (A A2 : Option Addr) (ra : Nat → Option Addr) (rl rc : Nat → Nat) (x : Nat → Nat → Nat) (b : Nat → Int) (w : World) (hr : RdR w B A k ra rl rc x) (hz : RdZ w B2 A2 m b) (hf : First m b f) (hfk : f < k) (hk : k ≤ 16) (hm : m ≤ 16) :
  Calls Tryz.prog 163 #[.slice A k cd, .slice A2 m c] w fun e w' => e = .returned (.int .i64 (rl f : Nat)) ∧ w = w' := by
 obtain ⟨f1, f2, f3⟩ := hf
 have HR := Lib.hid hr
 have HZ := Lib.hid hz
 have H2 := Lib.hid f2
 have H3 := Lib.hid f3
 clear hr hz f2 f3
 go_enter Tryz.func163, Tryz.ntmps163
 go_wp2
 go_loop [9] (fun x => ∃ i : Nat, i ≤ f ∧ x = .int .i64 i) (fun x => f - (intOf x).toNat)
 case atStart => exact ⟨0, by omega, rfl⟩
 case round =>
  obtain ⟨i, hi, rfl⟩ := hrel
  obtain ⟨bx, ox, rfl, hbx, hcx, _⟩ := HR.out i (by omega)
  have i1 : (i : Int) < (k : Int) := by omega
  by_cases hlt : i < f
  ·obtain ⟨bb, ob, rfl, _, hc⟩ := HZ.out i (by omega)
   have i2 : (i : Int) < (m : Int) := by omega
   rw [H2.out i hlt] at hc
   generalize ra i = r1 at *
   generalize rc i = c1 at *
   generalize rl i = n at *
   clear hbx
   go_wp2
   go_round
   case rel => exact ⟨i + 1, by omega, by go_num⟩
   case measure => simp [intOf]; omega
  ·obtain rfl : i = f := by omega
   generalize ra i = r1 at *
   generalize rc i = c1 at *
   generalize hn : rl i = n at *
   have HN := Lib.hid hn
   clear hn hbx
   by_cases hm2 : i < m
   ·obtain ⟨bb, ob, rfl, _, hc⟩ := HZ.out i hm2
    have i2 : (i : Int) < (m : Int) := by omega
    have hne : (b i != (i : Int)) = true := by rw [bne_iff_ne]; exact H3.out hm2
    generalize b i = z at *
    go_wp2
    go_ret
    exact ⟨by rw [HN.out]; rfl, rfl⟩
   ·have i2 : (m : Int) ≤ (i : Int) := by omega
    go_wp2
    go_ret
    exact ⟨by rw [HN.out]; rfl, rfl⟩
def AlikeB (k m n : Nat) (b : Nat → Int) (rl : Nat → Nat) : Prop := 1 ≤ n ∧ n ≤ 4096 ∧ ∀ i, i < k → (∀ j, j < m → b j ≠ (i : Int)) → rl i = n
structure Left (w : World) (B : Nat) (v : Value) (m t q i : Nat) (b : Nat → Int) : Prop where
 sum : m = t + q
 row : ∃ A c, v = .slice A q c ∧ q ≤ c ∧ c ≤ maxLen ∧ RdZ w B A q (fun j => b (t + j))
 lo : ∀ j, j < t → b j < (i : Int)
 hi : ∀ j, t ≤ j → j < m → (i : Int) ≤ b j
section
variable {w : World} {B m t q i : Nat} {v : Value} {b : Nat → Int} {n : Int}
theorem Left.start {A : Option Addr} {c : Nat} (hz : RdZ w B A m b) (hc : m ≤ c) (hm : c ≤ maxLen) (hr : Rise m b n) : Left w B (.slice A m c) m 0 m 0 b :=
 ⟨by omega, ⟨A, c, rfl, hc, hm, fun j hj => by
  show ∃ b_1 o, A = some ⟨b_1, o, none⟩ ∧ b_1 < B ∧ w.cell? ⟨b_1, o + j, none⟩ = some (.int .i64 (b (0 + j)))
  rw [Nat.zero_add]; exact hz j hj⟩, fun j hj => absurd hj (by omega), fun j _ hj => by have := hr.ge j hj; omega⟩
theorem Left.keep (h : Left w B v m t q i b) (hn : q = 0 ∨ b t ≠ (i : Int)) (hr : Rise m b n) : Left w B v m t q (i + 1) b :=
 ⟨h.sum, h.row, fun j hj => by have := h.lo j hj; omega, fun j h1 h2 => by
  have hs := h.sum
  rcases hn with hn | hn
  ·omega
  ·have h3 := h.hi j h1 h2
   have h4 := h.hi t (Nat.le_refl _) (by omega)
   by_cases e : t = j
   ·subst e; omega
   ·have := hr.lt (show t < j by omega) h2
    omega⟩
theorem Left.not_bad (h : Left w B v m t q i b) (hn : q = 0 ∨ b t ≠ (i : Int)) (hr : Rise m b n) : ∀ j, j < m → b j ≠ (i : Int) := fun j hj => by
 by_cases e : j < t
 ·have := h.lo j e; omega
 ·have := (h.keep hn hr).hi j (by omega) hj
  omega
theorem Left.next {A : Option Addr} {c : Nat} (h : Left w B v m t (q + 1) i b) (hr : Rise m b n) (hb : b t = (i : Int)) (hc : q ≤ c) (hm : c ≤ maxLen) (hz : RdZ w B A q (fun j => b (t + 1 + j))) : Left w B (.slice A q c) m (t + 1) q (i + 1) b :=
 ⟨by have := h.sum; omega, ⟨A, c, rfl, hc, hm, hz⟩, fun j hj => by
  by_cases e : j < t
  ·have := h.lo j e; omega
  ·obtain rfl : j = t := by omega
   omega, fun j h1 h2 => by
  have := hr.lt (show t < j by omega) h2
  omega⟩
end
set_option maxHeartbeats 800000 in
theorem alike_bad (k cd B m c B2 f : Nat) (A A2 : Option Addr) (ra : Nat → Option Addr) (rl rc : Nat → Nat) (x : Nat → Nat → Nat) (b : Nat → Int) (w : World) (hr : RdR w B A k ra rl rc x) (hz : RdZ w B2 A2 m b) (hmc : m ≤ c) (hcm : c ≤ maxLen) (hri : Rise m b (k : Int)) (hf : First m b f) (hfk : f < k) (hk : k ≤ 16) (hm : m ≤ 16) (ha : AlikeB k m (rl f) b rl) :
  Calls Tryz.prog 128 #[.slice A k cd, .slice A2 m c] w fun e w' => e = .returned (.bool true) ∧ w = w' := by
 obtain ⟨h1, h2, h3⟩ := ha
 have HA := Lib.hid h3
 have HR := Lib.hid hr
 have HZ := Lib.hid hz
 have HRI := Lib.hid hri
 have HF := Lib.hid hf
 have L0 : Hid (Left w B2 (.slice A2 m c) m 0 m 0 b) := Lib.hid (Left.start hz hmc hcm hri)
 have t1 : ((rl f : Int) < 1) = False := by simp; omega
 have t2 : ((4096 : Int) < (rl f : Int)) = False := by simp; omega
 clear h3 hr hz hri hf
 go_enter Tryz.func128, Tryz.ntmps128
 go_wp2_with fail
 refine (length_at k cd B m c B2 f A A2 ra rl rc x b _ HR.out HZ.out HF.out hfk hk hm).mono ?_
 rintro e w1 ⟨rfl, rfl⟩
 generalize hn : rl f = n at *
 have HN := Lib.hid hn
 clear hn
 go_wp2_with fail
 go_loop [1, 19] (fun y x => ∃ i t q : Nat, i ≤ k ∧ x = .int .i64 i ∧ Hid (Left w B2 y m t q i b)) (fun _ x => k - (intOf x).toNat)
 case atStart => exact ⟨0, 0, m, by omega, rfl, L0⟩
 case round =>
  clear L0
  obtain ⟨i, t, q, hi, rfl, L⟩ := hrel
  by_cases hlt : i < k
  ·obtain ⟨bx, ox, rfl, hbx, hcx, _⟩ := HR.out i hlt
   obtain ⟨A', c', rfl, hqc, hcm', hz'⟩ := L.out.row
   unfold maxLen at hcm'
   clear hbx
   by_cases hq : q = 0
   ·subst hq
    rw [HA.out i hlt (L.out.not_bad (.inl rfl) HRI.out)] at hcx
    have L2 := Lib.hid (L.out.keep (.inl rfl) HRI.out)
    generalize ra i = r1 at *
    generalize rc i = c1 at *
    clear L hz'
    go_wp2_with fail
    go_round
    case rel => exact ⟨i + 1, t, 0, by omega, by go_num, L2⟩
    case measure => simp [intOf]; omega
   ·obtain ⟨q, rfl⟩ : ∃ q', q = q' + 1 := ⟨q - 1, by omega⟩
    obtain ⟨bb, ob, rfl, hbb, hcb⟩ := hz' 0 (by omega)
    have hcb : w.cell? ⟨bb, ob, none⟩ = some (.int .i64 (b t)) := hcb
    by_cases hb : b t = (i : Int)
    ·have hz2 : RdZ w B2 (some ⟨bb, ob + 1, none⟩) q (fun j => b (t + 1 + j)) := fun j hj => by
      obtain ⟨b', o', e, h1, h2⟩ := hz' (j + 1) (by omega)
      injection e with e
      injection e with e1 e2
      subst e1; subst e2
      refine ⟨bb, ob + 1, rfl, h1, ?_⟩
      rw [show ob + 1 + j = ob + (j + 1) by omega]
      show _ = some (Value.int .i64 (b (t + 1 + j)))
      rw [show t + 1 + j = t + (j + 1) by omega]
      exact h2
     have hz3 : q = 0 → RdZ w B2 (some ⟨bb, ob, none⟩) q (fun j => b (t + 1 + j)) := fun e j hj => absurd hj (by omega)
     rw [hb] at hcb
     have HZ2 := Lib.hid hz2
     have HZ3 := Lib.hid hz3
     have HB := Lib.hid hb
     have L2 := fun A c h1 h2 h3 => Lib.hid (L.out.next (A := A) (c := c) HRI.out HB.out h1 h2 h3)
     have HL2 := Lib.hid L2
     have hsub : IntKind.i64.wrap (((q + 1 : Nat) : Int) - 1) = (q : Int) := by rw [IntKind.wrap_i64]; omega
     generalize ra i = r1 at *
     generalize rc i = c1 at *
     generalize rl i = l1 at *
     clear hz' hz2 hz3 hbb hb L2 L
     by_cases hc1 : c' = 1
     ·subst hc1
      obtain rfl : q = 0 := by omega
      go_wp2_with fail
      go_round
      case rel => exact ⟨i + 1, t + 1, 0, by omega, by go_num, HL2.out _ _ (by omega) (by unfold maxLen; omega) (HZ3.out rfl)⟩
      case measure => simp [intOf]; omega
     ·have hc2 : 1 < c' := by omega
      go_wp2_with fail
      go_round
      case rel => exact ⟨i + 1, t + 1, q, by omega, by go_num, HL2.out _ _ (by omega) (by unfold maxLen; omega) HZ2.out⟩
      case measure => simp [intOf]; omega
    ·have hne : (b t == (i : Int)) = false := by rw [beq_eq_false_iff_ne]; exact hb
     rw [HA.out i hlt (L.out.not_bad (.inr hb) HRI.out)] at hcx
     have L2 := Lib.hid (L.out.keep (.inr hb) HRI.out)
     generalize ra i = r1 at *
     generalize rc i = c1 at *
     generalize b t = z at *
     clear L hz' hbb hb
     go_wp2_with fail
     go_round
     case rel => exact ⟨i + 1, t, q + 1, by omega, by go_num, L2⟩
     case measure => simp [intOf]; omega
  ·obtain rfl : i = k := by omega
   go_wp2_with fail
   go_ret
   exact ⟨rfl, rfl⟩
set_option maxHeartbeats 800000 in
theorem fault_none (k cd B m c B2 f : Nat) (A A2 : Option Addr) (ra : Nat → Option Addr) (rl rc : Nat → Nat) (x : Nat → Nat → Nat) (b : Nat → Int) (w : World) (hr : RdR w B A k ra rl rc x) (hz : RdZ w B2 A2 m b) (hmc : m ≤ c) (hcm : c ≤ maxLen) (hri : Rise m b (k : Int)) (hf : First m b f) (hfk : f < k) (hk4 : 4 ≤ k) (hk : k ≤ 16) (hm : m ≤ 3) (ha : AlikeB k m (rl f) b rl) :
  Calls Tryz.prog 168 #[.slice A k cd, .slice A2 m c] w fun e w' => e = .returned (.int .i64 0) ∧ w = w' := by
 have HA := Lib.hid ha
 have HR := Lib.hid hr
 have HZ := Lib.hid hz
 have HRI := Lib.hid hri
 have HF := Lib.hid hf
 have HC := Lib.hid hcm
 have t1 : ((k : Int) < 4) = False := by simp; omega
 have t2 : ((16 : Int) < (k : Int)) = False := by simp; omega
 have t3 : ((m : Int) == (k : Int)) = false := by rw [beq_eq_false_iff_ne]; omega
 have t4 : ((3 : Int) < (m : Int)) = False := by simp; omega
 have hmm : m ≤ maxLen := by unfold maxLen; omega
 clear ha hr hz hri hf hcm
 go_enter Tryz.func168, Tryz.ntmps168
 go_wp2_with fail
 refine (rising_yes m c B2 A2 b _ _ HZ.out hmm HRI.out).mono ?_
 rintro e w1 ⟨rfl, rfl⟩
 go_wp2_with fail
 refine (alike_bad k cd B m c B2 f A A2 ra rl rc x b _ HR.out HZ.out hmc HC.out HRI.out HF.out hfk hk (by omega) HA.out).mono ?_
 rintro e w1 ⟨rfl, rfl⟩
 go_wp2_with fail
 go_ret
 exact ⟨rfl, rfl⟩
end Go.Proofs.YtkbndlnmbbbohaaGreatDoor
