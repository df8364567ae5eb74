/-
 The call's own row of rows of bytes (made of XOwn8 by mkowns.py): what it holds, what 'append' makes of it. No conditions beyond those that each theorem types.
-/
import Derived.Test.YtgbehfkimchglaaGreatDoorParAddM
import Derived.Test.YtgbehfkimchglaaGreatDoorSpcPartM
import Derived.Test.YtgbehfkimchglaaGreatDoorParKnownM
import Derived.IntWalk
import Derived.Deep.Cut
namespace Go.Proofs.YtgbehfkimchglaaGreatDoor
open Go Go.RowKit Go.Lib
set_option maxRecDepth 100000
set_option linter.unusedVariables false
abbrev Hd := Option Addr × Nat × Nat
def hdV (h : Hd) : Value := .slice h.1 h.2.1 h.2.2
def RdH (w : World) (B : Nat) (A : Option Addr) (n : Nat) (X : Nat → Hd) : Prop := ∀ i, i < n → ∃ b o, A = some ⟨b, o, none⟩ ∧ b < B ∧ w.cell? ⟨b, o + i, none⟩ = some (hdV (X i))
theorem infoS : (Tryz.prog.info? 76).map (fun i => (i.zero, i.size, i.bytes)) = some (some (.slice none 0 0), 1, 24) := by kernel_rfl
theorem sizeOf_bytes (w : World) : (sizeOf 76).run Tryz.prog w = .ok 1 w := by
 obtain ⟨i0, hi, hz0, hz1, hz2⟩ := info_parts infoS
 simp [sizeOf, typeInfo, hi, hz1]
def headsL (n : Nat) (X : Nat → Hd) : List Value := (List.range n).map fun j => hdV (X j)
theorem headsL_length (n : Nat) (X : Nat → Hd) : (headsL n X).length = n := by simp [headsL]
theorem headsL_get {n j : Nat} (X : Nat → Hd) (h : j < n) : (headsL n X)[j]? = some (hdV (X j)) := by simp [headsL, h]
theorem headsL_mem {n : Nat} {X : Nat → Hd} : ∀ u ∈ headsL n X, u.oneCell' = true := fun u hu => by
 simp only [headsL, List.mem_map] at hu
 obtain ⟨j, _, rfl⟩ := hu
 rfl
def catS (n : Nat) (X Y : Nat → Hd) (j : Nat) : Hd := if j < n then X j else Y (j - n)
theorem headsL_cat (n m : Nat) (X Y : Nat → Hd) : headsL n X ++ headsL m Y = headsL (n + m) (catS n X Y) := by
 apply List.ext_getElem?
 intro j
 by_cases h : j < n
 ·rw [List.getElem?_append_left (by rw [headsL_length]; exact h), headsL_get X h, headsL_get _ (by omega)]
  unfold catS
  rw [if_pos h]
 ·rw [List.getElem?_append_right (by rw [headsL_length]; omega), headsL_length]
  by_cases h2 : j < n + m
  ·rw [headsL_get Y (by omega), headsL_get _ h2]
   unfold catS
   rw [if_neg h]
  ·rw [List.getElem?_eq_none (by rw [headsL_length]; omega), List.getElem?_eq_none (by rw [headsL_length]; omega)]
def OwnS (w : World) (base : Nat) (v : Value) (n : Nat) (X : Nat → Hd) : Prop :=
 (v = .slice none 0 0 ∧ n = 0) ∨ ∃ g cap cur fr, v = .slice (some ⟨g, 0, none⟩) n cap ∧ base ≤ g ∧ w.heap[g]? = some (.cells cur 76 fr) ∧ freeTail fr cap ∧ n ≤ cap ∧ cap ≤ maxLen ∧ cur.size = cap ∧ ∀ j, j < n → cur[j]? = some (hdV (X j))
theorem OwnS.nil (w : World) (base : Nat) (X : Nat → Hd) : OwnS w base (.slice none 0 0) 0 X := .inl ⟨rfl, rfl⟩
theorem OwnS.shape {w : World} {base n : Nat} {v : Value} {X : Nat → Hd} (h : OwnS w base v n X) :
  ∃ A c, v = .slice A n c ∧ RdH w w.heap.size A n X ∧ n ≤ c ∧ c ≤ maxLen ∧ (∀ g o, A = some ⟨g, o, none⟩ → base ≤ g) ∧ (A = none → c = 0) := by
 rcases h with ⟨rfl, rfl⟩ | ⟨g, cap, cur, fr, rfl, hg, hb, h0, h1, h2, h3, h4⟩
 ·exact ⟨none, 0, rfl, fun j hj => absurd hj (by omega), by omega, by simp [maxLen], fun g o e => (by cases e), fun _ => rfl⟩
 ·exact ⟨_, _, rfl, fun j hj => ⟨g, 0, rfl, lt_of_heap hb, by rw [Nat.zero_add, cell_of_row _ _ _ _ _ _ hb]; exact h4 j hj⟩, h1, h2, fun g' o e => by injection e with e; injection e with e _; omega, fun e => (by cases e)⟩
theorem OwnS.keep {w w' : World} {base n : Nat} {v : Value} {X : Nat → Hd} (h : OwnS w base v n X) (hk : ∀ g, v.ownBlock = some g → w'.heap[g]? = w.heap[g]?) : OwnS w' base v n X := by
 rcases h with h | ⟨g, cap, cur, fr, rfl, hg, hb, h3⟩
 ·exact .inl h
 ·exact .inr ⟨g, cap, cur, fr, rfl, hg, (hk g rfl).trans hb, h3⟩
theorem OwnS.lt {w : World} {base n g : Nat} {v : Value} {X : Nat → Hd} (h : OwnS w base v n X) (hg : v.ownBlock = some g) : g < w.heap.size ∧ base ≤ g := by
 rcases h with ⟨rfl, _⟩ | ⟨g', cap, cur, fr, rfl, hb, hblk, _⟩
 ·simp [Value.ownBlock] at hg
 ·simp [Value.ownBlock] at hg
  subst hg
  exact ⟨lt_of_heap hblk, hb⟩
theorem OwnS.below {w w' : World} {base n B : Nat} {v : Value} {X : Nat → Hd} (h : OwnS w base v n X) (hk : Below B w w') (hB : w.heap.size ≤ B) : OwnS w' base v n X :=
 h.keep fun g hg => hk.block g (by have := (h.lt hg).1; omega)
theorem OwnS.base {w : World} {base base' n : Nat} {v : Value} {X : Nat → Hd} (h : OwnS w base v n X) (hb : base' ≤ base) : OwnS w base' v n X := by
 rcases h with h | ⟨g, cap, cur, fr, rfl, hg, h3⟩
 ·exact .inl h
 ·exact .inr ⟨g, cap, cur, fr, rfl, Nat.le_trans hb hg, h3⟩
theorem grow_rowS {w : World} {n m cap : Nat} {olds : List Value} {X Y : Nat → Hd} (ho : olds = headsL n X) (hl : n + m ≤ 100000) :
  OwnS (w.drew.alloc (.cells (olds.toArray ++ (headsL m Y).toArray ++ Builtin.zeroCells (Value.slice none 0 0).cells (grownCap w (n + m) cap 76 - (n + m))) 76)) w.heap.size (.slice (some ⟨w.heap.size, 0, none⟩) (n + m) (grownCap w (n + m) cap 76)) (n + m) (catS n X Y) := by
 have hge := grownCap_ge w (n + m) cap 76
 have hcm : grownCap w (n + m) cap 76 ≤ maxLen := grownCap_le_maxLen w (n + m) cap 76 (by simp only [maxLen]; omega)
 refine .inr ⟨w.heap.size, _, _, (0, 0), rfl, Nat.le_refl _, heap_alloc_new w.drew _, .inl (Nat.le_refl _), hge, hcm, ?_, fun j hj => ?_⟩
 ·have hz1 : (Value.slice none 0 0).cells.size = 1 := rfl
  simp only [Array.size_append, List.size_toArray, size_zeroCells, hz1, ho, headsL_length]
  omega
 ·have h1 := headsL_cat n m X Y
  have h2 := headsL_get (catS n X Y) hj
  rw [← h1, ← ho] at h2
  rw [Array.getElem?_append_left (by simp [ho, headsL_length]; omega)]
  simpa using h2
theorem put_rowS {cur cur' : Array Value} {n m : Nat} {X Y : Nat → Hd} (h4 : ∀ j, j < n → cur[j]? = some (hdV (X j))) (e : ∀ j, cur'[j]? = if n + 0 ≤ j ∧ j < n + 0 + (headsL m Y).length then (headsL m Y)[j - (n + 0)]? else cur[j]?) :
  ∀ j, j < n + m → cur'[j]? = some (hdV (catS n X Y j)) := fun j hj => by
 rw [e, headsL_length, Nat.add_zero]
 unfold catS
 by_cases h : j < n
 ·rw [if_neg (by omega), if_pos h]
  exact h4 j h
 ·rw [if_pos ⟨by omega, hj⟩, if_neg h]
  exact headsL_get Y (by omega)
theorem run_append_hd {w : World} {base n B m c : Nat} {v : Value} {A : Option Addr} {X Y : Nat → Hd} (ty : TypeId) (h : OwnS w base v n X) (hy : RdH w B A m Y) (h0 : A = none → c = 0) (hmc : m ≤ c) (hl : n + m ≤ 100000) (hb : base ≤ w.heap.size) :
  ∃ v' w', (Builtin.append_ #[189, 189] ty #[v, .slice A m c]).run Tryz.prog w = .ok v' w' ∧ OwnS w' base v' (n + m) (catS n X Y) ∧ w.grownBy w' v.ownBlock ∧ (v'.ownBlock = v.ownBlock ∨ v'.ownBlock = some w.heap.size) := by
 obtain ⟨i0, hi, hz0, hz1, hz2⟩ := info_parts infoS
 have hsz : ∀ w', (sizeOf 76).run Tryz.prog w' = .ok 1 w' := sizeOf_bytes
 have hne : ∀ m', m = m' + 1 → ∃ ad, A = some ad := fun m' e => by obtain ⟨b, o, e2, _⟩ := hy 0 (by omega); exact ⟨_, e2⟩
 have hnews : ∀ ad, A = some ad → ∀ j u, (headsL m Y)[j]? = some u → w.cell? (ad.add j) = some u := fun ad e j u hj => by
  have hjm : j < m := by have := (List.getElem?_eq_some_iff.1 hj).1; rw [headsL_length] at this; exact this
  rw [headsL_get Y hjm] at hj
  injection hj with hj
  subst hj
  obtain ⟨b, o, h1, h2, h3⟩ := hy j hjm
  rw [e] at h1
  injection h1 with h1
  subst h1
  rw [add_plain]
  exact h3
 have hfc : (Builtin.firstCells 1 m (.slice A m c)).run Tryz.prog w = .ok (headsL m Y).toArray w := by
  cases A with
  | none =>
   have hm : m = 0 := by have := h0 rfl; omega
   subst hm
   exact run_firstCells_none w 1 0 0 c
  | some ad => exact run_firstCells_some (P := Tryz.prog) w 1 m ad m c (headsL m Y) (by rw [headsL_length, Nat.mul_one]) (hnews ad rfl)
 rcases h with ⟨rfl, rfl⟩ | ⟨g, cap, cur, fr, rfl, hg, hblk, hfr, h1, h2, h3, h4⟩
 ·by_cases hm : m = 0
  ·subst hm
   refine ⟨.slice none 0 0, w, ?_, .inl ⟨rfl, rfl⟩, World.grownBy.refl w _, .inl rfl⟩
   simp [Builtin.append_, run_underlying Tryz.underlying189, hsz, Builtin.lenOf, hfc]
  ·obtain ⟨ad, rfl⟩ := hne (m - 1) (by omega)
   have hr := run_append_nil (P := Tryz.prog) w 189 ty 76 i0 (.slice none 0 0) Tryz.underlying189 hi hz0 ad m c (headsL m Y) (by rw [headsL_length, hz1, Nat.mul_one]) (hnews ad rfl) (by omega) (by omega) (by rw [hz2]; omega)
   have hgr := grow_rowS (w := w) (n := 0) (m := m) (cap := 0) (olds := []) (X := X) (Y := Y) rfl (by omega)
   simp only [Nat.zero_add] at hgr hr ⊢
   rw [show (([] : List Value).toArray ++ (headsL m Y).toArray) = (headsL m Y).toArray by simp] at hgr
   exact ⟨_, _, hr, hgr.base hb, ⟨rfl, rfl, rfl, by simp, fun k hk _ => Below.heap_alloc w.drew _ k hk⟩, .inr rfl⟩
 ·by_cases hroom : n + m ≤ cap
  ·obtain ⟨w', cur', e1, e2, e3, e4, e5, e6⟩ := store_run g n 76 fr (headsL m Y) 0 cur w hblk (by rw [h3]; exact hfr) (by rw [headsL_length]; omega) headsL_mem
   refine ⟨.slice (some ⟨g, 0, none⟩) (n + m) cap, w', ?_, .inr ⟨g, cap, cur', fr, rfl, hg, e2, hfr, hroom, h2, by omega, put_rowS h4 e4⟩, e5, .inl rfl⟩
   simp [Builtin.append_, run_underlying Tryz.underlying189, hsz, Builtin.lenOf, hroom, hfc, Addr.add_lit, e1]
  ·obtain ⟨ad, rfl⟩ := hne (m - 1) (by omega)
   have holds : ∀ j u, (headsL n X)[j]? = some u → w.cell? ((⟨g, 0, none⟩ : Addr).add j) = some u := fun j u hj => by
    have hjn : j < n := by have := (List.getElem?_eq_some_iff.1 hj).1; rw [headsL_length] at this; exact this
    rw [headsL_get X hjn] at hj
    injection hj with hj
    subst hj
    rw [add_plain, Nat.zero_add, cell_of_row _ _ _ _ _ _ hblk]
    exact h4 j hjn
   have hr := run_append_grow (P := Tryz.prog) w 189 ty 76 i0 (.slice none 0 0) Tryz.underlying189 hi hz0 ⟨g, 0, none⟩ n cap (headsL n X) (by rw [headsL_length, hz1, Nat.mul_one]) holds ad m c (headsL m Y) (by rw [headsL_length, hz1, Nat.mul_one]) (hnews ad rfl) (by omega) (by omega) (by rw [hz2]; exact growslice_fits (by omega) (by omega))
   exact ⟨_, _, hr, (grow_rowS (w := w) (cap := cap) (Y := Y) rfl hl).base hb, ⟨rfl, rfl, rfl, by simp, fun k hk _ => Below.heap_alloc w.drew _ k hk⟩, .inr rfl⟩
end Go.Proofs.YtgbehfkimchglaaGreatDoor
namespace Go.Proofs.YtgbehfkimchglaaGreatDoor
open Go Go.RowKit
set_option maxRecDepth 100000
set_option linter.unusedVariables false
section
variable {P : Program} {md : Region.Mode} {ops : Array Oper} {Q : Exit → Act → World → Prop} {S : World → Prop} {z : Nat}
theorem AnyZ.two {i j n : Nat} {listed : Array Bool} {a : Act} {w : World} (hr : Region.ready md ops listed = [i, j])
  (h1 : wpOp P ops Q i (fun a' w' => (i ≠ z → S w') ∧ AnyZ P md ops Q S z n (listed.setIfInBounds i true) a' w') a w)
  (h2 : wpOp P ops Q j (fun a' w' => (j ≠ z → S w') ∧ AnyZ P md ops Q S z n (listed.setIfInBounds j true) a' w') a w) : AnyZ P md ops Q S z (n + 1) listed a w :=
 ⟨fun h0 => (by rw [hr] at h0; cases h0), fun k hk => by
  rw [hr] at hk
  simp at hk
  rcases hk with rfl | rfl
  ·exact h1
  ·exact h2⟩
def putO (d : Tmp) (a : Act) : Option Value → Act
 | none => a
 | some v => a.put (some d) v
def fr (d1 d2 e1 e2 : Tmp) (a : Act) (x1 x2 y1 y2 : Option Value) : Act := putO e2 (putO e1 (putO d2 (putO d1 a x1) x2) y1) y2
end
end Go.Proofs.YtgbehfkimchglaaGreatDoor
namespace Go.Proofs.YtgbehfkimchglaaGreatDoor
open Go Go.RowKit
set_option maxRecDepth 100000
set_option linter.unusedVariables false
structure Phi (w3 : World) (Z n k : Nat) (HD : Nat → Hd) (x1 x2 y1 y2 : Option Value) (W : World) : Prop where
 below : Below Z w3 W
 room : Z ≤ W.heap.size
 e30 : ∀ v, x1 = some v → ∃ g0, v = .slice (some ⟨g0, 0, none⟩) 0 0
 e32 : ∀ v, x2 = some v → OwnS W Z v k HD
 e37 : ∀ v, y1 = some v → ∃ g, v = .slice (some ⟨g, 0, none⟩) n n ∧ Z ≤ g ∧ Blk W g 5 (rowArr n fun _ => 0)
 e38 : ∀ v, y2 = some v → ∃ g, y1 = some (.slice (some ⟨g, 0, none⟩) n n) ∧ OwnS W Z v 1 (fun _ => (some ⟨g, 0, none⟩, n, n))
end Go.Proofs.YtgbehfkimchglaaGreatDoor
namespace Go.Proofs.YtgbehfkimchglaaGreatDoor
open Go Go.RowKit
set_option maxRecDepth 100000
set_option linter.unusedVariables false
theorem wpList_append_hd {w : World} {ops : Array Oper} {rest : List Oper} {o : Oper} {a : Act} {Q : Exit → Act → World → Prop} (hgd : o.guard = none) (s x : Operand)
  (ho : o.op = .call { callee := .builtin .append, args := #[s, x], argTypes := #[189, 189] }) {base n B m c : Nat} {v : Value} {A : Option Addr} {X Y : Nat → Hd} (hs : a.eval s = v) (hx : a.eval x = .slice A m c)
  (hown : OwnS w base v n X) (hy : RdH w B A m Y) (h0 : A = none → c = 0) (hmc : m ≤ c) (hl : n + m ≤ 100000) (hb : base ≤ w.heap.size)
  (h : ∀ v' w', OwnS w' base v' (n + m) (catS n X Y) → w.grownBy w' v.ownBlock → (v'.ownBlock = v.ownBlock ∨ v'.ownBlock = some w.heap.size) → wpList Tryz.prog ops Q rest (a.put o.dst v') w') : wpList Tryz.prog ops Q (o :: rest) a w := by
 refine wpList_plain hgd fun K hK => ?_
 obtain ⟨v', w', hrun, h1, h2, h3⟩ := run_append_hd o.type hown hy h0 hmc hl hb
 unfold Oper.wp execOp
 simp only [ho, resolve, invoke, builtin, Sem.run_bind, Sem.run_pure, Result.andThen_ok, List.map_toArray, List.map_cons, List.map_nil, hs, hx, hrun]
 exact hK _ _ (h v' w' h1 h2 h3)
theorem OwnS.neG {w : World} {base n m g : Nat} {v : Value} {X : Nat → Hd} {x : Nat → Nat} (h : OwnS w base v n X) (hb : RowG w g m x) : some g ≠ v.ownBlock := fun e => by
 rcases h with ⟨rfl, _⟩ | ⟨g', cap, cur, fr, rfl, _, hg, _⟩
 ·cases e
 ·simp [Value.ownBlock] at e
  subst e
  obtain ⟨cs, fr2, hb, _⟩ := hb
  rw [hb] at hg
  injection hg with hg
  injection hg with _ hg _
  exact absurd hg (by decide)
structure Cols (w : World) (base : Nat) (v : Value) (i n : Nat) (H : Nat → Hd) (R : Nat → Nat) (x : Nat → Nat → Nat) : Prop where
 own : OwnS w base v i H
 hd : ∀ j, j < i → ∃ c, H j = (some ⟨R j, 0, none⟩, n, c) ∧ n ≤ c ∧ c ≤ maxLen
 row : ∀ j, j < i → base ≤ R j ∧ RowG w (R j) n (x j)
 apart : ∀ j k, j < k → k < i → R j ≠ R k
section
variable {w w' : World} {base i n : Nat} {v : Value} {H : Nat → Hd} {R : Nat → Nat} {x : Nat → Nat → Nat}
end
end Go.Proofs.YtgbehfkimchglaaGreatDoor
namespace Go.Proofs.YtgbehfkimchglaaGreatDoor
open Go Go.RowKit
set_option maxRecDepth 100000
set_option linter.unusedVariables false
end Go.Proofs.YtgbehfkimchglaaGreatDoor
namespace Go.Proofs.YtgbehfkimchglaaGreatDoor
open Go Go.RowKit
set_option maxRecDepth 100000
set_option linter.unusedVariables false
section
variable {w w' : World} {base i n : Nat} {v : Value} {H : Nat → Hd} {R : Nat → Nat} {x : Nat → Nat → Nat}
end
set_option maxHeartbeats 800000 in
theorem make_cols (k cd B : Nat) (A : Option Addr) (ra : Nat → Option Addr) (rl rc : Nat → Nat) (x : Nat → Nat → Nat) (w : World) (hr : RdR w B A k ra rl rc x) (hB : B ≤ w.heap.size) (hk0 : 0 < k) (hk : k ≤ 13) (ha : Alike k rl) :
  Calls Tryz.prog 167 #[.slice A k cd] w fun e w' => ∃ v R, e = .returned (.tuple #[v, .int .i64 0]) ∧ Cols w' w.heap.size v 3 (rl 0) (fun i => (some ⟨R i, 0, none⟩, rl 0, rl 0)) R (fun i v => M.par k i x v) ∧ Below w.heap.size w w' := by
 have HA := Lib.hid ha
 have HR := Lib.hid hr
 have hz := build_field
 have t1 : ((k : Int) < 1) = False := by simp; omega
 have t2 : ((13 : Int) < (k : Int)) = False := by simp; omega
 clear hr ha
 go_enter Tryz.func167, Tryz.ntmps167
 go_wp2_with fail
 refine (alike_yes k cd B A ra rl rc x _ HR.out hk0 (by omega) HA.out).mono ?_
 rintro e w1 ⟨rfl, rfl⟩
 go_wp2_with fail
 have F1 : Fld (w.alloc (.cells (fcells 0 0 0) 284)) w.heap.size := .inl (Blk.new _ _ _)
 have B1 : Below w.heap.size w (w.alloc (.cells (fcells 0 0 0) 284)) := (Below.refl _ _).alloc (Nat.le_refl _) _
 refine (sums_any w.heap.size (rl 0) k cd B A ra rl rc x _ F1 (HR.out.below B1 hB) HA.out.2.2 hk0 (by omega) hB HA.out.2.1 (Nat.le_trans hB B1.size)).mono ?_
 rintro e w3 ⟨rfl, R, H3⟩
 have HS := Lib.hid H3
 have HB := Lib.hid (B1.trans (H3.only.below (Nat.le_refl _) B1.size))
 clear H3 F1 B1
 go_wp2_with fail
 go_ret2
 refine ⟨_, R, rfl, ?_, HB.out⟩
 have s1 : (w.alloc (.cells (fcells 0 0 0) 284)).heap.size = w.heap.size + 1 := by simp
 have hh := HS.out.head
 rw [s1] at hh
 refine ⟨.inr ⟨w.heap.size + 1, 3, _, (0, 0), rfl, by omega, hh, .inl (Nat.le_refl _), Nat.le_refl _, by simp [maxLen], by simp [hdP], fun j hj => ?_⟩, fun j hj => ⟨rl 0, rfl, Nat.le_refl _, ?_⟩, fun j hj => ?_, HS.out.apart⟩
 ·rw [hdP_get hj, if_pos hj]; rfl
 ·have := HA.out.2.1; unfold maxLen; omega
 ·obtain ⟨h1, h2⟩ := HS.out.row j hj
  rw [s1] at h1
  exact ⟨by omega, h2⟩
end Go.Proofs.YtgbehfkimchglaaGreatDoor
namespace Go.Proofs.YtgbehfkimchglaaGreatDoor
open Go Go.RowKit
set_option maxRecDepth 100000
set_option linter.unusedVariables false
def RdZ (w : World) (B : Nat) (A : Option Addr) (n : Nat) (x : Nat → Int) : Prop :=
 ∀ i, i < n → ∃ b o, A = some ⟨b, o, none⟩ ∧ b < B ∧ w.cell? ⟨b, o + i, none⟩ = some (.int .i64 (x i))
structure Left (w : World) (B : Nat) (v : Value) (m t q i : Nat) (b : Nat → Int) : Prop where
 sum : m = t + q
 row : ∃ A c, v = .slice A q c ∧ q ≤ c ∧ c ≤ maxLen ∧ RdZ w B A q (fun j => b (t + j))
 lo : ∀ j, j < t → b j < (i : Int)
 hi : ∀ j, t ≤ j → j < m → (i : Int) ≤ b j
section
variable {w : World} {B m t q i : Nat} {v : Value} {b : Nat → Int} {n : Int}
end
end Go.Proofs.YtgbehfkimchglaaGreatDoor
namespace Go.Proofs.YtgbehfkimchglaaGreatDoor
open Go Go.RowKit
set_option maxRecDepth 100000
set_option linter.unusedVariables false
def isB (m : Nat) (b : Nat → Int) (i : Nat) : Bool := (List.range m).any fun j => b j == (i : Int)
structure WholeAt (w0 w : World) (n k i : Nat) (X : Nat → Nat → Nat) : Prop where
 head : Blk w w0.heap.size 76 (hdP k n i (fun j => w0.heap.size + 1 + j))
 row : ∀ j, j < i → Blk w (w0.heap.size + 1 + j) 5 (rowArr n (X j))
 size : w.heap.size = w0.heap.size + 1 + i
 below : Below w0.heap.size w0 w
theorem rowArr_ext {n : Nat} {X Y : Nat → Nat} (h : ∀ v, v < n → X v = Y v) : rowArr n X = rowArr n Y := rowArr_congr h
theorem WholeAt.next {w0 W w2 : World} {z n k i : Nat} {X : Nat → Nat → Nat} {Y : Nat → Nat} (hz : w0.heap.size = z) (hd : Blk W z 76 (hdP k n (i + 1) (fun j => z + 1 + j))) (he : ∀ j, j < i → Blk W (z + 1 + j) 5 (rowArr n (X j)))
  (hs : W.heap.size = z + 1 + i + 1) (hb0 : Below z w0 W) (hb : Blk w2 (z + 1 + i) 5 (rowArr n Y)) (ho : Only (z + 1 + i) W w2) (hs2 : w2.heap.size = W.heap.size) (hY : ∀ v, v < n → Y v = X i v) : WholeAt w0 w2 n k (i + 1) X := by
 subst hz
 refine ⟨ho.blk hd (by omega), fun j hj => ?_, by omega, hb0.trans (ho.below (by omega) (by omega))⟩
 by_cases e : j = i
 ·subst e
  rw [← rowArr_ext hY]
  exact hb
 ·exact ho.blk (he j (by omega)) (by omega)
end Go.Proofs.YtgbehfkimchglaaGreatDoor
