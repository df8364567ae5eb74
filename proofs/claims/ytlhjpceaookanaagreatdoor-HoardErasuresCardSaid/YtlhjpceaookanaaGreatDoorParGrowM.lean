/-
  The call's own row of rows of bytes (made of XOwn8 by mkowns.py): what it holds, what 'append' makes of it. No conditions beyond those that each theorem types.
-/
import Derived.Test.YtlhjpceaookanaaGreatDoorOwn8
import Derived.Test.YtlhjpceaookanaaGreatDoorRackRotRowM
import Derived.Test.YtlhjpceaookanaaGreatDoorParKnownM
import Derived.Test.YtlhjpceaookanaaGreatDoorArrCallsM
namespace Go.Proofs.YtlhjpceaookanaaGreatDoor
open Go Go.RowKit Go.Lib
set_option maxRecDepth 100000
set_option linter.unusedVariables false

/-- a row's head: where, length, capacity -/
abbrev Hd := Option Addr × Nat × Nat
def hdV (h : Hd) : Value := .slice h.1 h.2.1 h.2.2
/-- n heads that lie below block B -/
def RdH (w : World) (B : Nat) (A : Option Addr) (n : Nat) (X : Nat → Hd) : Prop := ∀ i, i < n → ∃ b o, A = some ⟨b, o, none⟩ ∧ b < B ∧ w.cell? ⟨b, o + i, none⟩ = some (hdV (X i))
theorem infoS : (Tryz.prog.info? 36).map (fun i => (i.zero, i.size, i.bytes)) = some (some (.slice none 0 0), 1, 24) := by kernel_rfl
theorem sizeOf_bytes (w : World) : (sizeOf 36).run Tryz.prog w = .ok 1 w := by
  obtain ⟨i0, hi, hz0, hz1, hz2⟩ := info_parts infoS
  simp [sizeOf, typeInfo, hi, hz1]
def headsL (n : Nat) (X : Nat → Hd) : List Value := (List.range n).map fun j => hdV (X j)
theorem headsL_length (n : Nat) (X : Nat → Hd) : (headsL n X).length = n := by simp [headsL]
theorem headsL_get {n j : Nat} (X : Nat → Hd) (h : j < n) : (headsL n X)[j]? = some (hdV (X j)) := by simp [headsL, h]
theorem headsL_congr {n : Nat} {X Y : Nat → Hd} (h : ∀ j, j < n → X j = Y j) : headsL n X = headsL n Y := by
  unfold headsL
  apply List.map_congr_left
  intro j hj
  rw [h j (by simpa using hj)]
theorem headsL_mem {n : Nat} {X : Nat → Hd} : ∀ u ∈ headsL n X, u.oneCell' = true := fun u hu => by
  simp only [headsL, List.mem_map] at hu
  obtain ⟨j, _, rfl⟩ := hu
  rfl
/-- X, and Y behind -/
def catS (n : Nat) (X Y : Nat → Hd) (j : Nat) : Hd := if j < n then X j else Y (j - n)
theorem headsL_cat (n m : Nat) (X Y : Nat → Hd) : headsL n X ++ headsL m Y = headsL (n + m) (catS n X Y) := by
  apply List.ext_getElem?
  intro j
  by_cases h : j < n
  · rw [List.getElem?_append_left (by rw [headsL_length]; exact h), headsL_get X h, headsL_get _ (by omega)]
    unfold catS
    rw [if_pos h]
  · rw [List.getElem?_append_right (by rw [headsL_length]; omega), headsL_length]
    by_cases h2 : j < n + m
    · rw [headsL_get Y (by omega), headsL_get _ h2]
      unfold catS
      rw [if_neg h]
    · rw [List.getElem?_eq_none (by rw [headsL_length]; omega), List.getElem?_eq_none (by rw [headsL_length]; omega)]
/-- the call's own row of n bytes -/
def OwnS (w : World) (base : Nat) (v : Value) (n : Nat) (X : Nat → Hd) : Prop :=
  (v = .slice none 0 0 ∧ n = 0) ∨ ∃ g cap cur fr, v = .slice (some ⟨g, 0, none⟩) n cap ∧ base ≤ g ∧ w.heap[g]? = some (.cells cur 36 fr) ∧ freeTail fr cap ∧ n ≤ cap ∧ cap ≤ maxLen ∧ cur.size = cap ∧ ∀ j, j < n → cur[j]? = some (hdV (X j))
theorem OwnS.nil (w : World) (base : Nat) (X : Nat → Hd) : OwnS w base (.slice none 0 0) 0 X := .inl ⟨rfl, rfl⟩
theorem OwnS.shape {w : World} {base n : Nat} {v : Value} {X : Nat → Hd} (h : OwnS w base v n X) :
    ∃ A c, v = .slice A n c ∧ RdH w w.heap.size A n X ∧ n ≤ c ∧ c ≤ maxLen ∧ (∀ g o, A = some ⟨g, o, none⟩ → base ≤ g) ∧ (A = none → c = 0) := by
  rcases h with ⟨rfl, rfl⟩ | ⟨g, cap, cur, fr, rfl, hg, hb, h0, h1, h2, h3, h4⟩
  · exact ⟨none, 0, rfl, fun j hj => absurd hj (by omega), by omega, by simp [maxLen], fun g o e => (by cases e), fun _ => rfl⟩
  · exact ⟨_, _, rfl, fun j hj => ⟨g, 0, rfl, lt_of_heap hb, by rw [Nat.zero_add, cell_of_row _ _ _ _ _ _ hb]; exact h4 j hj⟩, h1, h2, fun g' o e => by injection e with e; injection e with e _; omega, fun e => (by cases e)⟩
theorem OwnS.congr {w : World} {base n : Nat} {v : Value} {X Y : Nat → Hd} (h : OwnS w base v n X) (e : ∀ j, j < n → X j = Y j) : OwnS w base v n Y := by
  rcases h with h | ⟨g, cap, cur, fr, rfl, hg, hb, h0, h1, h2, h3, h4⟩
  · exact .inl h
  · exact .inr ⟨g, cap, cur, fr, rfl, hg, hb, h0, h1, h2, h3, fun j hj => by rw [← e j hj]; exact h4 j hj⟩
theorem OwnS.keep {w w' : World} {base n : Nat} {v : Value} {X : Nat → Hd} (h : OwnS w base v n X) (hk : ∀ g, v.ownBlock = some g → w'.heap[g]? = w.heap[g]?) : OwnS w' base v n X := by
  rcases h with h | ⟨g, cap, cur, fr, rfl, hg, hb, h3⟩
  · exact .inl h
  · exact .inr ⟨g, cap, cur, fr, rfl, hg, (hk g rfl).trans hb, h3⟩
theorem OwnS.lt {w : World} {base n g : Nat} {v : Value} {X : Nat → Hd} (h : OwnS w base v n X) (hg : v.ownBlock = some g) : g < w.heap.size ∧ base ≤ g := by
  rcases h with ⟨rfl, _⟩ | ⟨g', cap, cur, fr, rfl, hb, hblk, _⟩
  · simp [Value.ownBlock] at hg
  · simp [Value.ownBlock] at hg
    subst hg
    exact ⟨lt_of_heap hblk, hb⟩
theorem OwnS.below {w w' : World} {base n B : Nat} {v : Value} {X : Nat → Hd} (h : OwnS w base v n X) (hk : Below B w w') (hB : w.heap.size ≤ B) : OwnS w' base v n X :=
  h.keep fun g hg => hk.block g (by have := (h.lt hg).1; omega)
theorem OwnS.base {w : World} {base base' n : Nat} {v : Value} {X : Nat → Hd} (h : OwnS w base v n X) (hb : base' ≤ base) : OwnS w base' v n X := by
  rcases h with h | ⟨g, cap, cur, fr, rfl, hg, h3⟩
  · exact .inl h
  · exact .inr ⟨g, cap, cur, fr, rfl, Nat.le_trans hb hg, h3⟩
theorem headsL_zero (Y : Nat → Hd) : headsL 0 Y = [] := rfl
theorem grow_rowS {w : World} {n m cap : Nat} {olds : List Value} {X Y : Nat → Hd} (ho : olds = headsL n X) (hl : n + m ≤ 100000) :
    OwnS (w.drew.alloc (.cells (olds.toArray ++ (headsL m Y).toArray ++ Builtin.zeroCells (Value.slice none 0 0).cells (grownCap w (n + m) cap 36 - (n + m))) 36)) w.heap.size (.slice (some ⟨w.heap.size, 0, none⟩) (n + m) (grownCap w (n + m) cap 36)) (n + m) (catS n X Y) := by
  have hge := grownCap_ge w (n + m) cap 36
  have hcm : grownCap w (n + m) cap 36 ≤ maxLen := grownCap_le_maxLen w (n + m) cap 36 (by simp only [maxLen]; omega)
  refine .inr ⟨w.heap.size, _, _, (0, 0), rfl, Nat.le_refl _, heap_alloc_new w.drew _, .inl (Nat.le_refl _), hge, hcm, ?_, fun j hj => ?_⟩
  · have hz1 : (Value.slice none 0 0).cells.size = 1 := rfl
    simp only [Array.size_append, List.size_toArray, size_zeroCells, hz1, ho, headsL_length]
    omega
  · have h1 := headsL_cat n m X Y
    have h2 := headsL_get (catS n X Y) hj
    rw [← h1, ← ho] at h2
    rw [Array.getElem?_append_left (by simp [ho, headsL_length]; omega)]
    simpa using h2
theorem put_rowS {cur cur' : Array Value} {n m : Nat} {X Y : Nat → Hd} (h4 : ∀ j, j < n → cur[j]? = some (hdV (X j))) (e : ∀ j, cur'[j]? = if n + 0 ≤ j ∧ j < n + 0 + (headsL m Y).length then (headsL m Y)[j - (n + 0)]? else cur[j]?) :
    ∀ j, j < n + m → cur'[j]? = some (hdV (catS n X Y j)) := fun j hj => by
  rw [e, headsL_length, Nat.add_zero]
  unfold catS
  by_cases h : j < n
  · rw [if_neg (by omega), if_pos h]
    exact h4 j h
  · rw [if_pos ⟨by omega, hj⟩, if_neg h]
    exact headsL_get Y (by omega)
theorem run_append_hd {w : World} {base n B m c : Nat} {v : Value} {A : Option Addr} {X Y : Nat → Hd} (ty : TypeId) (h : OwnS w base v n X) (hy : RdH w B A m Y) (h0 : A = none → c = 0) (hmc : m ≤ c) (hl : n + m ≤ 100000) (hb : base ≤ w.heap.size) :
    ∃ v' w', (Builtin.append_ #[77, 77] ty #[v, .slice A m c]).run Tryz.prog w = .ok v' w' ∧ OwnS w' base v' (n + m) (catS n X Y) ∧ w.grownBy w' v.ownBlock ∧ (v'.ownBlock = v.ownBlock ∨ v'.ownBlock = some w.heap.size) := by
  obtain ⟨i0, hi, hz0, hz1, hz2⟩ := info_parts infoS
  have hsz : ∀ w', (sizeOf 36).run Tryz.prog w' = .ok 1 w' := sizeOf_bytes
  have hne : ∀ m', m = m' + 1 → ∃ ad, A = some ad := fun m' e => by obtain ⟨b, o, e2, _⟩ := hy 0 (by omega); exact ⟨_, e2⟩
  have hnews : ∀ ad, A = some ad → ∀ j u, (headsL m Y)[j]? = some u → w.cell? (ad.add j) = some u := fun ad e j u hj => by
    have hjm : j < m := by have := (List.getElem?_eq_some_iff.1 hj).1; rw [headsL_length] at this; exact this
    rw [headsL_get Y hjm] at hj
    injection hj with hj
    subst hj
    obtain ⟨b, o, h1, h2, h3⟩ := hy j hjm
    rw [e] at h1
    injection h1 with h1
    subst h1
    rw [add_plain]
    exact h3
  have hfc : (Builtin.firstCells 1 m (.slice A m c)).run Tryz.prog w = .ok (headsL m Y).toArray w := by
    cases A with
    | none =>
      have hm : m = 0 := by have := h0 rfl; omega
      subst hm
      exact run_firstCells_none w 1 0 0 c
    | some ad => exact run_firstCells_some (P := Tryz.prog) w 1 m ad m c (headsL m Y) (by rw [headsL_length, Nat.mul_one]) (hnews ad rfl)
  rcases h with ⟨rfl, rfl⟩ | ⟨g, cap, cur, fr, rfl, hg, hblk, hfr, h1, h2, h3, h4⟩
  · by_cases hm : m = 0
    · subst hm
      refine ⟨.slice none 0 0, w, ?_, .inl ⟨rfl, rfl⟩, World.grownBy.refl w _, .inl rfl⟩
      simp [Builtin.append_, run_underlying Tryz.underlying77, hsz, Builtin.lenOf, hfc]
    · obtain ⟨ad, rfl⟩ := hne (m - 1) (by omega)
      have hr := run_append_nil (P := Tryz.prog) w 77 ty 36 i0 (.slice none 0 0) Tryz.underlying77 hi hz0 ad m c (headsL m Y) (by rw [headsL_length, hz1, Nat.mul_one]) (hnews ad rfl) (by omega) (by omega) (by rw [hz2]; omega)
      have hgr := grow_rowS (w := w) (n := 0) (m := m) (cap := 0) (olds := []) (X := X) (Y := Y) rfl (by omega)
      simp only [Nat.zero_add] at hgr hr ⊢
      rw [show (([] : List Value).toArray ++ (headsL m Y).toArray) = (headsL m Y).toArray by simp] at hgr
      exact ⟨_, _, hr, hgr.base hb, ⟨rfl, rfl, rfl, by simp, fun k hk _ => Below.heap_alloc w.drew _ k hk⟩, .inr rfl⟩
  · by_cases hroom : n + m ≤ cap
    · obtain ⟨w', cur', e1, e2, e3, e4, e5, e6⟩ := store_run g n 36 fr (headsL m Y) 0 cur w hblk (by rw [h3]; exact hfr) (by rw [headsL_length]; omega) headsL_mem
      refine ⟨.slice (some ⟨g, 0, none⟩) (n + m) cap, w', ?_, .inr ⟨g, cap, cur', fr, rfl, hg, e2, hfr, hroom, h2, by omega, put_rowS h4 e4⟩, e5, .inl rfl⟩
      simp [Builtin.append_, run_underlying Tryz.underlying77, hsz, Builtin.lenOf, hroom, hfc, Addr.add_lit, e1]
    · obtain ⟨ad, rfl⟩ := hne (m - 1) (by omega)
      have holds : ∀ j u, (headsL n X)[j]? = some u → w.cell? ((⟨g, 0, none⟩ : Addr).add j) = some u := fun j u hj => by
        have hjn : j < n := by have := (List.getElem?_eq_some_iff.1 hj).1; rw [headsL_length] at this; exact this
        rw [headsL_get X hjn] at hj
        injection hj with hj
        subst hj
        rw [add_plain, Nat.zero_add, cell_of_row _ _ _ _ _ _ hblk]
        exact h4 j hjn
      have hr := run_append_grow (P := Tryz.prog) w 77 ty 36 i0 (.slice none 0 0) Tryz.underlying77 hi hz0 ⟨g, 0, none⟩ n cap (headsL n X) (by rw [headsL_length, hz1, Nat.mul_one]) holds ad m c (headsL m Y) (by rw [headsL_length, hz1, Nat.mul_one]) (hnews ad rfl) (by omega) (by omega) (by rw [hz2]; exact growslice_fits (by omega) (by omega))
      exact ⟨_, _, hr, (grow_rowS (w := w) (cap := cap) (Y := Y) rfl hl).base hb, ⟨rfl, rfl, rfl, by simp, fun k hk _ => Below.heap_alloc w.drew _ k hk⟩, .inr rfl⟩
end Go.Proofs.YtlhjpceaookanaaGreatDoor
namespace Go.Proofs.YtlhjpceaookanaaGreatDoor
open Go Go.RowKit
set_option maxRecDepth 100000
set_option linter.unusedVariables false

section
variable {P : Program} {md : Region.Mode} {ops : Array Oper} {Q : Exit → Act → World → Prop} {S : World → Prop} {z : Nat}
/-- one of two may come up -/
theorem AnyZ.two {i j n : Nat} {listed : Array Bool} {a : Act} {w : World} (hr : Region.ready md ops listed = [i, j])
    (h1 : wpOp P ops Q i (fun a' w' => (i ≠ z → S w') ∧ AnyZ P md ops Q S z n (listed.setIfInBounds i true) a' w') a w)
    (h2 : wpOp P ops Q j (fun a' w' => (j ≠ z → S w') ∧ AnyZ P md ops Q S z n (listed.setIfInBounds j true) a' w') a w) : AnyZ P md ops Q S z (n + 1) listed a w :=
  ⟨fun h0 => (by rw [hr] at h0; cases h0), fun k hk => by
    rw [hr] at hk
    simp at hk
    rcases hk with rfl | rfl
    · exact h1
    · exact h2⟩
def putO (d : Tmp) (a : Act) : Option Value → Act
  | none => a
  | some v => a.put (some d) v
def setO (i : Nat) (l : Array Bool) (b : Bool) : Array Bool := if b then l.setIfInBounds i true else l
theorem putO_comm {d e : Tmp} (h : d ≠ e) (a : Act) (x y : Option Value) : putO e (putO d a x) y = putO d (putO e a y) x := by
  cases x <;> cases y <;> try rfl
  rename_i v u
  show { a with tmps := (a.tmps.setIfInBounds d v).setIfInBounds e u } = { a with tmps := (a.tmps.setIfInBounds e u).setIfInBounds d v }
  rw [Array.setIfInBounds_comm _ _ h]
theorem setO_comm {i j : Nat} (h : i ≠ j) (l : Array Bool) (b c : Bool) : setO j (setO i l b) c = setO i (setO j l c) b := by
  cases b <;> cases c <;> try rfl
  exact Array.setIfInBounds_comm _ _ h
def fr (d1 d2 e1 e2 : Tmp) (a : Act) (x1 x2 y1 y2 : Option Value) : Act := putO e2 (putO e1 (putO d2 (putO d1 a x1) x2) y1) y2
def ls (i1 i2 j1 j2 : Nat) (l : Array Bool) (b1 b2 c1 c2 : Bool) : Array Bool := setO j2 (setO j1 (setO i2 (setO i1 l b1) b2) c1) c2

theorem diamond {d1 d2 e1 e2 : Tmp} {i1 i2 j1 j2 n : Nat} {op1 op2 oq1 oq2 : Op} {listed : Array Bool} {a : Act} {w : World} (Φ : Option Value → Option Value → Option Value → Option Value → World → Prop)
    (ho1 : isOp ops i1 = some (op1, some d1, none)) (ho2 : isOp ops i2 = some (op2, some d2, none)) (hq1 : isOp ops j1 = some (oq1, some e1, none)) (hq2 : isOp ops j2 = some (oq2, some e2, none))
    (hd : decide (d1 ≠ d2 ∧ d1 ≠ e1 ∧ d1 ≠ e2 ∧ d2 ≠ e1 ∧ d2 ≠ e2 ∧ e1 ≠ e2) = true) (hi : decide (i1 ≠ i2 ∧ i1 ≠ j1 ∧ i1 ≠ j2 ∧ i2 ≠ j1 ∧ i2 ≠ j2 ∧ j1 ≠ j2) = true)
    (r0 : Region.ready md ops (ls i1 i2 j1 j2 listed false false false false) = [i1, j1]) (r1 : Region.ready md ops (ls i1 i2 j1 j2 listed true false false false) = [i2, j1]) (r2 : Region.ready md ops (ls i1 i2 j1 j2 listed false false true false) = [i1, j2])
    (r3 : Region.ready md ops (ls i1 i2 j1 j2 listed true true false false) = [j1]) (r4 : Region.ready md ops (ls i1 i2 j1 j2 listed true false true false) = [i2, j2]) (r5 : Region.ready md ops (ls i1 i2 j1 j2 listed false false true true) = [i1])
    (r6 : Region.ready md ops (ls i1 i2 j1 j2 listed true true true false) = [j2]) (r7 : Region.ready md ops (ls i1 i2 j1 j2 listed true false true true) = [i2])
    (hS : ∀ x1 x2 y1 y2 w, Φ x1 x2 y1 y2 w → S w)
    (s1 : ∀ y1 y2 w (K : Act → World → Prop), Φ none none y1 y2 w → (∀ v w', Φ (some v) none y1 y2 w' → K ((fr d1 d2 e1 e2 a none none y1 y2).put (some d1) v) w') → ∀ o : Oper, o.op = op1 → o.dst = some d1 → o.wp P (fr d1 d2 e1 e2 a none none y1 y2) w K Q)
    (s2 : ∀ v y1 y2 w (K : Act → World → Prop), Φ (some v) none y1 y2 w → (∀ u w', Φ (some v) (some u) y1 y2 w' → K ((fr d1 d2 e1 e2 a (some v) none y1 y2).put (some d2) u) w') → ∀ o : Oper, o.op = op2 → o.dst = some d2 → o.wp P (fr d1 d2 e1 e2 a (some v) none y1 y2) w K Q)
    (t1 : ∀ x1 x2 w (K : Act → World → Prop), Φ x1 x2 none none w → (∀ v w', Φ x1 x2 (some v) none w' → K ((fr d1 d2 e1 e2 a x1 x2 none none).put (some e1) v) w') → ∀ o : Oper, o.op = oq1 → o.dst = some e1 → o.wp P (fr d1 d2 e1 e2 a x1 x2 none none) w K Q)
    (t2 : ∀ v x1 x2 w (K : Act → World → Prop), Φ x1 x2 (some v) none w → (∀ u w', Φ x1 x2 (some v) (some u) w' → K ((fr d1 d2 e1 e2 a x1 x2 (some v) none).put (some e2) u) w') → ∀ o : Oper, o.op = oq2 → o.dst = some e2 → o.wp P (fr d1 d2 e1 e2 a x1 x2 (some v) none) w K Q)
    (h0 : Φ none none none none w)
    (tail : ∀ v u v' u' w, Φ (some v) (some u) (some v') (some u') w → AnyZ P md ops Q S z n (ls i1 i2 j1 j2 listed true true true true) (fr d1 d2 e1 e2 a (some v) (some u) (some v') (some u')) w) :
    AnyZ P md ops Q S z (n + 1 + 1 + 1 + 1) listed a w := by
  obtain ⟨a1, a2, a3, a4, a5, a6⟩ := of_decide_eq_true hd
  obtain ⟨b1, b2, b3, b4, b5, b6⟩ := of_decide_eq_true hi
  -- the frame and the list, whatever comes first
  have F1 : ∀ y1 y2 v, (fr d1 d2 e1 e2 a none none y1 y2).put (some d1) v = fr d1 d2 e1 e2 a (some v) none y1 y2 := fun y1 y2 v => by
    show putO d1 (putO e2 (putO e1 a y1) y2) (some v) = putO e2 (putO e1 (putO d1 a (some v)) y1) y2
    rw [putO_comm a3.symm, putO_comm a2.symm]
  have F2 : ∀ x1 y1 y2 v, (fr d1 d2 e1 e2 a x1 none y1 y2).put (some d2) v = fr d1 d2 e1 e2 a x1 (some v) y1 y2 := fun x1 y1 y2 v => by
    show putO d2 (putO e2 (putO e1 (putO d1 a x1) y1) y2) (some v) = putO e2 (putO e1 (putO d2 (putO d1 a x1) (some v)) y1) y2
    rw [putO_comm a5.symm, putO_comm a4.symm]
  have F3 : ∀ x1 x2 v, (fr d1 d2 e1 e2 a x1 x2 none none).put (some e1) v = fr d1 d2 e1 e2 a x1 x2 (some v) none := fun _ _ _ => rfl
  have F4 : ∀ x1 x2 y1 v, (fr d1 d2 e1 e2 a x1 x2 y1 none).put (some e2) v = fr d1 d2 e1 e2 a x1 x2 y1 (some v) := fun _ _ _ _ => rfl
  have L1 : ∀ c1 c2, (ls i1 i2 j1 j2 listed false false c1 c2).setIfInBounds i1 true = ls i1 i2 j1 j2 listed true false c1 c2 := fun c1 c2 => by
    show setO i1 (setO j2 (setO j1 listed c1) c2) true = setO j2 (setO j1 (setO i1 listed true) c1) c2
    rw [setO_comm b3.symm, setO_comm b2.symm]
  have L2 : ∀ b c1 c2, (ls i1 i2 j1 j2 listed b false c1 c2).setIfInBounds i2 true = ls i1 i2 j1 j2 listed b true c1 c2 := fun b c1 c2 => by
    show setO i2 (setO j2 (setO j1 (setO i1 listed b) c1) c2) true = setO j2 (setO j1 (setO i2 (setO i1 listed b) true) c1) c2
    rw [setO_comm b5.symm, setO_comm b4.symm]
  have L3 : ∀ b c, (ls i1 i2 j1 j2 listed b c false false).setIfInBounds j1 true = ls i1 i2 j1 j2 listed b c true false := fun _ _ => rfl
  have L4 : ∀ b c d, (ls i1 i2 j1 j2 listed b c d false).setIfInBounds j2 true = ls i1 i2 j1 j2 listed b c d true := fun _ _ _ => rfl
  have W1 : ∀ {m c1 c2 y1 y2 w}, Φ none none y1 y2 w → (∀ v w', Φ (some v) none y1 y2 w' → AnyZ P md ops Q S z m (ls i1 i2 j1 j2 listed true false c1 c2) (fr d1 d2 e1 e2 a (some v) none y1 y2) w') →
      wpOp P ops Q i1 (fun a' w' => (i1 ≠ z → S w') ∧ AnyZ P md ops Q S z m ((ls i1 i2 j1 j2 listed false false c1 c2).setIfInBounds i1 true) a' w') (fr d1 d2 e1 e2 a none none y1 y2) w := fun {m c1 c2 y1 y2 w} hp hk => by
    obtain ⟨o, h1, h2, h3, h4⟩ := isOp_spec ho1
    refine wpOp_op h1 h4 (s1 y1 y2 w _ hp (fun v w' hv => ?_) o h2 h3)
    rw [F1, L1]
    exact ⟨fun _ => hS _ _ _ _ _ hv, hk v w' hv⟩
  have W2 : ∀ {m c1 c2 v y1 y2 w}, Φ (some v) none y1 y2 w → (∀ u w', Φ (some v) (some u) y1 y2 w' → AnyZ P md ops Q S z m (ls i1 i2 j1 j2 listed true true c1 c2) (fr d1 d2 e1 e2 a (some v) (some u) y1 y2) w') →
      wpOp P ops Q i2 (fun a' w' => (i2 ≠ z → S w') ∧ AnyZ P md ops Q S z m ((ls i1 i2 j1 j2 listed true false c1 c2).setIfInBounds i2 true) a' w') (fr d1 d2 e1 e2 a (some v) none y1 y2) w := fun {m c1 c2 v y1 y2 w} hp hk => by
    obtain ⟨o, h1, h2, h3, h4⟩ := isOp_spec ho2
    refine wpOp_op h1 h4 (s2 v y1 y2 w _ hp (fun u w' hv => ?_) o h2 h3)
    rw [F2, L2]
    exact ⟨fun _ => hS _ _ _ _ _ hv, hk u w' hv⟩
  have W3 : ∀ {m b c x1 x2 w}, Φ x1 x2 none none w → (∀ v w', Φ x1 x2 (some v) none w' → AnyZ P md ops Q S z m (ls i1 i2 j1 j2 listed b c true false) (fr d1 d2 e1 e2 a x1 x2 (some v) none) w') →
      wpOp P ops Q j1 (fun a' w' => (j1 ≠ z → S w') ∧ AnyZ P md ops Q S z m ((ls i1 i2 j1 j2 listed b c false false).setIfInBounds j1 true) a' w') (fr d1 d2 e1 e2 a x1 x2 none none) w := fun {m b c x1 x2 w} hp hk => by
    obtain ⟨o, h1, h2, h3, h4⟩ := isOp_spec hq1
    refine wpOp_op h1 h4 (t1 x1 x2 w _ hp (fun v w' hv => ?_) o h2 h3)
    rw [F3, L3]
    exact ⟨fun _ => hS _ _ _ _ _ hv, hk v w' hv⟩
  have W4 : ∀ {m b c v x1 x2 w}, Φ x1 x2 (some v) none w → (∀ u w', Φ x1 x2 (some v) (some u) w' → AnyZ P md ops Q S z m (ls i1 i2 j1 j2 listed b c true true) (fr d1 d2 e1 e2 a x1 x2 (some v) (some u)) w') →
      wpOp P ops Q j2 (fun a' w' => (j2 ≠ z → S w') ∧ AnyZ P md ops Q S z m ((ls i1 i2 j1 j2 listed b c true false).setIfInBounds j2 true) a' w') (fr d1 d2 e1 e2 a x1 x2 (some v) none) w := fun {m b c v x1 x2 w} hp hk => by
    obtain ⟨o, h1, h2, h3, h4⟩ := isOp_spec hq2
    refine wpOp_op h1 h4 (t2 v x1 x2 w _ hp (fun u w' hv => ?_) o h2 h3)
    rw [F4, L4]
    exact ⟨fun _ => hS _ _ _ _ _ hv, hk u w' hv⟩
  have g3a : ∀ v u v' w, Φ (some v) (some u) (some v') none w → AnyZ P md ops Q S z (n + 1) (ls i1 i2 j1 j2 listed true true true false) (fr d1 d2 e1 e2 a (some v) (some u) (some v') none) w :=
    fun v u v' w hp => AnyZ.one r6 (W4 hp fun u' w' h => tail v u v' u' w' h)
  have g3b : ∀ v v' u' w, Φ (some v) none (some v') (some u') w → AnyZ P md ops Q S z (n + 1) (ls i1 i2 j1 j2 listed true false true true) (fr d1 d2 e1 e2 a (some v) none (some v') (some u')) w :=
    fun v v' u' w hp => AnyZ.one r7 (W2 hp fun u w' h => tail v u v' u' w' h)
  have g2a : ∀ v u w, Φ (some v) (some u) none none w → AnyZ P md ops Q S z (n + 1 + 1) (ls i1 i2 j1 j2 listed true true false false) (fr d1 d2 e1 e2 a (some v) (some u) none none) w :=
    fun v u w hp => AnyZ.one r3 (W3 hp fun v' w' h => g3a v u v' w' h)
  have g2b : ∀ v v' w, Φ (some v) none (some v') none w → AnyZ P md ops Q S z (n + 1 + 1) (ls i1 i2 j1 j2 listed true false true false) (fr d1 d2 e1 e2 a (some v) none (some v') none) w :=
    fun v v' w hp => AnyZ.two r4 (W2 hp fun u w' h => g3a v u v' w' h) (W4 hp fun u' w' h => g3b v v' u' w' h)
  have g2c : ∀ v' u' w, Φ none none (some v') (some u') w → AnyZ P md ops Q S z (n + 1 + 1) (ls i1 i2 j1 j2 listed false false true true) (fr d1 d2 e1 e2 a none none (some v') (some u')) w :=
    fun v' u' w hp => AnyZ.one r5 (W1 hp fun v w' h => g3b v v' u' w' h)
  have g1a : ∀ v w, Φ (some v) none none none w → AnyZ P md ops Q S z (n + 1 + 1 + 1) (ls i1 i2 j1 j2 listed true false false false) (fr d1 d2 e1 e2 a (some v) none none none) w :=
    fun v w hp => AnyZ.two r1 (W2 hp fun u w' h => g2a v u w' h) (W3 hp fun v' w' h => g2b v v' w' h)
  have g1b : ∀ v' w, Φ none none (some v') none w → AnyZ P md ops Q S z (n + 1 + 1 + 1) (ls i1 i2 j1 j2 listed false false true false) (fr d1 d2 e1 e2 a none none (some v') none) w :=
    fun v' w hp => AnyZ.two r2 (W1 hp fun v w' h => g2b v v' w' h) (W4 hp fun u' w' h => g2c v' u' w' h)
  exact AnyZ.two (listed := ls i1 i2 j1 j2 listed false false false false) (a := fr d1 d2 e1 e2 a none none none none) r0 (W1 h0 fun v w' h => g1a v w' h) (W3 h0 fun v' w' h => g1b v' w' h)
end
end Go.Proofs.YtlhjpceaookanaaGreatDoor
namespace Go.Proofs.YtlhjpceaookanaaGreatDoor
open Go Go.RowKit
set_option maxRecDepth 100000
set_option linter.unusedVariables false

theorem exec_build0 {P : Program} {w w' : World} {o : Oper} {a : Act} {ty : TypeId} {v : Value} (ho : o.op = .buildSlice ty 0 #[]) (hl : (Instr.buildSlice ty 0 #[]).run P w = .ok v w') : (execOp a.eval o).run P w = .ok (.value v) w' := by
  unfold execOp
  simp only [ho, List.map_toArray, List.map_nil, hl, Sem.run_bind, Sem.run_pure, Result.andThen_ok]
theorem bs_rows0 (w : World) : (Instr.buildSlice 77 0 #[]).run Tryz.prog w = .ok (.slice (some ⟨w.heap.size, 0, none⟩) 0 0) (w.alloc (.cells #[] 36)) := by kernel_rfl
theorem bs_rows1 (A : Option Addr) (n c : Nat) (w : World) : (Instr.buildSlice 77 1 #[(0, .slice A n c)]).run Tryz.prog w = .ok (.slice (some ⟨w.heap.size, 0, none⟩) 1 1) (w.alloc (.cells #[.slice A n c] 36)) := by kernel_rfl
theorem own_one {w : World} {base : Nat} (A : Option Addr) (n c : Nat) (hb : base ≤ w.heap.size) : OwnS (w.alloc (.cells #[.slice A n c] 36)) base (.slice (some ⟨w.heap.size, 0, none⟩) 1 1) 1 (fun _ => (A, n, c)) :=
  .inr ⟨w.heap.size, 1, #[.slice A n c], (0, 0), rfl, hb, Blk.new w _ _, .inl (Nat.le_refl _), Nat.le_refl _, by simp [maxLen], rfl, fun j hj => by
    obtain rfl : j = 0 := by omega
    rfl⟩
/-- appended to an empty literal -/
theorem run_append_empty {w : World} {B m c g0 : Nat} {A : Option Addr} {Y : Nat → Hd} (ty : TypeId) (hy : RdH w B A m Y) (hm0 : 0 < m) (hmc : m ≤ c) (hl : m ≤ 100000) :
    ∃ v' w', (Builtin.append_ #[77, 77] ty #[.slice (some ⟨g0, 0, none⟩) 0 0, .slice A m c]).run Tryz.prog w = .ok v' w' ∧ OwnS w' w.heap.size v' m Y ∧ Below w.heap.size w w' := by
  obtain ⟨i0, hi, hz0, hz1, hz2⟩ := info_parts infoS
  obtain ⟨b, o, rfl, _⟩ := hy 0 hm0
  have hnews : ∀ j u, (headsL m Y)[j]? = some u → w.cell? ((⟨b, o, none⟩ : Addr).add j) = some u := fun j u hj => by
    have hjm : j < m := by have := (List.getElem?_eq_some_iff.1 hj).1; rw [headsL_length] at this; exact this
    rw [headsL_get Y hjm] at hj
    injection hj with hj
    subst hj
    obtain ⟨b', o', h1, h2, h3⟩ := hy j hjm
    injection h1 with h1
    injection h1 with h1 h1'
    subst h1; subst h1'
    rw [add_plain]
    exact h3
  have hr := run_append_grow (P := Tryz.prog) w 77 ty 36 i0 (.slice none 0 0) Tryz.underlying77 hi hz0 ⟨g0, 0, none⟩ 0 0 [] (by rw [hz1]; rfl) (fun j u h => by simp at h) ⟨b, o, none⟩ m c (headsL m Y) (by rw [headsL_length, hz1, Nat.mul_one]) hnews (by omega) (by omega) (by rw [hz2]; exact growslice_fits (by omega) (by omega))
  have hg := grow_rowS (w := w) (n := 0) (m := m) (cap := 0) (olds := []) (X := Y) (Y := Y) rfl (by omega)
  simp only [Nat.zero_add] at hg hr
  refine ⟨_, _, hr, hg.congr fun j hj => ?_, ⟨rfl, rfl, rfl, by simp, fun k hk => Below.heap_alloc w.drew _ k hk⟩⟩
  unfold catS
  rw [if_neg (by omega), Nat.sub_zero]
theorem wp_append_empty {w : World} {o : Oper} {a : Act} {K : Act → World → Prop} {Q : Exit → Act → World → Prop} (s x : Operand)
    (ho : o.op = .call { callee := .builtin .append, args := #[s, x], argTypes := #[77, 77] }) {B m c g0 : Nat} {A : Option Addr} {Y : Nat → Hd} (hs : a.eval s = .slice (some ⟨g0, 0, none⟩) 0 0) (hx : a.eval x = .slice A m c)
    (hy : RdH w B A m Y) (hm0 : 0 < m) (hmc : m ≤ c) (hl : m ≤ 100000)
    (h : ∀ v' w', OwnS w' w.heap.size v' m Y → Below w.heap.size w w' → K (a.put o.dst v') w') : o.wp Tryz.prog a w K Q := by
  obtain ⟨v', w', hrun, h1, h2⟩ := run_append_empty o.type hy hm0 hmc hl
  unfold Oper.wp execOp
  simp only [ho, resolve, invoke, builtin, Sem.run_bind, Sem.run_pure, Result.andThen_ok, List.map_toArray, List.map_cons, List.map_nil, hs, hx]
  rw [hrun]
  exact h v' w' h1 h2
theorem wp_append_hd {w : World} {o : Oper} {a : Act} {K : Act → World → Prop} {Q : Exit → Act → World → Prop} (s x : Operand)
    (ho : o.op = .call { callee := .builtin .append, args := #[s, x], argTypes := #[77, 77] }) {base n B m c : Nat} {v : Value} {A : Option Addr} {X Y : Nat → Hd} (hs : a.eval s = v) (hx : a.eval x = .slice A m c)
    (hown : OwnS w base v n X) (hy : RdH w B A m Y) (h0 : A = none → c = 0) (hmc : m ≤ c) (hl : n + m ≤ 100000) (hb : base ≤ w.heap.size)
    (h : ∀ v' w', OwnS w' base v' (n + m) (catS n X Y) → w.grownBy w' v.ownBlock → K (a.put o.dst v') w') : o.wp Tryz.prog a w K Q := by
  obtain ⟨v', w', hrun, h1, h2, h3⟩ := run_append_hd o.type hown hy h0 hmc hl hb
  unfold Oper.wp execOp
  simp only [ho, resolve, invoke, builtin, Sem.run_bind, Sem.run_pure, Result.andThen_ok, List.map_toArray, List.map_cons, List.map_nil, hs, hx, hrun]
  exact h v' w' h1 h2
theorem OwnS.ne_ {w : World} {base n g : Nat} {v : Value} {X : Nat → Hd} {cs : Array Value} (h : OwnS w base v n X) (hb : Blk w g 5 cs) : some g ≠ v.ownBlock := fun e => by
  rcases h with ⟨rfl, _⟩ | ⟨g', cap, cur, fr, rfl, _, hg, _⟩
  · cases e
  · simp [Value.ownBlock] at e
    subst e
    unfold Blk at hb
    rw [hb] at hg
    injection hg with hg
    injection hg with _ hg _
    exact absurd hg (by decide)

/-- where the region stands, whatever came first -/
structure Phi (w3 : World) (Z n k : Nat) (HD : Nat → Hd) (x1 x2 y1 y2 : Option Value) (W : World) : Prop where
  below : Below Z w3 W
  room : Z ≤ W.heap.size
  e30 : ∀ v, x1 = some v → ∃ g0, v = .slice (some ⟨g0, 0, none⟩) 0 0
  e32 : ∀ v, x2 = some v → OwnS W Z v k HD
  e37 : ∀ v, y1 = some v → ∃ g, v = .slice (some ⟨g, 0, none⟩) n n ∧ Z ≤ g ∧ Blk W g 5 (rowArr n fun _ => 0)
  e38 : ∀ v, y2 = some v → ∃ g, y1 = some (.slice (some ⟨g, 0, none⟩) n n) ∧ OwnS W Z v 1 (fun _ => (some ⟨g, 0, none⟩, n, n))
theorem Phi.mono {w3 W W' : World} {Z n k : Nat} {HD : Nat → Hd} {x1 x2 y1 y2 : Option Value} (h : Phi w3 Z n k HD x1 x2 y1 y2 W) (hb : Below W.heap.size W W') : Phi w3 Z n k HD x1 x2 y1 y2 W' := by
  refine ⟨h.below.trans (hb.mono h.room), Nat.le_trans h.room hb.size, h.e30, fun v e => (h.e32 v e).below hb (Nat.le_refl _), fun v e => ?_, fun v e => ?_⟩
  · obtain ⟨g, h1, h2, h3⟩ := h.e37 v e
    exact ⟨g, h1, h2, h3.below hb h3.lt⟩
  · obtain ⟨g, h1, h2⟩ := h.e38 v e
    exact ⟨g, h1, h2.below hb (Nat.le_refl _)⟩

theorem RdB.mono {w : World} {B B' n : Nat} {A : Option Addr} {x : Nat → Nat} (h : RdB w B A n x) (hB : B ≤ B') : RdB w B' A n x := fun j hj => by
  obtain ⟨b, o, h1, h2, h3, h4⟩ := h j hj
  exact ⟨b, o, h1, by omega, h3, h4⟩
theorem own_rowS {a w w' : World} {base n : Nat} {v : Value} {X : Nat → Hd} (h : Below base a w) (ho : OwnS w base v n X) (hg : w.grownBy w' v.ownBlock) (hs : base ≤ w.heap.size) : Below base a w' :=
  ⟨hg.os.trans h.os, hg.tape.trans h.tape, hg.output.trans h.output, Nat.le_trans h.size hg.size, fun i hi => (hg.block i (by omega) (fun e => by have := (ho.lt e.symm).2; omega)).trans (h.block i hi)⟩
theorem exec_extract {P : Program} {a : Act} {o : Oper} {x : Operand} {k : Nat} {vs : Array Value} {v : Value} (w : World) (e : o.op = .extract x k) (hx : a.eval x = .tuple vs) (hv : vs[k]? = some v) : (execOp a.eval o).run P w = .ok (.value v) w := by
  unfold execOp
  simp [e, hx, Instr.extract, hv, Sem.run_bind, Sem.run_pure]
theorem index_rows0 (b o n c : Nat) (h : 0 < n) (w : World) : (Instr.indexAt 77 (.slice (some ⟨b, o, none⟩) n c) (.int .i64 0)).run Tryz.prog w = .ok (.pointer (some ⟨b, o, none⟩)) w :=
  index_slice (P := Tryz.prog) (t := 77) (e := 36) Tryz.underlying77 (by kernel_rfl) b o n c 0 h w
theorem len_slice (ty : TypeId) (A : Option Addr) (n c : Nat) (w : World) : (Builtin.len_ #[36] ty #[.slice A n c]).run Tryz.prog w = .ok (.int .i64 (n : Int)) w := by
  simp [Builtin.len_, Builtin.lenOf, goInt, run_underlying Tryz.underlying36]
theorem exec_buildSlice3 {P : Program} {w w' : World} {o : Oper} {a : Act} {ty : TypeId} {n : Nat} {x0 x1 x2 : Operand} {u0 u1 u2 v : Value} (ho : o.op = .buildSlice ty n #[(0, x0), (1, x1), (2, x2)]) (h0 : a.eval x0 = u0) (h1 : a.eval x1 = u1) (h2 : a.eval x2 = u2) (hl : (Instr.buildSlice ty n #[(0, u0), (1, u1), (2, u2)]).run P w = .ok v w') : (execOp a.eval o).run P w = .ok (.value v) w' := by
  unfold execOp
  simp only [ho, List.map_toArray, List.map_cons, List.map_nil, h0, h1, h2, hl, Sem.run_bind, Sem.run_pure, Result.andThen_ok]
theorem bs_rows3 (A : Option Addr) (n c : Nat) (w : World) : (Instr.buildSlice 77 3 #[(0, .slice A n c), (1, .slice A n c), (2, .slice A n c)]).run Tryz.prog w = .ok (.slice (some ⟨w.heap.size, 0, none⟩) 3 3) (w.alloc (.cells #[.slice A n c, .slice A n c, .slice A n c] 36)) := by kernel_rfl
theorem rdr_three {w : World} {B n c : Nat} {A : Option Addr} {y : Nat → Nat} (h : RdB w B A n y) (hB : B ≤ w.heap.size) : RdR (w.alloc (.cells #[.slice A n c, .slice A n c, .slice A n c] 36)) (w.heap.size + 1) (some ⟨w.heap.size, 0, none⟩) 3 (fun _ => A) (fun _ => n) (fun _ => c) (fun _ => y) := by
  intro i hi
  refine ⟨w.heap.size, 0, rfl, by omega, ?_, (h.below ((Below.refl w.heap.size w).alloc (Nat.le_refl _) _) hB).mono (by omega)⟩
  rw [Nat.zero_add, (Blk.new w _ _).cell]
  match i, hi with
  | 0, _ => rfl
  | 1, _ => rfl
  | 2, _ => rfl
theorem par_single (j : Nat) (x : Nat → Nat → Nat) (v : Nat) (h : x 0 v < 256) : M.par 1 j x v = x 0 v := by
  show 0 ^^^ M.gmul (M.pw (0 * j)) (x 0 v) = x 0 v
  rw [Nat.zero_xor, Nat.zero_mul, M.pw_zero, M.gmul_comm, M.gmul_one h]
/-- the columns, and one of noughts -/
def wideX (k : Nat) (x : Nat → Nat → Nat) (i v : Nat) : Nat := if i < k then x i v else 0
theorem par_wide (k j : Nat) (x : Nat → Nat → Nat) (v : Nat) : M.par (k + 1) j (wideX k x) v = M.par k j x v := by
  rw [M.par_succ]
  have e : wideX k x k v = 0 := if_neg (by omega)
  rw [e, M.gmul_zero_right, Nat.xor_zero]
  exact M.xsum_congr fun i hi => by unfold wideX; rw [if_pos hi]
/-- k heads and one more, read as rows -/
theorem rdr_wide {W : World} {B k n g : Nat} {A : Option Addr} {ra : Nat → Option Addr} {rl rc : Nat → Nat} {x : Nat → Nat → Nat} (hh : RdH W W.heap.size A (k + 1) (catS k (fun i => (ra i, rl i, rc i)) (fun _ => (some ⟨g, 0, none⟩, n, n))))
    (hr : ∀ i, i < k → RdB W B (ra i) (rl i) (x i)) (hB : B ≤ W.heap.size) (hg : Blk W g 5 (rowArr n fun _ => 0)) :
    RdR W W.heap.size A (k + 1) (fun i => (catS k (fun i => (ra i, rl i, rc i)) (fun _ => ((some ⟨g, 0, none⟩, n, n) : Hd)) i).1) (fun i => (catS k (fun i => (ra i, rl i, rc i)) (fun _ => ((some ⟨g, 0, none⟩, n, n) : Hd)) i).2.1) (fun i => (catS k (fun i => (ra i, rl i, rc i)) (fun _ => ((some ⟨g, 0, none⟩, n, n) : Hd)) i).2.2) (wideX k x) := by
  intro i hi
  obtain ⟨b, o, h1, h2, h3⟩ := hh i hi
  refine ⟨b, o, h1, h2, h3, ?_⟩
  by_cases e : i < k
  · have e1 : catS k (fun i => (ra i, rl i, rc i)) (fun _ => ((some ⟨g, 0, none⟩, n, n) : Hd)) i = (ra i, rl i, rc i) := if_pos e
    dsimp only
    rw [e1]
    intro j hj
    obtain ⟨b', o', q1, q2, q3, q4⟩ := hr i e j hj
    have e2 : wideX k x i j = x i j := if_pos e
    exact ⟨b', o', q1, by omega, by rw [e2]; exact q3, by rw [e2]; exact q4⟩
  · have e1 : catS k (fun i => (ra i, rl i, rc i)) (fun _ => ((some ⟨g, 0, none⟩, n, n) : Hd)) i = (some ⟨g, 0, none⟩, n, n) := if_neg e
    dsimp only
    rw [e1]
    intro j hj
    have e2 : wideX k x i j = 0 := if_neg e
    exact ⟨g, 0, rfl, hg.lt, by rw [e2, Nat.zero_add, hg.cell, rowArr_get hj], by rw [e2]; omega⟩
theorem alike_wide {k n g : Nat} {ra : Nat → Option Addr} {rl rc : Nat → Nat} (hk : 0 < k) (h : Alike k rl) (hn : n = rl 0) : Alike (k + 1) (fun i => (catS k (fun i => (ra i, rl i, rc i)) (fun _ => ((some ⟨g, 0, none⟩, n, n) : Hd)) i).2.1) := by
  have e0 : (catS k (fun i => (ra i, rl i, rc i)) (fun _ => ((some ⟨g, 0, none⟩, n, n) : Hd)) 0) = (ra 0, rl 0, rc 0) := if_pos hk
  refine ⟨?_, ?_, fun i hi => ?_⟩
  · show 1 ≤ (catS k _ _ 0).2.1; rw [e0]; exact h.1
  · show (catS k _ _ 0).2.1 ≤ 4096; rw [e0]; exact h.2.1
  · show (catS k _ _ i).2.1 = (catS k _ _ 0).2.1
    rw [e0]
    by_cases e : i < k
    · have e1 : catS k (fun i => (ra i, rl i, rc i)) (fun _ => ((some ⟨g, 0, none⟩, n, n) : Hd)) i = (ra i, rl i, rc i) := if_pos e
      rw [e1]
      exact h.2.2 i e
    · have e1 : catS k (fun i => (ra i, rl i, rc i)) (fun _ => ((some ⟨g, 0, none⟩, n, n) : Hd)) i = (some ⟨g, 0, none⟩, n, n) := if_neg e
      rw [e1]
      exact hn
end Go.Proofs.YtlhjpceaookanaaGreatDoor
