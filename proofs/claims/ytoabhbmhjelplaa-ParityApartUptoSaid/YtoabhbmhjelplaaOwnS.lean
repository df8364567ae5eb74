/-
  The call's own row of rows of bytes (made of XOwn8 by mkowns.py): what it holds, what 'append' makes of it. No conditions beyond those that each theorem types.
-/
import Derived.Test.YtoabhbmhjelplaaOwn8
namespace Go.Proofs.Ytoabhbmhjelplaa
open Go Go.RowKit Go.Lib
set_option maxRecDepth 100000
set_option linter.unusedVariables false

/-- a row's head: where, length, capacity -/
abbrev Hd := Option Addr × Nat × Nat
def hdV (h : Hd) : Value := .slice h.1 h.2.1 h.2.2
/-- n heads that lie below block B -/
def RdH (w : World) (B : Nat) (A : Option Addr) (n : Nat) (X : Nat → Hd) : Prop := ∀ i, i < n → ∃ b o, A = some ⟨b, o, none⟩ ∧ b < B ∧ w.cell? ⟨b, o + i, none⟩ = some (hdV (X i))
theorem infoS : (Try.prog.info? 31).map (fun i => (i.zero, i.size, i.bytes)) = some (some (.slice none 0 0), 1, 24) := by kernel_rfl
theorem sizeOf_bytes (w : World) : (sizeOf 31).run Try.prog w = .ok 1 w := by
  obtain ⟨i0, hi, hz0, hz1, hz2⟩ := info_parts infoS
  simp [sizeOf, typeInfo, hi, hz1]
def headsL (n : Nat) (X : Nat → Hd) : List Value := (List.range n).map fun j => hdV (X j)
theorem headsL_length (n : Nat) (X : Nat → Hd) : (headsL n X).length = n := by simp [headsL]
theorem headsL_get {n j : Nat} (X : Nat → Hd) (h : j < n) : (headsL n X)[j]? = some (hdV (X j)) := by simp [headsL, h]
theorem headsL_congr {n : Nat} {X Y : Nat → Hd} (h : ∀ j, j < n → X j = Y j) : headsL n X = headsL n Y := by
  unfold headsL
  apply List.map_congr_left
  intro j hj
  rw [h j (by simpa using hj)]
theorem headsL_mem {n : Nat} {X : Nat → Hd} : ∀ u ∈ headsL n X, u.oneCell' = true := fun u hu => by
  simp only [headsL, List.mem_map] at hu
  obtain ⟨j, _, rfl⟩ := hu
  rfl
/-- X, and Y behind -/
def catS (n : Nat) (X Y : Nat → Hd) (j : Nat) : Hd := if j < n then X j else Y (j - n)
theorem headsL_cat (n m : Nat) (X Y : Nat → Hd) : headsL n X ++ headsL m Y = headsL (n + m) (catS n X Y) := by
  apply List.ext_getElem?
  intro j
  by_cases h : j < n
  · rw [List.getElem?_append_left (by rw [headsL_length]; exact h), headsL_get X h, headsL_get _ (by omega)]
    unfold catS
    rw [if_pos h]
  · rw [List.getElem?_append_right (by rw [headsL_length]; omega), headsL_length]
    by_cases h2 : j < n + m
    · rw [headsL_get Y (by omega), headsL_get _ h2]
      unfold catS
      rw [if_neg h]
    · rw [List.getElem?_eq_none (by rw [headsL_length]; omega), List.getElem?_eq_none (by rw [headsL_length]; omega)]
/-- the call's own row of n bytes -/
def OwnS (w : World) (base : Nat) (v : Value) (n : Nat) (X : Nat → Hd) : Prop :=
  (v = .slice none 0 0 ∧ n = 0) ∨ ∃ g cap cur fr, v = .slice (some ⟨g, 0, none⟩) n cap ∧ base ≤ g ∧ w.heap[g]? = some (.cells cur 31 fr) ∧ freeTail fr cap ∧ n ≤ cap ∧ cap ≤ maxLen ∧ cur.size = cap ∧ ∀ j, j < n → cur[j]? = some (hdV (X j))
theorem OwnS.nil (w : World) (base : Nat) (X : Nat → Hd) : OwnS w base (.slice none 0 0) 0 X := .inl ⟨rfl, rfl⟩
theorem OwnS.shape {w : World} {base n : Nat} {v : Value} {X : Nat → Hd} (h : OwnS w base v n X) :
    ∃ A c, v = .slice A n c ∧ RdH w w.heap.size A n X ∧ n ≤ c ∧ c ≤ maxLen ∧ (∀ g o, A = some ⟨g, o, none⟩ → base ≤ g) ∧ (A = none → c = 0) := by
  rcases h with ⟨rfl, rfl⟩ | ⟨g, cap, cur, fr, rfl, hg, hb, h0, h1, h2, h3, h4⟩
  · exact ⟨none, 0, rfl, fun j hj => absurd hj (by omega), by omega, by simp [maxLen], fun g o e => (by cases e), fun _ => rfl⟩
  · exact ⟨_, _, rfl, fun j hj => ⟨g, 0, rfl, lt_of_heap hb, by rw [Nat.zero_add, cell_of_row _ _ _ _ _ _ hb]; exact h4 j hj⟩, h1, h2, fun g' o e => by injection e with e; injection e with e _; omega, fun e => (by cases e)⟩
theorem OwnS.congr {w : World} {base n : Nat} {v : Value} {X Y : Nat → Hd} (h : OwnS w base v n X) (e : ∀ j, j < n → X j = Y j) : OwnS w base v n Y := by
  rcases h with h | ⟨g, cap, cur, fr, rfl, hg, hb, h0, h1, h2, h3, h4⟩
  · exact .inl h
  · exact .inr ⟨g, cap, cur, fr, rfl, hg, hb, h0, h1, h2, h3, fun j hj => by rw [← e j hj]; exact h4 j hj⟩
theorem OwnS.keep {w w' : World} {base n : Nat} {v : Value} {X : Nat → Hd} (h : OwnS w base v n X) (hk : ∀ g, v.ownBlock = some g → w'.heap[g]? = w.heap[g]?) : OwnS w' base v n X := by
  rcases h with h | ⟨g, cap, cur, fr, rfl, hg, hb, h3⟩
  · exact .inl h
  · exact .inr ⟨g, cap, cur, fr, rfl, hg, (hk g rfl).trans hb, h3⟩
theorem OwnS.lt {w : World} {base n g : Nat} {v : Value} {X : Nat → Hd} (h : OwnS w base v n X) (hg : v.ownBlock = some g) : g < w.heap.size ∧ base ≤ g := by
  rcases h with ⟨rfl, _⟩ | ⟨g', cap, cur, fr, rfl, hb, hblk, _⟩
  · simp [Value.ownBlock] at hg
  · simp [Value.ownBlock] at hg
    subst hg
    exact ⟨lt_of_heap hblk, hb⟩
theorem OwnS.below {w w' : World} {base n B : Nat} {v : Value} {X : Nat → Hd} (h : OwnS w base v n X) (hk : Below B w w') (hB : w.heap.size ≤ B) : OwnS w' base v n X :=
  h.keep fun g hg => hk.block g (by have := (h.lt hg).1; omega)
theorem OwnS.base {w : World} {base base' n : Nat} {v : Value} {X : Nat → Hd} (h : OwnS w base v n X) (hb : base' ≤ base) : OwnS w base' v n X := by
  rcases h with h | ⟨g, cap, cur, fr, rfl, hg, h3⟩
  · exact .inl h
  · exact .inr ⟨g, cap, cur, fr, rfl, Nat.le_trans hb hg, h3⟩
theorem headsL_zero (Y : Nat → Hd) : headsL 0 Y = [] := rfl
theorem grow_rowS {w : World} {n m cap : Nat} {olds : List Value} {X Y : Nat → Hd} (ho : olds = headsL n X) (hl : n + m ≤ 100000) :
    OwnS (w.drew.alloc (.cells (olds.toArray ++ (headsL m Y).toArray ++ Builtin.zeroCells (Value.slice none 0 0).cells (grownCap w (n + m) cap 31 - (n + m))) 31)) w.heap.size (.slice (some ⟨w.heap.size, 0, none⟩) (n + m) (grownCap w (n + m) cap 31)) (n + m) (catS n X Y) := by
  have hge := grownCap_ge w (n + m) cap 31
  have hcm : grownCap w (n + m) cap 31 ≤ maxLen := grownCap_le_maxLen w (n + m) cap 31 (by simp only [maxLen]; omega)
  refine .inr ⟨w.heap.size, _, _, (0, 0), rfl, Nat.le_refl _, heap_alloc_new w.drew _, .inl (Nat.le_refl _), hge, hcm, ?_, fun j hj => ?_⟩
  · have hz1 : (Value.slice none 0 0).cells.size = 1 := rfl
    simp only [Array.size_append, List.size_toArray, size_zeroCells, hz1, ho, headsL_length]
    omega
  · have h1 := headsL_cat n m X Y
    have h2 := headsL_get (catS n X Y) hj
    rw [← h1, ← ho] at h2
    rw [Array.getElem?_append_left (by simp [ho, headsL_length]; omega)]
    simpa using h2
theorem put_rowS {cur cur' : Array Value} {n m : Nat} {X Y : Nat → Hd} (h4 : ∀ j, j < n → cur[j]? = some (hdV (X j))) (e : ∀ j, cur'[j]? = if n + 0 ≤ j ∧ j < n + 0 + (headsL m Y).length then (headsL m Y)[j - (n + 0)]? else cur[j]?) :
    ∀ j, j < n + m → cur'[j]? = some (hdV (catS n X Y j)) := fun j hj => by
  rw [e, headsL_length, Nat.add_zero]
  unfold catS
  by_cases h : j < n
  · rw [if_neg (by omega), if_pos h]
    exact h4 j h
  · rw [if_pos ⟨by omega, hj⟩, if_neg h]
    exact headsL_get Y (by omega)
theorem run_append_hd {w : World} {base n B m c : Nat} {v : Value} {A : Option Addr} {X Y : Nat → Hd} (ty : TypeId) (h : OwnS w base v n X) (hy : RdH w B A m Y) (h0 : A = none → c = 0) (hmc : m ≤ c) (hl : n + m ≤ 100000) (hb : base ≤ w.heap.size) :
    ∃ v' w', (Builtin.append_ #[22, 22] ty #[v, .slice A m c]).run Try.prog w = .ok v' w' ∧ OwnS w' base v' (n + m) (catS n X Y) ∧ w.grownBy w' v.ownBlock ∧ (v'.ownBlock = v.ownBlock ∨ v'.ownBlock = some w.heap.size) := by
  obtain ⟨i0, hi, hz0, hz1, hz2⟩ := info_parts infoS
  have hsz : ∀ w', (sizeOf 31).run Try.prog w' = .ok 1 w' := sizeOf_bytes
  have hne : ∀ m', m = m' + 1 → ∃ ad, A = some ad := fun m' e => by obtain ⟨b, o, e2, _⟩ := hy 0 (by omega); exact ⟨_, e2⟩
  have hnews : ∀ ad, A = some ad → ∀ j u, (headsL m Y)[j]? = some u → w.cell? (ad.add j) = some u := fun ad e j u hj => by
    have hjm : j < m := by have := (List.getElem?_eq_some_iff.1 hj).1; rw [headsL_length] at this; exact this
    rw [headsL_get Y hjm] at hj
    injection hj with hj
    subst hj
    obtain ⟨b, o, h1, h2, h3⟩ := hy j hjm
    rw [e] at h1
    injection h1 with h1
    subst h1
    rw [add_plain]
    exact h3
  have hfc : (Builtin.firstCells 1 m (.slice A m c)).run Try.prog w = .ok (headsL m Y).toArray w := by
    cases A with
    | none =>
      have hm : m = 0 := by have := h0 rfl; omega
      subst hm
      exact run_firstCells_none w 1 0 0 c
    | some ad => exact run_firstCells_some (P := Try.prog) w 1 m ad m c (headsL m Y) (by rw [headsL_length, Nat.mul_one]) (hnews ad rfl)
  rcases h with ⟨rfl, rfl⟩ | ⟨g, cap, cur, fr, rfl, hg, hblk, hfr, h1, h2, h3, h4⟩
  · by_cases hm : m = 0
    · subst hm
      refine ⟨.slice none 0 0, w, ?_, .inl ⟨rfl, rfl⟩, World.grownBy.refl w _, .inl rfl⟩
      simp [Builtin.append_, run_underlying Try.underlying22, hsz, Builtin.lenOf, hfc]
    · obtain ⟨ad, rfl⟩ := hne (m - 1) (by omega)
      have hr := run_append_nil (P := Try.prog) w 22 ty 31 i0 (.slice none 0 0) Try.underlying22 hi hz0 ad m c (headsL m Y) (by rw [headsL_length, hz1, Nat.mul_one]) (hnews ad rfl) (by omega) (by omega) (by rw [hz2]; omega)
      have hgr := grow_rowS (w := w) (n := 0) (m := m) (cap := 0) (olds := []) (X := X) (Y := Y) rfl (by omega)
      simp only [Nat.zero_add] at hgr hr ⊢
      rw [show (([] : List Value).toArray ++ (headsL m Y).toArray) = (headsL m Y).toArray by simp] at hgr
      exact ⟨_, _, hr, hgr.base hb, ⟨rfl, rfl, rfl, by simp, fun k hk _ => Below.heap_alloc w.drew _ k hk⟩, .inr rfl⟩
  · by_cases hroom : n + m ≤ cap
    · obtain ⟨w', cur', e1, e2, e3, e4, e5, e6⟩ := store_run g n 31 fr (headsL m Y) 0 cur w hblk (by rw [h3]; exact hfr) (by rw [headsL_length]; omega) headsL_mem
      refine ⟨.slice (some ⟨g, 0, none⟩) (n + m) cap, w', ?_, .inr ⟨g, cap, cur', fr, rfl, hg, e2, hfr, hroom, h2, by omega, put_rowS h4 e4⟩, e5, .inl rfl⟩
      simp [Builtin.append_, run_underlying Try.underlying22, hsz, Builtin.lenOf, hroom, hfc, Addr.add_lit, e1]
    · obtain ⟨ad, rfl⟩ := hne (m - 1) (by omega)
      have holds : ∀ j u, (headsL n X)[j]? = some u → w.cell? ((⟨g, 0, none⟩ : Addr).add j) = some u := fun j u hj => by
        have hjn : j < n := by have := (List.getElem?_eq_some_iff.1 hj).1; rw [headsL_length] at this; exact this
        rw [headsL_get X hjn] at hj
        injection hj with hj
        subst hj
        rw [add_plain, Nat.zero_add, cell_of_row _ _ _ _ _ _ hblk]
        exact h4 j hjn
      have hr := run_append_grow (P := Try.prog) w 22 ty 31 i0 (.slice none 0 0) Try.underlying22 hi hz0 ⟨g, 0, none⟩ n cap (headsL n X) (by rw [headsL_length, hz1, Nat.mul_one]) holds ad m c (headsL m Y) (by rw [headsL_length, hz1, Nat.mul_one]) (hnews ad rfl) (by omega) (by omega) (by rw [hz2]; exact growslice_fits (by omega) (by omega))
      exact ⟨_, _, hr, (grow_rowS (w := w) (cap := cap) (Y := Y) rfl hl).base hb, ⟨rfl, rfl, rfl, by simp, fun k hk _ => Below.heap_alloc w.drew _ k hk⟩, .inr rfl⟩
end Go.Proofs.Ytoabhbmhjelplaa
