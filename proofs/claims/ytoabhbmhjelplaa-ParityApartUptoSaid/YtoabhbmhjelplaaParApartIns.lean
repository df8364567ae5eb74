/-
  Copies of rows, each with two bytes of spare room, and of a row of numbers, that a law makes; what stands while other memory is written to. No conditions beyond those that each theorem types. (Made by gen/mkparapart1.py.)
-/
import Derived.Test.YtoabhbmhjelplaaParBothM
import Derived.Maps.AppendAt
import Derived.Laws.OwnMore
namespace Go.Proofs.Ytoabhbmhjelplaa
open Go Go.RowKit
set_option maxRecDepth 100000
set_option linter.unusedVariables false
namespace parityApart
theorem wp_append_room8 {w : World} {o : Oper} {a : Act} {K : Act → World → Prop} {Q : Exit → Act → World → Prop} (s y : Operand)
    (ho : o.op = .call { callee := .builtin .append, args := #[s, y], argTypes := #[31, 31] }) {g n m c cap B : Nat} {A : Option Addr} {f x : Nat → Nat} (hs : a.eval s = .slice (some ⟨g, 0, none⟩) n cap) (hy : a.eval y = .slice A m c)
    (hb : Blk w g 5 (rowArr cap f)) (hx : RdB w B A m x) (h0 : A = none → c = 0) (hmc : m ≤ c) (hr : n + m ≤ cap)
    (h : ∀ w', Blk w' g 5 (rowArr cap (put8 f x n m)) → Only g w w' → w'.heap.size = w.heap.size → K (a.put o.dst (.slice (some ⟨g, 0, none⟩) (n + m) cap)) w') : o.wp Try.prog a w K Q := by
  obtain ⟨w', hrun, h1, h2, h3⟩ := run_append_room8 (c := c) o.type hb hx h0 hmc hr
  unfold Oper.wp execOp
  simp only [ho, resolve, invoke, builtin, Sem.run_bind, Sem.run_pure, Result.andThen_ok, List.map_toArray, List.map_cons, List.map_nil, hs, hy, hrun]
  exact h w' h1 h2 h3
theorem make_roomF (n : Nat) (hn : n ≤ 2199023255552) (w : World) (l : Int) (hl : l = (n : Int)) :
    (Instr.makeSlice 31 (.int .i64 0) (.int .i64 l)).run Try.prog w = .ok (.slice (some ⟨w.heap.size, 0, none⟩) 0 n) (w.alloc (.cells (rowArr n (fun _ => 0)) 5)) := by
  subst hl
  obtain ⟨i0, hi, hz0, hz1, hz2⟩ := info_parts info_u8
  have h := run_make (P := Try.prog) (w := w) 31 5 i0 (.int .u8 0) Try.underlying31 hi hz0 .i64 .i64 (0 : Int) (n : Int) (by omega) (by omega) (by rw [hz2]; omega) (by omega)
  rw [h, hz1, Int.toNat_natCast, Nat.mul_one]
  show _ = _
  rw [show (Value.int .u8 0).cells = #[.int .u8 0] from rfl, madeCells_one, replicate_row]
  rfl
theorem _root_.Go.Proofs.Ytoabhbmhjelplaa.Blk.keep {w w' : World} {g : Nat} {t : TypeId} {cs : Array Value} (h : Blk w g t cs) (e : w'.heap[g]? = w.heap[g]?) : Blk w' g t cs := by
  unfold Blk at h ⊢
  rw [e]
  exact h
theorem blk_ne {w : World} {base n g : Nat} {v : Value} {X : Nat → Hd} {cs : Array Value} (h : OwnS w base v n X) (hb : Blk w g 5 cs) : v.ownBlock ≠ some g := fun e => by
  rcases h with ⟨rfl, _⟩ | ⟨g', cap, cur, fr, rfl, _, hg, _⟩
  · cases e
  · simp [Value.ownBlock] at e
    subst e
    unfold Blk at hb
    rw [hb] at hg
    injection hg with hg
    injection hg with _ hg _
    exact absurd hg (by decide)
def putF (n : Nat) (x : Nat → Nat) : Nat → Nat := put8 (fun _ => 0) x 0 n
theorem putF_in (x : Nat → Nat) {n j : Nat} (h : j < n) : putF n x j = x j := by unfold putF put8; rw [if_pos ⟨by omega, by omega⟩]; rfl
theorem putF_out (x : Nat → Nat) {n j : Nat} (h : n ≤ j) : putF n x j = 0 := by unfold putF put8; rw [if_neg (by omega)]
structure Ins (w : World) (base : Nat) (v : Value) (t : Nat) (L : Nat → Nat) (R : Nat → Nat) (x : Nat → Nat → Nat) : Prop where
  own : OwnS w base v t (fun j => (some ⟨R j, 0, none⟩, L j, L j + 2))
  row : ∀ j, j < t → base ≤ R j ∧ Blk w (R j) 5 (rowArr (L j + 2) (putF (L j) (x j)))
theorem Ins.none_ (w : World) (base : Nat) (L R : Nat → Nat) (x : Nat → Nat → Nat) : Ins w base (.slice none 0 0) 0 L R x := ⟨OwnS.nil _ _ _, fun j hj => absurd hj (by omega)⟩
theorem Ins.below {w w' : World} {base t B : Nat} {v : Value} {L R : Nat → Nat} {x : Nat → Nat → Nat} (h : Ins w base v t L R x) (hb : Below B w w') (hB : w.heap.size ≤ B) : Ins w' base v t L R x :=
  ⟨h.own.below hb hB, fun j hj => ⟨(h.row j hj).1, (h.row j hj).2.below hb (Nat.lt_of_lt_of_le (h.row j hj).2.lt hB)⟩⟩
theorem Ins.push {w w2 : World} {base t g l : Nat} {v v' : Value} {L R : Nat → Nat} {x : Nat → Nat → Nat} (h : Ins w base v t L R x) (hl : l = L t) (ho : OwnS w2 base v' (t + 1) (catS t (fun j => (some ⟨R j, 0, none⟩, L j, L j + 2)) (fun _ => (some ⟨g, 0, none⟩, l, l + 2))))
    (hg : w.grownBy w2 v.ownBlock) (hr : Blk w g 5 (rowArr (l + 2) (putF l (x t)))) (hb : base ≤ g) : Ins w2 base v' (t + 1) L (fun j => if j = t then g else R j) x := by
  subst hl
  refine ⟨ho.congr fun j hj => ?_, fun j hj => ?_⟩
  · unfold catS
    by_cases e : j < t
    · rw [if_pos e, if_neg (by omega)]
    · obtain rfl : j = t := by omega
      rw [if_neg e, if_pos rfl]
  · by_cases e : j < t
    · rw [if_neg (by omega)]
      exact ⟨(h.row j e).1, (h.row j e).2.keep (hg.block _ (h.row j e).2.lt (fun q => blk_ne h.own (h.row j e).2 q.symm))⟩
    · obtain rfl : j = t := by omega
      rw [if_pos rfl]
      exact ⟨hb, hr.keep (hg.block _ hr.lt (fun q => blk_ne h.own hr q.symm))⟩
theorem Ins.rdr {w : World} {base t : Nat} {v : Value} {L R : Nat → Nat} {x : Nat → Nat → Nat} (h : Ins w base v t L R x) (hx : ∀ j, j < t → ∀ k, k < L j → x j k < 256) :
    ∃ A c, v = .slice A t c ∧ t ≤ c ∧ c ≤ maxLen ∧ RdR w w.heap.size A t (fun j => some ⟨R j, 0, none⟩) L (fun j => L j + 2) x := by
  obtain ⟨A, c, rfl, h1, h2, h3, _⟩ := h.own.shape
  refine ⟨A, c, rfl, h2, h3, fun j hj => ?_⟩
  obtain ⟨b, o, q1, q2, q3⟩ := h1 j hj
  refine ⟨b, o, q1, q2, q3, ?_⟩
  have hr := (h.row j hj).2
  exact fun k hk => ⟨R j, 0, rfl, hr.lt, by rw [Nat.zero_add, hr.cell, rowArr_get (by omega), putF_in _ hk], hx j hj k hk⟩
theorem grow_rowSB {w : World} {n m cap : Nat} {olds : List Value} {X Y : Nat → Hd} (ho : olds = headsL n X) (hl : n + m ≤ 4000000) :
    OwnS (w.drew.alloc (.cells (olds.toArray ++ (headsL m Y).toArray ++ Builtin.zeroCells (Value.slice none 0 0).cells (grownCap w (n + m) cap 31 - (n + m))) 31)) w.heap.size (.slice (some ⟨w.heap.size, 0, none⟩) (n + m) (grownCap w (n + m) cap 31)) (n + m) (catS n X Y) := by
  have hge := grownCap_ge w (n + m) cap 31
  have hcm : grownCap w (n + m) cap 31 ≤ maxLen := grownCap_le_maxLen w (n + m) cap 31 (by simp only [maxLen]; omega)
  refine .inr ⟨w.heap.size, _, _, (0, 0), rfl, Nat.le_refl _, heap_alloc_new w.drew _, .inl (Nat.le_refl _), hge, hcm, ?_, fun j hj => ?_⟩
  · have hz1 : (Value.slice none 0 0).cells.size = 1 := rfl
    simp only [Array.size_append, List.size_toArray, size_zeroCells, hz1, ho, headsL_length]
    omega
  · have h1 := headsL_cat n m X Y
    have h2 := headsL_get (catS n X Y) hj
    rw [← h1, ← ho] at h2
    rw [Array.getElem?_append_left (by simp [ho, headsL_length]; omega)]
    simpa using h2
theorem run_append_hdB {w : World} {base n B m c : Nat} {v : Value} {A : Option Addr} {X Y : Nat → Hd} (ty : TypeId) (h : OwnS w base v n X) (hy : RdH w B A m Y) (h0 : A = none → c = 0) (hmc : m ≤ c) (hl : n + m ≤ 4000000) (hb : base ≤ w.heap.size) :
    ∃ v' w', (Builtin.append_ #[22, 22] ty #[v, .slice A m c]).run Try.prog w = .ok v' w' ∧ OwnS w' base v' (n + m) (catS n X Y) ∧ w.grownBy w' v.ownBlock ∧ (v'.ownBlock = v.ownBlock ∨ v'.ownBlock = some w.heap.size) := by
  obtain ⟨i0, hi, hz0, hz1, hz2⟩ := info_parts infoS
  have hsz : ∀ w', (sizeOf 31).run Try.prog w' = .ok 1 w' := sizeOf_bytes
  have hne : ∀ m', m = m' + 1 → ∃ ad, A = some ad := fun m' e => by obtain ⟨b, o, e2, _⟩ := hy 0 (by omega); exact ⟨_, e2⟩
  have hnews : ∀ ad, A = some ad → ∀ j u, (headsL m Y)[j]? = some u → w.cell? (ad.add j) = some u := fun ad e j u hj => by
    have hjm : j < m := by have := (List.getElem?_eq_some_iff.1 hj).1; rw [headsL_length] at this; exact this
    rw [headsL_get Y hjm] at hj
    injection hj with hj
    subst hj
    obtain ⟨b, o, h1, h2, h3⟩ := hy j hjm
    rw [e] at h1
    injection h1 with h1
    subst h1
    rw [add_plain]
    exact h3
  have hfc : (Builtin.firstCells 1 m (.slice A m c)).run Try.prog w = .ok (headsL m Y).toArray w := by
    cases A with
    | none =>
      have hm : m = 0 := by have := h0 rfl; omega
      subst hm
      exact run_firstCells_none w 1 0 0 c
    | some ad => exact run_firstCells_some (P := Try.prog) w 1 m ad m c (headsL m Y) (by rw [headsL_length, Nat.mul_one]) (hnews ad rfl)
  rcases h with ⟨rfl, rfl⟩ | ⟨g, cap, cur, fr, rfl, hg, hblk, hfr, h1, h2, h3, h4⟩
  · by_cases hm : m = 0
    · subst hm
      refine ⟨.slice none 0 0, w, ?_, .inl ⟨rfl, rfl⟩, World.grownBy.refl w _, .inl rfl⟩
      simp [Builtin.append_, run_underlying Try.underlying22, hsz, Builtin.lenOf, hfc]
    · obtain ⟨ad, rfl⟩ := hne (m - 1) (by omega)
      have hr := run_append_nil (P := Try.prog) w 22 ty 31 i0 (.slice none 0 0) Try.underlying22 hi hz0 ad m c (headsL m Y) (by rw [headsL_length, hz1, Nat.mul_one]) (hnews ad rfl) (by omega) (by omega) (by rw [hz2]; omega)
      have hgr := grow_rowSB (w := w) (n := 0) (m := m) (cap := 0) (olds := []) (X := X) (Y := Y) rfl (by omega)
      simp only [Nat.zero_add] at hgr hr ⊢
      rw [show (([] : List Value).toArray ++ (headsL m Y).toArray) = (headsL m Y).toArray by simp] at hgr
      exact ⟨_, _, hr, hgr.base hb, ⟨rfl, rfl, rfl, by simp, fun k hk _ => Below.heap_alloc w.drew _ k hk⟩, .inr rfl⟩
  · by_cases hroom : n + m ≤ cap
    · obtain ⟨w', cur', e1, e2, e3, e4, e5, e6⟩ := store_run g n 31 fr (headsL m Y) 0 cur w hblk (by rw [h3]; exact hfr) (by rw [headsL_length]; omega) headsL_mem
      refine ⟨.slice (some ⟨g, 0, none⟩) (n + m) cap, w', ?_, .inr ⟨g, cap, cur', fr, rfl, hg, e2, hfr, hroom, h2, by omega, put_rowS h4 e4⟩, e5, .inl rfl⟩
      simp [Builtin.append_, run_underlying Try.underlying22, hsz, Builtin.lenOf, hroom, hfc, Addr.add_lit, e1]
    · obtain ⟨ad, rfl⟩ := hne (m - 1) (by omega)
      have holds : ∀ j u, (headsL n X)[j]? = some u → w.cell? ((⟨g, 0, none⟩ : Addr).add j) = some u := fun j u hj => by
        have hjn : j < n := by have := (List.getElem?_eq_some_iff.1 hj).1; rw [headsL_length] at this; exact this
        rw [headsL_get X hjn] at hj
        injection hj with hj
        subst hj
        rw [add_plain, Nat.zero_add, cell_of_row _ _ _ _ _ _ hblk]
        exact h4 j hjn
      have hr := run_append_grow (P := Try.prog) w 22 ty 31 i0 (.slice none 0 0) Try.underlying22 hi hz0 ⟨g, 0, none⟩ n cap (headsL n X) (by rw [headsL_length, hz1, Nat.mul_one]) holds ad m c (headsL m Y) (by rw [headsL_length, hz1, Nat.mul_one]) (hnews ad rfl) (by omega) (by omega) (by rw [hz2]; exact growslice_fits (by omega) (by omega))
      exact ⟨_, _, hr, (grow_rowSB (w := w) (cap := cap) (Y := Y) rfl hl).base hb, ⟨rfl, rfl, rfl, by simp, fun k hk _ => Below.heap_alloc w.drew _ k hk⟩, .inr rfl⟩
theorem wp_append_hdB {w : World} {o : Oper} {a : Act} {K : Act → World → Prop} {Q : Exit → Act → World → Prop} (s x : Operand)
    (ho : o.op = .call { callee := .builtin .append, args := #[s, x], argTypes := #[22, 22] }) {base n B m c : Nat} {v : Value} {A : Option Addr} {X Y : Nat → Hd} (hs : a.eval s = v) (hx : a.eval x = .slice A m c)
    (hown : OwnS w base v n X) (hy : RdH w B A m Y) (h0 : A = none → c = 0) (hmc : m ≤ c) (hl : n + m ≤ 4000000) (hb : base ≤ w.heap.size)
    (h : ∀ v' w', OwnS w' base v' (n + m) (catS n X Y) → w.grownBy w' v.ownBlock → K (a.put o.dst v') w') : o.wp Try.prog a w K Q := by
  obtain ⟨v', w', hrun, h1, h2, h3⟩ := run_append_hdB o.type hown hy h0 hmc hl hb
  unfold Oper.wp execOp
  simp only [ho, resolve, invoke, builtin, Sem.run_bind, Sem.run_pure, Result.andThen_ok, List.map_toArray, List.map_cons, List.map_nil, hs, hx, hrun]
  exact h v' w' h1 h2

/-- n numbers -/
def intL (n : Nat) (x : Nat → Int) : List Value := (List.range n).map fun j => Value.int .i64 (x j)
theorem intL_length (n : Nat) (x : Nat → Int) : (intL n x).length = n := by simp [intL]
theorem intL_get {n j : Nat} (x : Nat → Int) (h : j < n) : (intL n x)[j]? = some (.int .i64 (x j)) := by simp [intL, h]
theorem make_roomZ (n : Nat) (hn : n ≤ 4000000) (w : World) (l : Int) (hl : l = (n : Int)) :
    (Instr.makeSlice 23 (.int .i64 0) (.int .i64 l)).run Try.prog w = .ok (.slice (some ⟨w.heap.size, 0, none⟩) 0 n) (w.alloc (.cells (Array.replicate n (.int .i64 0)) 3)) := by
  subst hl
  obtain ⟨i0, hi, hz0, hz1, hz2⟩ := info_parts infoZ
  have h := run_make (P := Try.prog) (w := w) 23 3 i0 (.int .i64 0) Try.underlying23 hi hz0 .i64 .i64 (0 : Int) (n : Int) (by omega) (by omega) (by rw [hz2]; omega) (by omega)
  rw [h, hz1, Int.toNat_natCast, Nat.mul_one]
  show _ = _
  rw [show (Value.int .i64 0).cells = #[.int .i64 0] from rfl, madeCells_one]
  rfl
theorem run_append_roomZ {w0 : World} {B : Nat} {A : Option Addr} {n c cap : Nat} {x : Nat → Int} (ty : TypeId) (hr : RdZ w0 B A n x) (hB : B ≤ w0.heap.size) (hn : n ≤ 1048576) (h0 : A = none → c = 0) (hnc : n ≤ c) (hcap : n ≤ cap) (hcm : cap ≤ 4000000) :
    ∃ A' c' w', (Builtin.append_ #[23, 23] ty #[.slice (some ⟨w0.heap.size, 0, none⟩) 0 cap, .slice A n c]).run Try.prog (w0.alloc (.cells (Array.replicate cap (.int .i64 0)) 3)) = .ok (.slice A' n c') w' ∧ RdZ w' w'.heap.size A' n x ∧ n ≤ c' ∧ c' ≤ maxLen ∧ (A' = none → c' = 0) ∧ Below w0.heap.size w0 w' := by
  obtain ⟨i0, hi, hz0, hz1, hz2⟩ := info_parts infoZ
  have hown : (w0.alloc (.cells (Array.replicate cap (.int .i64 0)) 3)).ownsRow w0.heap.size 3 1 (.slice (some ⟨w0.heap.size, 0, none⟩) 0 cap) 0 [] :=
    ⟨rfl, .inr ⟨w0.heap.size, cap, _, rfl, Nat.le_refl _, (Blk.new w0 3 _), Nat.zero_le _, by simp only [maxLen]; omega, by simp, rfl⟩⟩
  have b0 : Below w0.heap.size w0 (w0.alloc (.cells (Array.replicate cap (.int .i64 0)) 3)) := (Below.refl _ _).alloc (Nat.le_refl _) _
  cases A with
  | none =>
    have hc := h0 rfl
    subst hc
    obtain rfl : n = 0 := by omega
    have h := run_append_owned_none (P := Try.prog) (w0.alloc (.cells (Array.replicate cap (.int .i64 0)) 3)) w0.heap.size 23 ty 3 i0 1 Try.underlying23 hi _ _ _ hown
    exact ⟨_, _, _, h, fun i hi => absurd hi (Nat.not_lt_zero _), Nat.zero_le _, by simp only [maxLen]; omega, fun e => (by cases e), b0⟩
  | some ad =>
    obtain ⟨v', w', e1, e2, e3, e4, e5⟩ := run_append_own_at (P := Try.prog) (w0.alloc (.cells (Array.replicate cap (.int .i64 0)) 3)) w0.heap.size 23 ty 3 i0 (.int .i64 0) 1 8 Try.underlying23 hi hz0 hz1 hz2 rfl (by decide) _ 0 [] hown ad n c (intL n x) (by rw [intL_length, Nat.mul_one])
      (fun j u hj => by
        have hjn : j < n := by have := (List.getElem?_eq_some_iff.1 hj).1; rw [intL_length] at this; exact this
        rw [intL_get x hjn] at hj
        injection hj with hj
        subst hj
        obtain ⟨b, o, h1, h2, h3⟩ := hr j hjn
        injection h1 with h1
        subst h1
        rw [add_plain]
        exact (b0.cell (p := ⟨b, o + j, none⟩) (show b < w0.heap.size by omega)).trans h3)
      (fun u hu => by
        simp only [intL, List.mem_map] at hu
        obtain ⟨j, _, rfl⟩ := hu
        rfl) (by simp only [maxLen]; omega) (by omega) (by simp)
    have hbel : Below w0.heap.size w0 w' := b0.trans ⟨e3.os, e3.tape, e3.output, e3.size, fun k hk => e3.block k (by simp; omega) (fun e => by simp [Value.ownBlock] at e; omega)⟩
    rw [Nat.zero_add, List.nil_append] at e2
    rcases e2.2 with ⟨rfl, hn0⟩ | ⟨g, cap2, cur, rfl, f1, f2, f3, f4, f5, f6⟩
    · refine ⟨none, 0, _, by rw [hn0]; rw [hn0] at e1; exact e1, fun i hi => absurd hi (by omega), by omega, by simp only [maxLen]; omega, fun _ => rfl, hbel⟩
    · refine ⟨some ⟨g, 0, none⟩, cap2, _, e1, fun i hi => ⟨g, 0, rfl, Blk.lt f2, ?_⟩, f3, f4, fun e => (by cases e), hbel⟩
      have h1 := intL_get x hi
      rw [← f6, List.getElem?_take_of_lt (by omega), Array.getElem?_toList] at h1
      rw [Nat.zero_add, (show Blk w' g 3 cur from f2).cell]
      exact h1
theorem wpList_append_roomZ {w0 : World} {ops : Array Oper} {rest : List Oper} {o : Oper} {a : Act} {Q : Exit → Act → World → Prop} (hgd : o.guard = none) (s x : Operand)
    (ho : o.op = .call { callee := .builtin .append, args := #[s, x], argTypes := #[23, 23] }) {B : Nat} {A : Option Addr} {n c cap : Nat} {y : Nat → Int} (hs : a.eval s = .slice (some ⟨w0.heap.size, 0, none⟩) 0 cap) (hx : a.eval x = .slice A n c)
    (hr : RdZ w0 B A n y) (hB : B ≤ w0.heap.size) (hn : n ≤ 1048576) (h0 : A = none → c = 0) (hnc : n ≤ c) (hcap : n ≤ cap) (hcm : cap ≤ 4000000)
    (h : ∀ A' c' w', RdZ w' w'.heap.size A' n y → n ≤ c' → c' ≤ maxLen → (A' = none → c' = 0) → Below w0.heap.size w0 w' → wpList Try.prog ops Q rest (a.put o.dst (.slice A' n c')) w') : wpList Try.prog ops Q (o :: rest) a (w0.alloc (.cells (Array.replicate cap (.int .i64 0)) 3)) := by
  refine wpList_plain hgd fun K hK => ?_
  obtain ⟨A', c', w', hrun, h1, h2, h3, h4, h5⟩ := run_append_roomZ (c := c) o.type hr hB hn h0 hnc hcap hcm
  unfold Oper.wp execOp
  simp only [ho, resolve, invoke, builtin, Sem.run_bind, Sem.run_pure, Result.andThen_ok, List.map_toArray, List.map_cons, List.map_nil, hs, hx, hrun]
  exact hK _ _ (h A' c' w' h1 h2 h3 h4 h5)

/-- all memory from block b on is as it was -/
structure Up (b : Nat) (w w' : World) : Prop where
  size : w.heap.size ≤ w'.heap.size
  block : ∀ k, b ≤ k → k < w.heap.size → w'.heap[k]? = w.heap[k]?
theorem Up.refl (b : Nat) (w : World) : Up b w w := ⟨Nat.le_refl _, fun _ _ _ => rfl⟩
theorem Up.trans {b : Nat} {w w' w'' : World} (h : Up b w w') (k : Up b w' w'') : Up b w w'' := ⟨Nat.le_trans h.size k.size, fun i h1 h2 => (k.block i h1 (Nat.lt_of_lt_of_le h2 h.size)).trans (h.block i h1 h2)⟩
theorem Up.below {b : Nat} {w w' w'' : World} (h : Up b w w') (k : Below w'.heap.size w' w'') : Up b w w'' := ⟨Nat.le_trans h.size k.size, fun i h1 h2 => (k.block i (Nat.lt_of_lt_of_le h2 h.size)).trans (h.block i h1 h2)⟩
theorem Up.set {b : Nat} {w w' : World} (h : Up b w w') {p : Addr} (hp : p.block < b) (u : Value) : Up b w (w'.setCell p u) :=
  ⟨by simpa [World.setCell] using h.size, fun i h1 h2 => (Below.heap_setCell w' p u i (by omega)).trans (h.block i h1 h2)⟩
theorem Up.mono {b b' : Nat} {w w' : World} (h : Up b w w') (hb : b ≤ b') : Up b' w w' := ⟨h.size, fun i h1 h2 => h.block i (by omega) h2⟩
section
variable {w w' : World} {base i n : Nat} {v : Value} {H : Nat → Hd} {R : Nat → Nat} {X : Nat → Nat → Nat}
theorem _root_.Go.Proofs.Ytoabhbmhjelplaa.Cols.up (h : Cols w base v i n H R X) {b : Nat} (hb : b ≤ base) (k : Up b w w') : Cols w' base v i n H R X :=
  ⟨h.own.keep fun g hg => k.block g (by have := (h.own.lt hg).2; omega) (h.own.lt hg).1, h.hd, fun j hj => ⟨(h.row j hj).1, (h.row j hj).2.heap (k.block _ (by have := (h.row j hj).1; omega) (h.row j hj).2.lt)⟩, h.apart⟩
theorem hd_at {w : World} {base i c : Nat} {A : Option Addr} {H : Nat → Hd} (h : OwnS w base (.slice A i c) i H) {j : Nat} (hj : j < i) : ∃ g, A = some ⟨g, 0, none⟩ ∧ base ≤ g ∧ g < w.heap.size ∧ w.cell? ⟨g, j, none⟩ = some (hdV (H j)) ∧ (Value.slice A i c).ownBlock = some g := by
  rcases h with ⟨e, h0⟩ | ⟨g, cap, cur, fr, e, hg, hb, hfr, h1, h2, h3, h4⟩
  · omega
  · injection e with e1 e2 e3
    subst e1
    exact ⟨g, rfl, hg, lt_of_heap hb, by rw [cell_of_row _ _ _ _ _ _ hb]; exact h4 j hj, rfl⟩
end
/-- what is left of columns while each gets a byte more: those from t on stand as they did -/
structure YInv (w : World) (b1 b2 : Nat) (v : Value) (i n t : Nat) (R : Nat → Nat) : Prop where
  own : ∃ H, OwnS w b1 v i H ∧ ∀ j, t ≤ j → j < i → H j = (some ⟨R j, 0, none⟩, n, n)
  low : ∀ g, v.ownBlock = some g → g < b2
  row : ∀ j, t ≤ j → j < i → b1 ≤ R j ∧ R j < b2 ∧ ∃ X, RowG w (R j) n X
section
variable {w w' : World} {b1 b2 i n t : Nat} {v : Value} {R : Nat → Nat} {X : Nat → Nat → Nat}
theorem YInv.start (h : Ans w b1 v i n R X) (h1 : ∀ g, v.ownBlock = some g → g < b2) (h2 : ∀ j, j < i → R j < b2) : YInv w b1 b2 v i n 0 R :=
  ⟨⟨_, h.own, fun j _ _ => rfl⟩, h1, fun j _ hj => ⟨(h.row j hj).1, h2 j hj, X j, (h.row j hj).2⟩⟩
theorem YInv.at_ {A : Option Addr} {c : Nat} (h : YInv w b1 b2 (.slice A i c) i n t R) (ht : t < i) : ∃ g, A = some ⟨g, 0, none⟩ ∧ b1 ≤ g ∧ g < b2 ∧ w.cell? ⟨g, t, none⟩ = some (.slice (some ⟨R t, 0, none⟩) n n) ∧ w.frozen? ⟨g, t, none⟩ = false := by
  obtain ⟨H, h1, h2⟩ := h.own
  obtain ⟨g, rfl, h3, h4, h5, h6⟩ := hd_at h1 ht
  rw [h2 t (Nat.le_refl _) ht] at h5
  refine ⟨g, rfl, h3, h.low g h6, h5, ?_⟩
  exact (h1.cells ht).2
theorem YInv.below (h : YInv w b1 b2 v i n t R) (hb : Below w.heap.size w w') : YInv w' b1 b2 v i n t R := by
  obtain ⟨H, h1, h2⟩ := h.own
  exact ⟨⟨H, h1.below hb (Nat.le_refl _), h2⟩, h.low, fun j h3 h4 => by
    obtain ⟨k1, k2, Y, k3⟩ := h.row j h3 h4
    exact ⟨k1, k2, Y, k3.new_ hb⟩⟩
theorem YInv.set (h : YInv w b1 b2 v i n t R) (ht : t < i) {k u : Nat} (hk : k < n) : YInv (w.setCell ⟨R t, k, none⟩ (.int .u8 ((u : Nat) : Int))) b1 b2 v i n t R := by
  obtain ⟨H, h1, h2⟩ := h.own
  obtain ⟨_, _, Y, hy⟩ := h.row t (Nat.le_refl _) ht
  refine ⟨⟨H, h1.keep fun g hg => Below.heap_setCell w ⟨R t, k, none⟩ _ g (fun e => h1.neG hy (by rw [hg, e])), h2⟩, h.low, fun j h3 h4 => ?_⟩
  obtain ⟨k1, k2, Z, k3⟩ := h.row j h3 h4
  refine ⟨k1, k2, ?_⟩
  by_cases e : R j = R t
  · rw [e]
    exact ⟨_, hy.set hk⟩
  · exact ⟨Z, k3.far (p := ⟨R t, k, none⟩) e _⟩
theorem YInv.store {g c n2 c2 : Nat} {a : Option Addr} (h : YInv w b1 b2 (.slice (some ⟨g, 0, none⟩) i c) i n t R) (ht : t < i) : YInv (w.setCell ⟨g, t, none⟩ (.slice a n2 c2)) b1 b2 (.slice (some ⟨g, 0, none⟩) i c) i n (t + 1) R := by
  obtain ⟨H, h1, h2⟩ := h.own
  refine ⟨⟨_, h1.set (a := (a, n2, c2)) ht, fun j h3 h4 => ?_⟩, h.low, fun j h3 h4 => ?_⟩
  · rw [if_neg (by omega)]
    exact h2 j (by omega) h4
  · obtain ⟨k1, k2, Z, k3⟩ := h.row j (by omega) h4
    exact ⟨k1, k2, Z, k3.far (p := ⟨g, t, none⟩) (fun e => h1.neG k3 (by rw [e]; rfl)) _⟩
end
/-- 'append' of one byte onto a row that has no room: new memory -/
theorem wpList_grow8 {w : World} {ops : Array Oper} {rest : List Oper} {o : Oper} {a : Act} {Q : Exit → Act → World → Prop} (hgd : o.guard = none) (s x : Operand)
    (ho : o.op = .call { callee := .builtin .append, args := #[s, x], argTypes := #[31, 31] }) {g n : Nat} {X : Nat → Nat} {ad : Addr} {u : Value} (hs : a.eval s = .slice (some ⟨g, 0, none⟩) n n) (hx : a.eval x = .slice (some ad) 1 1)
    (hr : RowG w g n X) (hu : w.cell? ad = some u) (hn : n ≤ 4096)
    (h : ∀ g' c' w', Below w.heap.size w w' → wpList Try.prog ops Q rest (a.put o.dst (.slice (some ⟨g', 0, none⟩) (n + 1) c')) w') : wpList Try.prog ops Q (o :: rest) a w := by
  refine wpList_plain hgd fun K hK => ?_
  obtain ⟨i0, hi, hz0, hz1, hz2⟩ := info_parts info8
  have hrun := run_append_grow (P := Try.prog) w 31 o.type 5 i0 (.int .u8 0) Try.underlying31 hi hz0 ⟨g, 0, none⟩ n n (bytesL n X) (by rw [bytesL_length, hz1, Nat.mul_one])
    (fun j v hj => by
      have hjn : j < n := by have := (List.getElem?_eq_some_iff.1 hj).1; rw [bytesL_length] at this; exact this
      rw [bytesL_get X hjn] at hj
      injection hj with hj
      subst hj
      rw [add_plain, Nat.zero_add]
      exact hr.cell hjn) ad 1 1 [u] (by rw [hz1]; rfl)
    (fun j v hj => by
      have hj0 : j = 0 := by
        rcases Nat.eq_zero_or_pos j with e | e
        · exact e
        · simp [show j ≠ 0 by omega] at hj
      subst hj0
      simp at hj
      subst hj
      rw [show ad.add 0 = ad by obtain ⟨b, o, s⟩ := ad; cases s <;> simp [Addr.add]]
      exact hu) (by omega) (by omega) (by rw [hz2]; exact growslice_fits (by omega) (by omega))
  unfold Oper.wp execOp
  simp only [ho, resolve, invoke, builtin, Sem.run_bind, Sem.run_pure, Result.andThen_ok, List.map_toArray, List.map_cons, List.map_nil, hs, hx, hrun]
  exact hK _ _ (h _ _ _ ((Below.refl w.heap.size w).drew.alloc (Nat.le_refl _) _))
end parityApart
end Go.Proofs.Ytoabhbmhjelplaa
