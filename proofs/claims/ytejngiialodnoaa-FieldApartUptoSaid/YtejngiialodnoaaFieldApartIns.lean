/-
  Copies of rows, each with three bytes of spare room, that a law collects. No conditions beyond those that each theorem types.
-/
import Derived.Test.YtejngiialodnoaaDetTell
import Derived.Test.YtejngiialodnoaaFieldFresh
namespace Go.Proofs.Ytejngiialodnoaa
open Go Go.RowKit
set_option maxRecDepth 100000
set_option linter.unusedVariables false
theorem wp_append_room8 {w : World} {o : Oper} {a : Act} {K : Act → World → Prop} {Q : Exit → Act → World → Prop} (s y : Operand)
    (ho : o.op = .call { callee := .builtin .append, args := #[s, y], argTypes := #[37, 37] }) {g n m c cap B : Nat} {A : Option Addr} {f x : Nat → Nat} (hs : a.eval s = .slice (some ⟨g, 0, none⟩) n cap) (hy : a.eval y = .slice A m c)
    (hb : Blk w g 5 (rowArr cap f)) (hx : RdB w B A m x) (h0 : A = none → c = 0) (hmc : m ≤ c) (hr : n + m ≤ cap)
    (h : ∀ w', Blk w' g 5 (rowArr cap (put8 f x n m)) → Only g w w' → w'.heap.size = w.heap.size → K (a.put o.dst (.slice (some ⟨g, 0, none⟩) (n + m) cap)) w') : o.wp Try.prog a w K Q := by
  obtain ⟨w', hrun, h1, h2, h3⟩ := run_append_room8 (c := c) o.type hb hx h0 hmc hr
  unfold Oper.wp execOp
  simp only [ho, resolve, invoke, builtin, Sem.run_bind, Sem.run_pure, Result.andThen_ok, List.map_toArray, List.map_cons, List.map_nil, hs, hy, hrun]
  exact h w' h1 h2 h3
theorem make_roomF (n : Nat) (hn : n ≤ 2199023255552) (w : World) (l : Int) (hl : l = (n : Int)) :
    (Instr.makeSlice 37 (.int .i64 0) (.int .i64 l)).run Try.prog w = .ok (.slice (some ⟨w.heap.size, 0, none⟩) 0 n) (w.alloc (.cells (rowArr n (fun _ => 0)) 5)) := by
  subst hl
  obtain ⟨i0, hi, hz0, hz1, hz2⟩ := info_parts info_u8
  have h := run_make (P := Try.prog) (w := w) 37 5 i0 (.int .u8 0) Try.underlying37 hi hz0 .i64 .i64 (0 : Int) (n : Int) (by omega) (by omega) (by rw [hz2]; omega) (by omega)
  rw [h, hz1, Int.toNat_natCast, Nat.mul_one]
  show _ = _
  rw [show (Value.int .u8 0).cells = #[.int .u8 0] from rfl, madeCells_one, replicate_row]
  rfl
theorem Blk.keep {w w' : World} {g : Nat} {t : TypeId} {cs : Array Value} (h : Blk w g t cs) (e : w'.heap[g]? = w.heap[g]?) : Blk w' g t cs := by
  unfold Blk at h ⊢
  rw [e]
  exact h
theorem blk_ne {w : World} {base n g : Nat} {v : Value} {X : Nat → Hd} {cs : Array Value} (h : OwnS w base v n X) (hb : Blk w g 5 cs) : v.ownBlock ≠ some g := fun e => by
  rcases h with ⟨rfl, _⟩ | ⟨g', cap, cur, fr, rfl, _, hg, _⟩
  · cases e
  · simp [Value.ownBlock] at e
    subst e
    unfold Blk at hb
    rw [hb] at hg
    injection hg with hg
    injection hg with _ hg _
    exact absurd hg (by decide)
def putF (n : Nat) (x : Nat → Nat) : Nat → Nat := put8 (fun _ => 0) x 0 n
theorem putF_in (x : Nat → Nat) {n j : Nat} (h : j < n) : putF n x j = x j := by unfold putF put8; rw [if_pos ⟨by omega, by omega⟩]; rfl
theorem putF_out (x : Nat → Nat) {n j : Nat} (h : n ≤ j) : putF n x j = 0 := by unfold putF put8; rw [if_neg (by omega)]
structure Ins (w : World) (base : Nat) (v : Value) (t : Nat) (L : Nat → Nat) (R : Nat → Nat) (x : Nat → Nat → Nat) : Prop where
  own : OwnS w base v t (fun j => (some ⟨R j, 0, none⟩, L j, L j + 3))
  row : ∀ j, j < t → base ≤ R j ∧ Blk w (R j) 5 (rowArr (L j + 3) (putF (L j) (x j)))
theorem Ins.none_ (w : World) (base : Nat) (L R : Nat → Nat) (x : Nat → Nat → Nat) : Ins w base (.slice none 0 0) 0 L R x := ⟨OwnS.nil _ _ _, fun j hj => absurd hj (by omega)⟩
theorem Ins.below {w w' : World} {base t B : Nat} {v : Value} {L R : Nat → Nat} {x : Nat → Nat → Nat} (h : Ins w base v t L R x) (hb : Below B w w') (hB : w.heap.size ≤ B) : Ins w' base v t L R x :=
  ⟨h.own.below hb hB, fun j hj => ⟨(h.row j hj).1, (h.row j hj).2.below hb (Nat.lt_of_lt_of_le (h.row j hj).2.lt hB)⟩⟩
theorem Ins.push {w w2 : World} {base t g l : Nat} {v v' : Value} {L R : Nat → Nat} {x : Nat → Nat → Nat} (h : Ins w base v t L R x) (hl : l = L t) (ho : OwnS w2 base v' (t + 1) (catS t (fun j => (some ⟨R j, 0, none⟩, L j, L j + 3)) (fun _ => (some ⟨g, 0, none⟩, l, l + 3))))
    (hg : w.grownBy w2 v.ownBlock) (hr : Blk w g 5 (rowArr (l + 3) (putF l (x t)))) (hb : base ≤ g) : Ins w2 base v' (t + 1) L (fun j => if j = t then g else R j) x := by
  subst hl
  refine ⟨ho.congr fun j hj => ?_, fun j hj => ?_⟩
  · unfold catS
    by_cases e : j < t
    · rw [if_pos e, if_neg (by omega)]
    · obtain rfl : j = t := by omega
      rw [if_neg e, if_pos rfl]
  · by_cases e : j < t
    · rw [if_neg (by omega)]
      exact ⟨(h.row j e).1, (h.row j e).2.keep (hg.block _ (h.row j e).2.lt (fun q => blk_ne h.own (h.row j e).2 q.symm))⟩
    · obtain rfl : j = t := by omega
      rw [if_pos rfl]
      exact ⟨hb, hr.keep (hg.block _ hr.lt (fun q => blk_ne h.own hr q.symm))⟩
theorem Ins.rdr {w : World} {base t : Nat} {v : Value} {L R : Nat → Nat} {x : Nat → Nat → Nat} (h : Ins w base v t L R x) (hx : ∀ j, j < t → ∀ k, k < L j → x j k < 256) :
    ∃ A c, v = .slice A t c ∧ t ≤ c ∧ c ≤ maxLen ∧ RdR w w.heap.size A t (fun j => some ⟨R j, 0, none⟩) L (fun j => L j + 3) x := by
  obtain ⟨A, c, rfl, h1, h2, h3, _⟩ := h.own.shape
  refine ⟨A, c, rfl, h2, h3, fun j hj => ?_⟩
  obtain ⟨b, o, q1, q2, q3⟩ := h1 j hj
  refine ⟨b, o, q1, q2, q3, ?_⟩
  have hr := (h.row j hj).2
  exact fun k hk => ⟨R j, 0, rfl, hr.lt, by rw [Nat.zero_add, hr.cell, rowArr_get (by omega), putF_in _ hk], hx j hj k hk⟩
end Go.Proofs.Ytejngiialodnoaa
